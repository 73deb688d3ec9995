import Derived.Test.YtibkhphbilfckaaGreatDoorPacks
namespace Go.Proofs.YtibkhphbilfckaaGreatDoor
open Go.RowKit Scour Go.Lib

theorem Tryz.infoBo : (Tryz.prog.info? 4).map (fun i => (i.zero, i.size, i.bytes)) = some (some (.bool false), 1, 1) := by kernel_rfl

/-- The states that are done, in memory. -/
def boolsF (d : Nat → Bool) (n : Nat) : List Value := (List.range n).map fun i => .bool (d i)
theorem boolsF_get (d : Nat → Bool) (n i : Nat) (h : i < n) : (boolsF d n)[i]? = some (.bool (d i)) := by simp [boolsF, h]
theorem boolsF_len (d : Nat → Bool) (n : Nat) : (boolsF d n).length = n := by simp [boolsF]
theorem boolsF_set (d : Nat → Bool) (n i : Nat) : (boolsF d n).set i (.bool true) = boolsF (fun k => if k = i then true else d k) n := by
  apply List.ext_getElem?
  intro j
  rw [List.getElem?_set]
  by_cases hj : j < n
  · rw [boolsF_get _ _ _ hj, boolsF_get _ _ _ hj, boolsF_len]
    by_cases e : i = j
    · subst e; simp [hj]
    · rw [if_neg e, if_neg (fun h => e h.symm)]
  · rw [List.getElem?_eq_none (by rw [boolsF_len]; omega), List.getElem?_eq_none (by rw [boolsF_len]; omega)]
    split
    · split
      · rename_i h1 h2; rw [boolsF_len] at h2; omega
      · rfl
    · rfl

/-- What turns blocks of bools alone turns no rows. -/
theorem RRows.kept {w w' : World} {rb : Nat} {vO vF vC : Value} {rs : Nat → Value} {L : Nat → List (Nat × Nat)} {n : Nat} {off : Nat → Int} {cl : List (Int × Int)} (h : RRows w rb vO vF vC rs L n off cl) {bd : Nat} {cur : Array Value} (hbd : w.heap[bd]? = some (.cells cur 4 (0, 0))) (hb : ∀ k, k < w.heap.size → k ≠ bd → w'.heap[k]? = w.heap[k]?) : RRows w' rb vO vF vC rs L n off cl := by
  have hfr : ∀ {e : Nat} {u : Value} {m sz : Nat} {xs : List Value}, e ≠ 4 → w.ownsRow 0 e sz u m xs → w'.ownsRow 0 e sz u m xs := by
    intro e u m sz xs h1 hu
    refine owns_kept hu (fun b hl hv => hb b hl ?_)
    obtain ⟨c2, hc2⟩ := owns_block hu hv
    exact two_types hc2 hbd h1
  exact ⟨(hb rb (Array.getElem?_eq_some_iff.1 h.blk).1 (two_types h.blk hbd (by decide))).trans h.blk, ⟨hfr (by decide) h.own.row, fun i hi => hfr (by decide) (h.own.each i hi)⟩, hfr (by decide) h.offs, hfr (by decide) h.cels, h.apart⟩

theorem packP_bool {w : World} {rb : Nat} {vO vF vC : Value} {rs : Nat → Value} {L : Nat → List (Nat × Nat)} {n : Nat} {off : Nat → Int} {cl : List (Int × Int)} (h : RRows w rb vO vF vC rs L n off cl) {bd : Nat} {cur : Array Value} (hbd : w.heap[bd]? = some (.cells cur 4 (0, 0))) : ¬ packP rb vF vC bd := by
  rintro (e | e | e)
  · exact two_types hbd h.blk (by decide) e
  · obtain ⟨c2, hc2⟩ := owns_block h.offs e
    exact two_types hbd hc2 (by decide) rfl
  · obtain ⟨c2, hc2⟩ := owns_block h.cels e
    exact two_types hbd hc2 (by decide) rfl

theorem falses (n : Nat) : (madeCells #[Value.bool false] n).toList = boolsF (fun _ => false) n := by
  simp only [madeCells, boolsF]
  simp [Nat.mod_one]

theorem falses_row (w : World) (n : Nat) (hn : n < 10000) : (w.alloc (.cells (madeCells #[Value.bool false] n) 4)).ownsRow 0 4 1 (.slice (some ⟨w.heap.size, 0, none⟩) n n) n (boolsF (fun _ => false) n) := by
  have hl := falses n
  have hsz : (madeCells #[Value.bool false] n).size = n := by
    have := congrArg List.length hl
    rw [boolsF_len] at this
    simpa using this
  refine ⟨by rw [boolsF_len]; omega, Or.inr ⟨w.heap.size, n, _, rfl, Nat.zero_le _, heap_alloc_new w _, Nat.le_refl _, by unfold maxLen; omega, by rw [hsz]; omega, ?_⟩⟩
  rw [hl, List.take_of_length_le (by rw [boolsF_len]; omega)]

/-- All rows' state while they are packed. -/
structure PInv (w wr : World) (rb bd : Nat) (vO vF vC : Value) (rs : Nat → Value) (L : Nat → List (Nat × Nat)) (n : Nat) (p : PSt) : Prop where
  rows : RRows wr rb vO vF vC rs L n p.o p.cl
  done : wr.ownsRow 0 4 1 (.slice (some ⟨bd, 0, none⟩) n n) n (boolsF p.d n)
  below : Below w.heap.size w wr
  geB : w.heap.size ≤ rb ∧ w.heap.size ≤ bd
  geF : ∀ b, vF.ownBlock = some b → w.heap.size ≤ b
  geC : ∀ b, vC.ownBlock = some b → w.heap.size ≤ b

theorem PInv.drewN {w wr : World} {rb bd : Nat} {vO vF vC : Value} {rs : Nat → Value} {L : Nat → List (Nat × Nat)} {n : Nat} {p : PSt} (h : PInv w wr rb bd vO vF vC rs L n p) (m : Nat) : PInv w (wr.drewN m) rb bd vO vF vC rs L n p :=
  ⟨h.rows.same (fun k hk => (below_drewN (Below.refl wr.heap.size wr) m).block k hk), h.done, below_drewN h.below m, h.geB, h.geF, h.geC⟩

/-- A state is done. -/
theorem PInv.mark {w wr : World} {rb bd : Nat} {vO vF vC : Value} {rs : Nat → Value} {L : Nat → List (Nat × Nat)} {n : Nat} {p : PSt} (h : PInv w wr rb bd vO vF vC rs L n p) {b : Nat} (_hb : b < n) :
    PInv w (wr.setCell ⟨bd, b, none⟩ (.bool true)) rb bd vO vF vC rs L n ⟨fun k => if k = b then true else p.d k, p.o, p.cl⟩ := by
  obtain ⟨cur, hcur⟩ := owns_blk h.done
  refine ⟨h.rows.kept hcur (fun k _ hk => Below.heap_setCell wr _ _ k hk), ?_, h.below.setCell h.geB.2 _, h.geB, h.geF, h.geC⟩
  have := (h.done.stored b (.bool true)).1
  rw [boolsF_set] at this
  exact this

/-- A row is laid. -/
theorem PInv.lie {w wr w2 : World} {rb bd : Nat} {vO vF vC vC2 : Value} {rs : Nat → Value} {L : Nat → List (Nat × Nat)} {n : Nat} {p : PSt} {o2 : Nat → Int} {cl2 : List (Int × Int)} (h : PInv w wr rb bd vO vF vC rs L n p) (hR : RRows w2 rb vO vF vC2 rs L n o2 cl2) (hM : Mod (packP rb vF vC) wr w2) (ho : vC2.ownBlock = vC.ownBlock ∨ ∀ b, vC2.ownBlock = some b → wr.heap.size ≤ b) :
    PInv w w2 rb bd vO vF vC2 rs L n ⟨p.d, o2, cl2⟩ := by
  obtain ⟨cur, hcur⟩ := owns_blk h.done
  have hl := (Array.getElem?_eq_some_iff.1 hcur).1
  have hs := h.below.size
  refine ⟨hR, owns_same h.done (hM.out bd hl (packP_bool h.rows hcur)), h.below.trans (hM.below hs ?_), h.geB, h.geF, ?_⟩
  · rintro k (rfl | e | e)
    · exact h.geB.1
    · exact h.geF k e
    · exact h.geC k e
  · intro b hb
    rcases ho with e | e
    · exact h.geC b (e ▸ hb)
    · have := e b hb; omega

/-- A new row of zeros. -/
theorem rrows_a {w w1 : World} {vO : Value} {rs : Nat → Value} {L : Nat → List (Nat × Nat)} {n : Nat} (hO : Owns w1 w.heap.size vO rs L n) (hb : Below w.heap.size w w1) (hn : n < 10000) :
    RRows ((w1.alloc (.cells (madeCells #[Value.int .i64 0] n) 3)).alloc (.cells #[vO, .slice (some ⟨w1.heap.size, 0, none⟩) n n, .slice none 0 0] 197)) (w1.heap.size + 1) vO (.slice (some ⟨w1.heap.size, 0, none⟩) n n) (.slice none 0 0) rs L n (fun _ => 0) [] ∧
      Below w.heap.size w ((w1.alloc (.cells (madeCells #[Value.int .i64 0] n) 3)).alloc (.cells #[vO, .slice (some ⟨w1.heap.size, 0, none⟩) n n, .slice none 0 0] 197)) := by
  have h1 : Below w1.heap.size w1 (w1.alloc (.cells (madeCells #[Value.int .i64 0] n) 3)) := (Below.refl _ _).alloc (Nat.le_refl _) _
  have h2 : Below (w1.heap.size + 1) (w1.alloc (.cells (madeCells #[Value.int .i64 0] n) 3)) ((w1.alloc (.cells (madeCells #[Value.int .i64 0] n) 3)).alloc (.cells #[vO, .slice (some ⟨w1.heap.size, 0, none⟩) n n, .slice none 0 0] 197)) := (Below.refl _ _).alloc (by simp) _
  have hbl := h1.trans (h2.mono (Nat.le_succ _))
  have hsz := hb.size
  refine ⟨⟨?_, ?_, ?_, World.ownsRow_nil _ _ _ _, ?_⟩, hb.trans (hbl.mono hsz)⟩
  · have := heap_alloc_new (w1.alloc (.cells (madeCells #[Value.int .i64 0] n) 3)) (.cells #[vO, .slice (some ⟨w1.heap.size, 0, none⟩) n n, .slice none 0 0] 197)
    rw [show (w1.alloc (.cells (madeCells #[Value.int .i64 0] n) 3)).heap.size = w1.heap.size + 1 by simp] at this
    exact this
  · have := hO.below hbl
    exact ⟨owns_zero this.row, fun i hi => owns_zero (this.each i hi)⟩
  · exact owns_kept (zeros_row w1 n hn) (fun b hl _ => h2.block b (by simpa using hl))
  · intro i b hi hv e
    have e1 : w1.heap.size = b := by simpa [Value.ownBlock] using e
    obtain ⟨cur, hc⟩ := owns_block (hO.each i hi) hv
    have := (Array.getElem?_eq_some_iff.1 hc).1
    omega

theorem rrows_b {w w1 : World} {vO : Value} {rs : Nat → Value} {L : Nat → List (Nat × Nat)} {n : Nat} (hO : Owns w1 (w.alloc (.cells (madeCells #[Value.int .i64 0] n) 3)).heap.size vO rs L n) (hb : Below (w.alloc (.cells (madeCells #[Value.int .i64 0] n) 3)).heap.size (w.alloc (.cells (madeCells #[Value.int .i64 0] n) 3)) w1) (hn : n < 10000) :
    RRows (w1.alloc (.cells #[vO, .slice (some ⟨w.heap.size, 0, none⟩) n n, .slice none 0 0] 197)) w1.heap.size vO (.slice (some ⟨w.heap.size, 0, none⟩) n n) (.slice none 0 0) rs L n (fun _ => 0) [] ∧
      Below w.heap.size w (w1.alloc (.cells #[vO, .slice (some ⟨w.heap.size, 0, none⟩) n n, .slice none 0 0] 197)) := by
  have h0 : Below w.heap.size w (w.alloc (.cells (madeCells #[Value.int .i64 0] n) 3)) := (Below.refl _ _).alloc (Nat.le_refl _) _
  have h1 : Below w1.heap.size w1 (w1.alloc (.cells #[vO, .slice (some ⟨w.heap.size, 0, none⟩) n n, .slice none 0 0] 197)) := (Below.refl _ _).alloc (Nat.le_refl _) _
  have hs0 : (w.alloc (.cells (madeCells #[Value.int .i64 0] n) 3)).heap.size = w.heap.size + 1 := by simp
  have hs1 := hb.size
  refine ⟨⟨heap_alloc_new w1 _, ?_, ?_, World.ownsRow_nil _ _ _ _, ?_⟩, h0.trans ((hb.mono (by omega)).trans (h1.mono (by omega)))⟩
  · have := hO.below h1
    exact ⟨owns_zero this.row, fun i hi => owns_zero (this.each i hi)⟩
  · exact owns_kept (zeros_row w n hn) (fun b hl _ => (h1.block b (by omega)).trans (hb.block b hl))
  · intro i b hi hv e
    have e1 : w.heap.size = b := by simpa [Value.ownBlock] using e
    have := own_lt (hO.each i hi) b hv
    omega

end Go.Proofs.YtibkhphbilfckaaGreatDoor

namespace Go.Proofs.YtibkhphbilfckaaGreatDoor
open Go.RowKit Scour Go.Lib

set_option maxHeartbeats 8000000 in
set_option maxRecDepth 100000 in
theorem rows_any (br gS cS : Nat) (vL : Value) (ps S : List Str) (c : Str) (w : World) (hM : RMach w br vL gS cS ps S) (hsh : ∀ k, k < S.length → (at' S k).length < 1000) (hcl : c.length ≤ 256) :
    Calls Tryz.prog 100 #[.pointer (some ⟨br, 0, none⟩), .string ⟨c.toArray⟩] w fun e w' => ∃ rb vO vF vC rs, e = .returned (.pointer (some ⟨rb, 0, none⟩)) ∧ RRows w' rb vO vF vC rs (excL S c) S.length (packed (excL S c) S.length).o (packed (excL S c) S.length).cl ∧ Below w.heap.size w w' := by
  have hSl := hM.len
  have hpos := hM.pos
  have lbr := (Array.getElem?_eq_some_iff.1 hM.blk).1
  have hmi := fun W => run_make_row' (P := Tryz.prog) 24 3 (.int .i64 0) 8 Tryz.underlying24 Tryz.infoI rfl .i64 .i64 S.length (by omega) (by omega) W
  have HEX : Hid (∀ W, Below w.heap.size w W → Calls Tryz.prog 123 #[.pointer (some ⟨br, 0, none⟩), .string ⟨c.toArray⟩] W fun e w' => ∃ gO cO rs, e = .returned (.slice (some ⟨gO, 0, none⟩) S.length cO) ∧ Owns w' W.heap.size (.slice (some ⟨gO, 0, none⟩) S.length cO) rs (excL S c) S.length ∧ Below W.heap.size W w') := hide (fun W hb => (exceptions_any br gS cS vL ps S c W (hM.below hb) hsh hcl).mono (by
    rintro e w' ⟨v, rs, rfl, hO, hb2⟩
    rcases hO.row.2 with ⟨_, h0⟩ | ⟨gO, cO, cur, rfl, _⟩
    · omega
    · exact ⟨gO, cO, rs, rfl, hO, hb2⟩))
  have HC1 : Hid (∀ W, Below w.heap.size w W → W.cell? ⟨br, 1, none⟩ = some (.slice (some ⟨gS, 0, none⟩) S.length cS)) := hide (fun W hb => by rw [cell_of_blk (hM.below hb).blk]; rfl)
  have c1 := unhide HC1 w (Below.refl _ _)
  have HNL : Hid (∀ n b, nextN S n b < 10000) := hide (fun n b => Nat.lt_of_lt_of_le (rnext_lt hM n b) (by omega))
  clear hM hsh
  obtain ⟨tx, htx⟩ : ∃ tx, tx = (⟨c.toArray⟩ : ByteArray) := ⟨_, rfl⟩
  rw [← htx] at HEX ⊢
  clear htx
  generalize hL : excL S c = L at *
  have HLE : Hid (∀ s, excL S c s = L s) := hide (fun s => by rw [hL])
  clear hL
  go_enter Tryz.func100, Tryz.ntmps100
  go_wp2_with fail
  go_cut [5] (fun v wx => ∃ rb vO vF rs, v = .pointer (some ⟨rb, 0, none⟩) ∧ Hid (RRows wx rb vO vF (.slice none 0 0) rs L S.length (fun _ => 0) []) ∧ Hid (w.heap.size ≤ rb ∧ (∀ b, vF.ownBlock = some b → w.heap.size ≤ b)) ∧ Hid (Below w.heap.size w wx))
  case first =>
    go_region_with (go_at_call 123; refine (unhide HEX _ (by first | exact Below.refl _ _ | exact (Below.refl _ _).alloc (Nat.le_refl _) _ | exact (Below.refl _ _).drew | exact ((Below.refl _ _).alloc (Nat.le_refl _) _).drew | exact ((Below.refl _ _).drew).alloc (Nat.le_refl _) _)).mono ?_; rintro e w1 ⟨gO, cO, rs, rfl, hO, hb1⟩; (first | have c2 : w1.cell? ⟨br, 1, none⟩ = some (.slice (some ⟨gS, 0, none⟩) S.length cS) := (hb1.cell (p := ⟨br, 1, none⟩) lbr).trans c1 | skip); have HO := hide hO; have HB1 := hide hb1; clear hO hb1)
    all_goals go_wp2_with fail
    all_goals go_meet
    · obtain ⟨q1, q2⟩ := rrows_a (w := w) (unhide HO) ⟨(unhide HB1).os, (unhide HB1).tape, (unhide HB1).output, (unhide HB1).size, (unhide HB1).block⟩ hSl
      exact ⟨_, _, _, _, rfl, hide q1, hide ⟨by have := (unhide HB1).size; simp at this; omega, fun b hb => by have e : w1.heap.size = b := (by simpa [Value.ownBlock] using hb); have := (unhide HB1).size; simp at this; omega⟩, hide q2⟩
    · obtain ⟨q1, q2⟩ := rrows_a (w := w) (unhide HO) ⟨(unhide HB1).os, (unhide HB1).tape, (unhide HB1).output, (unhide HB1).size, (unhide HB1).block⟩ hSl
      exact ⟨_, _, _, _, rfl, hide q1, hide ⟨by have := (unhide HB1).size; simp at this; omega, fun b hb => by have e : w1.heap.size = b := (by simpa [Value.ownBlock] using hb); have := (unhide HB1).size; simp at this; omega⟩, hide q2⟩
    · obtain ⟨q1, q2⟩ := rrows_b (w := w) (unhide HO) ⟨(unhide HB1).os, (unhide HB1).tape, (unhide HB1).output, (unhide HB1).size, (unhide HB1).block⟩ hSl
      exact ⟨_, _, _, _, rfl, hide q1, hide ⟨by have := (unhide HB1).size; simp at this; omega, fun b hb => by have e : w.heap.size = b := (by simpa [Value.ownBlock] using hb); omega⟩, hide q2⟩
  case rest =>
    obtain ⟨rb, vO, vF, rs, rfl, HR, HG, HB⟩ := hcut
    have c2 := unhide HC1 wc (unhide HB)
    have HPI : Hid (PInv w (wc.alloc (.cells (madeCells #[Value.bool false] S.length) 4)) rb wc.heap.size vO vF (.slice none 0 0) rs L S.length (packTo L S.length 0)) := hide (by
      have hb1 : Below wc.heap.size wc (wc.alloc (.cells (madeCells #[Value.bool false] S.length) 4)) := (Below.refl _ _).alloc (Nat.le_refl _) _
      exact ⟨(unhide HR).same (fun k hk => hb1.block k hk), falses_row wc _ hSl, (unhide HB).trans (hb1.mono (unhide HB).size), ⟨(unhide HG).1, (unhide HB).size⟩, (unhide HG).2, fun b h => by cases h⟩)
    have hmb := fun W => run_make_row' (P := Tryz.prog) 228 4 (.bool false) 1 Tryz.underlying228 Tryz.infoBo rfl .i64 .i64 S.length (by omega) (by omega) W
    clear HR HG HB hmi HEX c1
    go_wp2_with fail
    generalize wc.heap.size = bd at *
    generalize wc.alloc (.cells (madeCells #[Value.bool false] S.length) 4) = wd at *
    clear c2 hmb
    go_loopg [7] S.length (fun m _ wr => ∃ (k : Nat) (vC : Value), m + k = S.length ∧ Hid (leftN (packTo L S.length k).d S.length = m) ∧ (packTo L S.length k).cl.length ≤ 1000 * k ∧ Hid (PInv w wr rb bd vO vF vC rs L S.length (packTo L S.length k)))
    case atStart => exact ⟨0, _, by omega, hide (leftN_none _), Nat.le_refl _, HPI⟩
    case round =>
      obtain ⟨k, vC, hmk, HLF, hcl2, HI⟩ := hrel
      have HST : Hid (packTo L S.length (k + 1) = packStep L S.length (packTo L S.length k)) := hide rfl
      have HEN := hide (packTo_end L S.length k)
      generalize hp : packTo L S.length k = p at *
      have HP := hide hp
      clear hp
      obtain ⟨gO, cO, rfl⟩ : ∃ gO cO, vO = .slice (some ⟨gO, 0, none⟩) S.length cO := by
        rcases (unhide HI).rows.own.row.2 with ⟨_, h0⟩ | ⟨gO, cO, cur, h, _⟩
        · omega
        · exact ⟨gO, cO, h⟩
      have HRD : Hid (∀ W, PInv w W rb bd (.slice (some ⟨gO, 0, none⟩) S.length cO) vF vC rs L S.length p → W.cell? ⟨br, 1, none⟩ = some (.slice (some ⟨gS, 0, none⟩) S.length cS) ∧ W.cell? ⟨rb, 0, none⟩ = some (.slice (some ⟨gO, 0, none⟩) S.length cO) ∧ (∀ s, s < S.length → W.cell? ⟨bd, s, none⟩ = some (.bool (p.d s))) ∧ ∀ s, s < S.length → ∃ ao cc, W.cell? ⟨gO, s, none⟩ = some (.slice ao (2 * (L s).length) cc)) := hide (fun W h => by
        refine ⟨unhide HC1 W h.below, by rw [cell_of_blk h.rows.blk]; rfl, fun s hs => by rw [h.done.cellAt s (by omega), boolsF_get _ _ _ hs], fun s hs => ?_⟩
        have hr := h.rows.own.row.cellAt s (by omega)
        rw [hr]
        rcases (h.rows.own.each s hs).2 with ⟨h1, h2⟩ | ⟨g, cap, cur, h1, _⟩
        · exact ⟨none, 0, by simp [hs, h1, h2]⟩
        · exact ⟨some ⟨g, 0, none⟩, cap, by simp [hs, h1]⟩)
      have HLL : Hid (∀ s, (L s).length ≤ 256) := hide (fun s => by rw [← unhide HLE]; exact Nat.le_trans (excTo_len S c s _) hcl)
      go_wp2_with fail
      go_loopw [7, 8] (fun v7 v8 wz => ∃ s q : Nat, v8 = .int .i64 s ∧ s ≤ S.length ∧ v7 = .int .i64 (bestTo L p.d s) ∧ wz = wr.drewN q) (fun _ v8 _ => S.length - (intOf v8).toNat)
      case atStart => exact ⟨0, 0, rfl, Nat.zero_le _, rfl, rfl⟩
      case round =>
        obtain ⟨s, q, rfl, hs, rfl, rfl⟩ := hrel
        obtain ⟨wz, hwz⟩ : ∃ wz, wr.drewN q = wz := ⟨_, rfl⟩
        have HIz : Hid (PInv w wz rb bd (.slice (some ⟨gO, 0, none⟩) S.length cO) vF vC rs L S.length p) := hide (hwz ▸ (unhide HI).drewN q)
        rw [hwz]
        have HWZ := hide hwz
        clear hwz
        obtain ⟨y0, y1, y2, y3⟩ := unhide HRD wz (unhide HIz)
        by_cases hsl : s < S.length
        · have y4 := y2 s hsl
          obtain ⟨ao, cc, y5⟩ := y3 s hsl
          have i1 : (s : Int) < (S.length : Int) := by omega
          have i2 : (0 : Int) ≤ (s : Int) := by omega
          have hls := unhide HLL s
          have HNX : Hid (bestTo L p.d (s + 1) = if p.d s = false ∧ 0 < (L s).length ∧ (bestTo L p.d s < 0 ∨ (L (bestTo L p.d s).toNat).length < (L s).length) then (s : Int) else bestTo L p.d s) := hide rfl
          have HW2 : Hid (∀ nq, ∃ q2, wz.drewN nq = wr.drewN q2) := hide (fun nq => ⟨q + nq, by rw [← unhide HWZ, World.drewN_drewN]⟩)
          have HBS := hide (bestTo_spec L p.d s)
          clear y2
          cases hd : p.d s with
          | true =>
            rw [hd] at y4
            have HX : Hid (bestTo L p.d (s + 1) = bestTo L p.d s) := hide (by rw [unhide HNX, if_neg (by rw [hd]; simp)])
            clear HNX HBS hd y3
            generalize bestTo L p.d s = bs at *
            go_wp2_with fail
            go_quiet (fail)
            obtain ⟨q2, hq2⟩ := unhide HW2 nq
            rw [hq2]
            go_wp2_with fail
            go_roundw
            case rel => exact ⟨s + 1, q2, by go_num, hsl, by rw [unhide HX], rfl⟩
            case measure => simp [intOf]; omega
          | false =>
            rw [hd] at y4
            by_cases hl0 : 0 < (L s).length
            · have k0 : (0 : Int) < 2 * ((L s).length : Int) := by omega
              rcases unhide HBS with hm1 | ⟨b, hbs, hbe, _, _⟩
              · have HX : Hid (bestTo L p.d (s + 1) = (s : Int)) := hide (by rw [unhide HNX, if_pos ⟨hd, hl0, Or.inl (by rw [hm1]; decide)⟩])
                rw [hm1]
                clear HNX HBS hd y3 hl0 hm1
                go_wp2_with fail
                go_quiet (fail)
                obtain ⟨q2, hq2⟩ := unhide HW2 nq
                rw [hq2]
                go_wp2_with fail
                go_roundw
                case rel => exact ⟨s + 1, q2, by go_num, hsl, by rw [unhide HX], rfl⟩
                case measure => simp [intOf]; omega
              · obtain ⟨ab, cb, y6⟩ := y3 b (by omega)
                have i3 : (b : Int) < (S.length : Int) := by omega
                have i4 : (0 : Int) ≤ (b : Int) := by omega
                have hlb := unhide HLL b
                by_cases hgt : (L b).length < (L s).length
                · have k1 : 2 * ((L b).length : Int) < 2 * ((L s).length : Int) := by omega
                  have HX : Hid (bestTo L p.d (s + 1) = (s : Int)) := hide (by rw [unhide HNX, hbe, Int.toNat_natCast, if_pos ⟨hd, hl0, Or.inr hgt⟩])
                  rw [hbe]
                  clear HNX HBS hd y3 hl0 hbe hgt
                  go_wp2_with fail
                  go_quiet (fail)
                  obtain ⟨q2, hq2⟩ := unhide HW2 nq
                  rw [hq2]
                  go_wp2_with fail
                  go_roundw
                  case rel => exact ⟨s + 1, q2, by go_num, hsl, by rw [unhide HX], rfl⟩
                  case measure => simp [intOf]; omega
                · have k1 : ¬ 2 * ((L b).length : Int) < 2 * ((L s).length : Int) := by omega
                  have HX : Hid (bestTo L p.d (s + 1) = (b : Int)) := hide (by rw [unhide HNX, hbe, Int.toNat_natCast, if_neg (by rintro ⟨_, _, h | h⟩ <;> omega)])
                  rw [hbe]
                  clear HNX HBS hd y3 hl0 hbe hgt
                  go_wp2_with fail
                  go_quiet (fail)
                  obtain ⟨q2, hq2⟩ := unhide HW2 nq
                  rw [hq2]
                  go_wp2_with fail
                  go_roundw
                  case rel => exact ⟨s + 1, q2, by go_num, hsl, by rw [unhide HX], rfl⟩
                  case measure => simp [intOf]; omega
            · have hz : (L s).length = 0 := by omega
              rw [hz, Nat.mul_zero] at y5
              have HX : Hid (bestTo L p.d (s + 1) = bestTo L p.d s) := hide (by rw [unhide HNX, if_neg (by rintro ⟨_, h, _⟩; omega)])
              clear HNX HBS hd y3 hl0 hz hls
              generalize bestTo L p.d s = bs at *
              go_wp2_with fail
              go_quiet (fail)
              obtain ⟨q2, hq2⟩ := unhide HW2 nq
              rw [hq2]
              go_wp2_with fail
              go_roundw
              case rel => exact ⟨s + 1, q2, by go_num, hsl, by rw [unhide HX], rfl⟩
              case measure => simp [intOf]; omega
        · obtain rfl : s = S.length := by omega
          have i1 : ¬ (S.length : Int) < (S.length : Int) := by omega
          have HBS := hide (bestTo_spec L p.d S.length)
          by_cases hbn : bestTo L p.d S.length < 0
          · have HEQ := hide (unhide HEN hbn S.length (by omega))
            clear HBS
            generalize bestTo L p.d S.length = bs at *
            clear y2 y3
            go_wp2
            go_ret
            have hfin := (unhide HIz).rows
            have hbel := (unhide HIz).below
            rw [← unhide HEQ] at hfin
            exact ⟨rb, rfl, ⟨_, vF, vC, rs, hfin⟩, hbel⟩
          · obtain ⟨b, hb1, hb2, hb3, hb4⟩ : ∃ b : Nat, b < S.length ∧ bestTo L p.d S.length = b ∧ p.d b = false ∧ 0 < (L b).length := by
              rcases unhide HBS with h | h
              · rw [h] at hbn; omega
              · exact h
            have HPS : Hid (∀ a, a ≤ p.cl.length → freeB p.cl (L b) a = true → (∀ i, i < a → freeB p.cl (L b) i = false) → packTo L S.length (k + 1) = ⟨fun k => if k = b then true else p.d k, upd p.o b (a : Nat), lay p.cl b (L b) a⟩) := hide (fun a h1 h2 h3 => by
              rw [unhide HST, packStep, if_neg hbn, hb2, Int.toNat_natCast, offOf_eq h1 h2 h3])
            have HLF2 : Hid (leftN (fun k => if k = b then true else p.d k) S.length + 1 = gk) := hide (by rw [leftN_upd p.d b hb3 S.length hb1]; exact unhide HLF)
            have hgk : 0 < gk := by have := unhide HLF2; omega
            rw [hb2]
            clear HBS hbn hb2
            have y4 := y2 b hb1
            have fz : wz.frozen? ⟨bd, b, none⟩ = false := (unhide HIz).done.frozenAt b
            have HMK := hide ((unhide HIz).mark hb1)
            have i3 : (b : Int) < (S.length : Int) := by omega
            have i4 : (0 : Int) ≤ (b : Int) := by omega
            have hlb := unhide HLL b
            have HMEM : Hid (∀ x, x ∈ L b → x.1 < 1000 ∧ x.2 < 10000) := hide (fun x hx => by
              rw [← unhide HLE] at hx
              have := excTo_mem (unhide HNL) c.length x hx
              omega)
            clear y2 y3
            go_wp2_with fail
            generalize wz.setCell ⟨bd, b, none⟩ (.bool true) = w9 at *
            go_loop [9] (fun v9 => ∃ a : Nat, v9 = .int .i64 a ∧ a ≤ p.cl.length ∧ Hid (∀ i, i < a → freeB p.cl (L b) i = false)) (fun v9 => p.cl.length - (intOf v9).toNat)
            case atStart => exact ⟨0, rfl, Nat.zero_le _, hide (fun i h => absurd h (Nat.not_lt_zero _))⟩
            case round =>
              obtain ⟨a, rfl, hale, HFA⟩ := hrel
              have HFR := hide (free_any rb _ vF vC rs L S.length p.o p.cl b a w9 (unhide HMK).rows hb1 hb4 hlb hSl (fun x hx => (unhide HMEM x hx).1) (by omega) (by omega))
              cases hfb : freeB p.cl (L b) a with
              | true =>
                rw [hfb] at HFR
                have HLI := hide (lies_any rb _ vF vC rs L S.length p.o p.cl b a w9 (unhide HMK).rows hb1 hb4 hlb hSl (unhide HMEM) (by omega) (by omega))
                have HPE := hide (unhide HPS a hale hfb (unhide HFA))
                have HLE2 : Hid ((lay p.cl b (L b) a).length ≤ p.cl.length + 1000) := hide (lay_le (fun x hx => (unhide HMEM x hx).1) hale)
                clear hfb HFA HPS
                go_wp2_with (first | (go_at_call 124; refine (unhide HFR).mono ?_; rintro e w' ⟨rfl, hw⟩; have hw' := hw.symm; clear hw; subst hw') | (go_at_call 125; refine (unhide HLI).mono ?_; rintro e w2 ⟨rfl, vC2, hR2, hM2, ho2⟩; have HP2 := hide ((unhide HMK).lie hR2 hM2 ho2); clear hR2 hM2 ho2))
                go_roundg (gk - 1)
                case measure => omega
                case rel =>
                  refine ⟨k + 1, vC2, by omega, ?_, ?_, ?_⟩
                  · rw [unhide HPE]; exact hide (by have := unhide HLF2; simp only []; omega)
                  · rw [unhide HPE]; have := unhide HLE2; simp only []; omega
                  · rw [unhide HPE]; exact HP2
              | false =>
                rw [hfb] at HFR
                have hal2 : a < p.cl.length := by
                  rcases Nat.lt_or_ge a p.cl.length with h | h
                  · exact h
                  · have e : a = p.cl.length := by omega
                    rw [e, free_end] at hfb; cases hfb
                have HFA2 : Hid (∀ i, i < a + 1 → freeB p.cl (L b) i = false) := hide (fun i hi => by
                  by_cases e : i = a
                  · rw [e]; exact hfb
                  · exact unhide HFA i (by omega))
                clear hfb HFA
                go_wp2_with (go_at_call 124; refine (unhide HFR).mono ?_; rintro e w' ⟨rfl, hw⟩; have hw' := hw.symm; clear hw; subst hw')
                go_round
                case rel => exact ⟨a + 1, by go_num, hal2, HFA2⟩
                case measure => simp [intOf]; omega
end Go.Proofs.YtibkhphbilfckaaGreatDoor
