import Derived.Test.YthbbhpbkoankhaaGreatPkN
namespace Go.Proofs.YthbbhpbkoankhaaGreat
open Go.RowKit Scour Go.Lib Go.Shelf Go.Sort

theorem excL_lt (S : List Str) (c : Str) (hc : c.length ≤ 256) (s : Nat) (p : Nat × Nat) (hp : p ∈ excL S c s) : p.1 < 1000 := by
  have : ∀ k, p ∈ excTo S c s k → p.1 ≤ k := by
    intro k
    induction k with
    | zero => intro h; cases h
    | succ k ih =>
      intro h
      rw [excTo] at h
      rcases List.mem_append.1 h with h1 | h1
      · have := ih h1; omega
      · split at h1
        · cases h1
        · simp only [List.mem_singleton] at h1
          rw [h1]; exact Nat.le_refl _
  have := this c.length hp
  omega

/-- A packed table in memory, in new blocks. -/
structure TabNew (w w' : World) (bp : Nat) (vC vO vX : Value) (ps S : List Str) : Prop where
  tab : Tab w' bp vC vO vX (clsL ps) S.length (packed (excL S (clsL ps)) S.length).o (packed (excL S (clsL ps)) S.length).cl
  ge : w.heap.size ≤ bp
  geC : ∀ b, vC.ownBlock = some b → w.heap.size ≤ b
  geO : ∀ b, vO.ownBlock = some b → w.heap.size ≤ b
  geX : ∀ b, vX.ownBlock = some b → w.heap.size ≤ b
  below : Below w.heap.size w w'

set_option maxHeartbeats 16000000 in
set_option maxRecDepth 100000 in
theorem pnew_any (bt be g : Nat) (ps S : List Str) (w : World) (hM : TrieM w bt be g ps S) :
    Calls Tryz.prog 40 #[.pointer (some ⟨bt, 0, none⟩)] w fun e w' => ∃ bp vC vO vX, e = .returned (.pointer (some ⟨bp, 0, none⟩)) ∧ Hid (TabNew w w' bp vC vO vX ps S) := by
  have hl := hM.len
  have hcl : (clsL ps).length ≤ 256 := clsTo_len ps 256
  have HCL := hide (pclasses_any bt be g ps S w hM)
  have HLN : Hid (∀ W, Below w.heap.size w W → Calls Tryz.prog 46 #[.pointer (some ⟨bt, 0, none⟩)] W fun e w' => e = .returned (.int .i64 S.length) ∧ w' = W) := hide fun W hb => tlen_any bt be g ps S W (hM.below hb)
  have hmi := fun W => run_make_row' (P := Tryz.prog) 24 3 (.int .i64 0) 8 Tryz.underlying24 Tryz.infoI rfl .i64 .i64 S.length (by omega) (by omega) W
  have HRO : Hid (∀ W vC, Below w.heap.size w W → W.ownsRow 0 5 1 vC (clsL ps).length ((clsL ps).map encB) → Calls Tryz.prog 61 #[.pointer (some ⟨bt, 0, none⟩), vC] W fun e w' => ∃ rp gh cap d es, e = .returned (.pointer (some ⟨rp, 0, none⟩)) ∧ Hid (HeapIn w' rp gh cap d es) ∧ Hid (EsIn w' (excL S (clsL ps)) es S.length) ∧ Hid (HSet (excL S (clsL ps)) S.length (fun _ => false) d) ∧ Hid (d.size ≤ S.length) ∧ Hid (W.heap.size ≤ rp ∧ W.heap.size ≤ gh) ∧ Hid (Below W.heap.size W w')) := hide fun W vC hb hC => rowsOf_any bt be g ps S W (hM.below hb) vC (clsL ps) hC hcl
  have HL0 := hide (excL_zero S (clsL ps))
  have HLL : Hid (∀ s, (excL S (clsL ps) s).length ≤ 256) := hide fun s => Nat.le_trans (excTo_len S (clsL ps) s (clsL ps).length) hcl
  have HLP := hide (excL_lt S (clsL ps) hcl)
  have HTN : Hid (∀ w' bp vC vO vX, Tab w' bp vC vO vX (clsL ps) S.length (packed (excL S (clsL ps)) S.length).o (packed (excL S (clsL ps)) S.length).cl → w.heap.size ≤ bp → (∀ b, vC.ownBlock = some b → w.heap.size ≤ b) → (∀ b, vO.ownBlock = some b → w.heap.size ≤ b) → (∀ b, vX.ownBlock = some b → w.heap.size ≤ b) → Below w.heap.size w w' → TabNew w w' bp vC vO vX ps S) := hide fun w' bp vC vO vX a1 a2 a3 a4 a5 a6 => ⟨a1, a2, a3, a4, a5, a6⟩
  clear hM
  generalize excL S (clsL ps) = L at *
  generalize clsL ps = c at *
  go_enter Tryz.func40, Tryz.ntmps40
  go_wp2_with fail
  refine (unhide HCL).mono ?_
  rintro e w1 ⟨vC, rfl, HO1, HB1⟩
  have hs1 := (unhide HB1).size
  have hgeC : ∀ b, vC.ownBlock = some b → w.heap.size ≤ b := own_lt (unhide HO1)
  have HGC := hide hgeC
  obtain ⟨aC, cC, hvC⟩ : ∃ aC cC, vC = .slice aC c.length cC := by
    rcases owns_form (unhide HO1) with ⟨h1, h2⟩ | ⟨gc, cc, h1, _⟩
    · exact ⟨none, 0, by rw [h1, h2]⟩
    · exact ⟨_, cc, h1⟩
  subst hvC
  clear hgeC
  go_wp2_with fail
  refine (unhide HLN w1 (unhide HB1)).mono ?_
  rintro e w' ⟨rfl, hw'⟩
  obtain rfl := hw'.symm
  go_wp2_with fail
  have hsz1 : (w1.alloc (.cells (madeCells #[Value.int .i64 0] S.length) 3)).heap.size = w1.heap.size + 1 := by simp
  have hb1 : Below w1.heap.size w1 (w1.alloc (.cells (madeCells #[Value.int .i64 0] S.length) 3)) := (Below.refl _ _).alloc (Nat.le_refl _) _
  have hz := zeros_row w1 S.length (by omega)
  have hnew := heap_alloc_new (w1.alloc (.cells (madeCells #[Value.int .i64 0] S.length) 3)) (.cells #[.slice aC c.length cC, .slice (some ⟨w1.heap.size, 0, none⟩) S.length S.length, .slice none 0 0] 128)
  have hb2 : Below (w1.alloc (.cells (madeCells #[Value.int .i64 0] S.length) 3)).heap.size (w1.alloc (.cells (madeCells #[Value.int .i64 0] S.length) 3)) ((w1.alloc (.cells (madeCells #[Value.int .i64 0] S.length) 3)).alloc (.cells #[.slice aC c.length cC, .slice (some ⟨w1.heap.size, 0, none⟩) S.length S.length, .slice none 0 0] 128)) := (Below.refl _ _).alloc (Nat.le_refl _) _
  rw [hsz1] at hnew
  have HT2 : Hid (Tab ((w1.alloc (.cells (madeCells #[Value.int .i64 0] S.length) 3)).alloc (.cells #[.slice aC c.length cC, .slice (some ⟨w1.heap.size, 0, none⟩) S.length S.length, .slice none 0 0] 128)) (w1.heap.size + 1) (.slice aC c.length cC) (.slice (some ⟨w1.heap.size, 0, none⟩) S.length S.length) (.slice none 0 0) c S.length (fun _ => 0) []) := hide
    ⟨hnew, owns_kept (owns_kept (owns_zero (unhide HO1)) (fun b hl _ => hb1.block b hl)) (fun b hl _ => hb2.block b hl), owns_kept hz (fun b hl _ => hb2.block b hl), World.ownsRow_nil _ _ _ _⟩
  have HB2 : Hid (Below w.heap.size w ((w1.alloc (.cells (madeCells #[Value.int .i64 0] S.length) 3)).alloc (.cells #[.slice aC c.length cC, .slice (some ⟨w1.heap.size, 0, none⟩) S.length S.length, .slice none 0 0] 128))) := hide (((unhide HB1).trans (hb1.mono hs1)).trans (hb2.mono (by simp; omega)))
  obtain ⟨bp, hbp⟩ : ∃ bp, bp = w1.heap.size + 1 := ⟨_, rfl⟩
  obtain ⟨gO, hgO⟩ : ∃ gO, gO = w1.heap.size := ⟨_, rfl⟩
  rw [← hbp, ← hgO] at HT2
  rw [← hgO] at HB2
  rw [← hbp, ← hgO]
  have HGE : Hid (w.heap.size ≤ bp ∧ w.heap.size ≤ gO) := hide (by omega)
  clear hmi hnew hz hb1 hb2 hsz1 HCL HLN HO1 HB1
  generalize (w1.alloc (.cells (madeCells #[Value.int .i64 0] S.length) 3)).alloc (.cells #[.slice aC c.length cC, .slice (some ⟨gO, 0, none⟩) S.length S.length, .slice none 0 0] 128) = w2 at *
  clear hbp hgO hs1
  refine (unhide HRO w2 _ (unhide HB2) (unhide HT2).cls).mono ?_
  rintro e w3 ⟨rp, gh, cap, d0, es, rfl, HH, HE, HS, HD, HG, HB3⟩
  have HI0 : Hid (PkInv w w3 rp gh cap bp (.slice aC c.length cC) (.slice (some ⟨gO, 0, none⟩) S.length S.length) (.slice none 0 0) c L S.length es d0 (packTo L S.length 0)) := hide (by
    have hs2 := (unhide HB2).size
    refine ⟨unhide HH, unhide HE, unhide HS, (unhide HT2).below (unhide HB3), ⟨?_, ?_, (unhide HGE).1⟩, fun b hb => ?_, fun b hb => (by cases hb), unhide HGC, (unhide HB2).trans ((unhide HB3).mono hs2)⟩
    · have := (unhide HG).1; omega
    · have := (unhide HG).2; omega
    · have : gO = b := by simpa [Value.ownBlock] using hb
      rw [← this]; exact (unhide HGE).2)
  have hd0 := unhide HD
  clear HH HE HS HD HG HB3 HT2 HB2 HGE HRO
  go_wp2_with fail
  go_loopg [20] d0.size (fun gm _ wr => ∃ (k : Nat) (d : Array Nat) (vX : Value), d.size = gm ∧ k + gm ≤ S.length ∧ Hid (PkInv w wr rp gh cap bp (.slice aC c.length cC) (.slice (some ⟨gO, 0, none⟩) S.length S.length) vX c L S.length es d (packTo L S.length k)))
  case atStart => exact ⟨0, d0, _, rfl, by omega, HI0⟩
  case round =>
    clear HI0
    obtain ⟨k, d, vX, hdm, hkn, HI⟩ := hrel
    have hcell := (unhide HI).heap.cell
    rw [hdm] at hcell
    have HRL := hide rlen_any
    cases gk with
    | zero =>
      have HDM := hide hdm
      clear hdm
      go_wp2_with (go_at_call 62; refine (unhide HRL _ _ _ _).mono ?_; rintro e w' ⟨rfl, hw'⟩; obtain rfl := hw'.symm)
      go_ret
      have hend : packed L S.length = packTo L S.length k := packTo_end L S.length k (best_none (fun s a b c0 => by
        have h1 := ((unhide HI).set.mem s).2 ⟨a, b, c0⟩
        have h2 : d.toList = [] := by
          have := unhide HDM
          exact List.eq_nil_of_length_eq_zero (by simpa using this)
        rw [h2] at h1; cases h1)) S.length (by omega)
      refine ⟨bp, _, _, vX, rfl, hide (unhide HTN _ _ _ _ _ ?_ (unhide HI).ge.2.2 (unhide HI).geC (unhide HI).geO (unhide HI).geX (unhide HI).below)⟩
      rw [hend]
      exact (unhide HI).tab
    | succ m =>
      have hsl := hdm
      have hK : HOK L es S.length d := ⟨(unhide HI).es.ok (unhide HLL), fun s hs => ⟨(((unhide HI).set.mem s).1 hs).1, (((unhide HI).set.mem s).1 hs).2.2⟩, by omega, by omega⟩
      obtain ⟨q1, q2, q3, q4, q5⟩ := (unhide HI).set.pop hdm
      obtain ⟨ge, ce, hes⟩ := (unhide HI).es.ok (unhide HLL) |>.form d[0]! q2 q3
      have HPO : Hid (Calls Tryz.prog 64 #[.iface 129 (.pointer (some ⟨rp, 0, none⟩))] wr fun e w' => e = .returned (.iface 134 (.agg #[.int .i64 (d[0]! : Nat), .slice (some ⟨ge, 0, none⟩) (L d[0]!).length ce])) ∧ Hid (HeapIn w' rp gh cap (siftDown (hlt L) m 0 0 (swp d 0 m)).pop es) ∧ Hid (Mod (fun k => k = rp ∨ k = gh) wr w')) := hide (by
        have := hpop_any L rp gh cap S.length m d es wr (unhide HI).heap hK hdm (by rw [← hdm]; exact (unhide HI).set.heap)
        rw [hes] at this
        exact this)
      have HLA : Hid (∀ w4, HeapIn w4 rp gh cap (siftDown (hlt L) m 0 0 (swp d 0 m)).pop es → Mod (fun k => k = rp ∨ k = gh) wr w4 → Calls Tryz.prog 63 #[.pointer (some ⟨bp, 0, none⟩), .agg #[.int .i64 (d[0]! : Nat), .slice (some ⟨ge, 0, none⟩) (L d[0]!).length ce]] w4 fun e w' => e = .returned (.tuple #[]) ∧ ∃ vX', Hid (PkInv w w' rp gh cap bp (.slice aC c.length cC) (.slice (some ⟨gO, 0, none⟩) S.length S.length) vX' c L S.length es (siftDown (hlt L) m 0 0 (swp d 0 m)).pop (packTo L S.length (k + 1)))) := hide (by
        intro w4 h4 m4
        have hH := (unhide HI).heap
        obtain ⟨cg, hcg⟩ := owns_blk hH.row
        have hT4 : Tab w4 bp (.slice aC c.length cC) (.slice (some ⟨gO, 0, none⟩) S.length S.length) vX c S.length (packTo L S.length k).o (packTo L S.length k).cl := (unhide HI).tab.same (fun b hl hb => m4.out b hl (fun e => by
          have hbt : ∃ cu t, wr.heap[b]? = some (.cells cu t (0, 0)) ∧ t ≠ 166 ∧ t ≠ 134 := by
            rcases hb with e1 | e1 | e1 | e1
            · exact ⟨_, _, by rw [e1]; exact (unhide HI).tab.blk, by decide, by decide⟩
            · obtain ⟨cu, hcu⟩ := owns_block (unhide HI).tab.cls e1; exact ⟨cu, _, hcu, by decide, by decide⟩
            · obtain ⟨cu, hcu⟩ := owns_block (unhide HI).tab.off e1; exact ⟨cu, _, hcu, by decide, by decide⟩
            · obtain ⟨cu, hcu⟩ := owns_block (unhide HI).tab.cel e1; exact ⟨cu, _, hcu, by decide, by decide⟩
          obtain ⟨cu, t, hcu, t1, t2⟩ := hbt
          rcases e with e | e
          · exact two_types hcu hH.box t1 e
          · exact two_types hcu hcg t2 e))
        have hE4 := (unhide HI).es.mod hH m4 d[0]! q2 q3
        rw [hes] at hE4
        have hlen := packTo_len (L := L) (n := S.length) (unhide HLP) k
        refine (lay_any bp _ _ vX c S.length _ _ w4 hT4 ⟨packTo_st (unhide HL0) k, by omega⟩ (by omega) d[0]! ge (L d[0]!).length ce (L d[0]!) rfl hE4 (unhide HLP d[0]!) (unhide HLL d[0]!) q2 (by omega)).mono ?_
        rintro e w5 ⟨rfl, vX5, H5⟩
        exact ⟨rfl, vX5, hide ((unhide HI).step hdm h4 m4 (unhide H5) hT4)⟩)
      have HQ5 := hide q5
      have hta := assertRow
      clear hK q1 q2 q3 q4 q5 hes hsl hdm
      generalize (siftDown (hlt L) m 0 0 (swp d 0 m)).pop = d2 at *
      generalize (L d[0]!).length = mm at *
      generalize d[0]! = s0 at *
      go_wp2_with (first | (go_at_call 62; refine (unhide HRL _ _ _ _).mono ?_; rintro e w' ⟨rfl, hw'⟩; obtain rfl := hw'.symm) | (go_at_call 64; refine (unhide HPO).mono ?_; rintro e w4 ⟨rfl, H4, M4⟩) | (go_at_call 63; refine (unhide HLA w4 (unhide H4) (unhide M4)).mono ?_; rintro e w5 ⟨rfl, vX5, H5⟩))
      go_roundg m
      case measure => omega
      case rel => exact ⟨k + 1, d2, vX5, unhide HQ5, by omega, H5⟩
end Go.Proofs.YthbbhpbkoankhaaGreat
