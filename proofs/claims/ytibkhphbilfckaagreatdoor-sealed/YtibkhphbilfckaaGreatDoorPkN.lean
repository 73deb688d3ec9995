import Derived.Test.YtibkhphbilfckaaGreatDoorPkK
namespace Go.Proofs.YtibkhphbilfckaaGreatDoor
open Go.RowKit Scour Go.Lib Go.Shelf Go.Sort

set_option maxHeartbeats 16000000 in
set_option maxRecDepth 100000 in
theorem rowsOf_any (bt be g : Nat) (ps S : List Str) (w : World) (hM : TrieM w bt be g ps S) (vC : Value) (c : Str) (hC : w.ownsRow 0 5 1 vC c.length (c.map encB)) (hc : c.length ≤ 256) :
    Calls Tryz.prog 73 #[.pointer (some ⟨bt, 0, none⟩), vC] w fun e w' => ∃ rp gh cap d es, e = .returned (.pointer (some ⟨rp, 0, none⟩)) ∧ Hid (HeapIn w' rp gh cap d es) ∧ Hid (EsIn w' (excL S c) es S.length) ∧ Hid (HSet (excL S c) S.length (fun _ => false) d) ∧ Hid (d.size ≤ S.length) ∧ Hid (w.heap.size ≤ rp ∧ w.heap.size ≤ gh) ∧ Hid (Below w.heap.size w w') := by
  have hl := hM.len
  have hlen : ∀ s, (excL S c s).length ≤ 256 := fun s => Nat.le_trans (excTo_len S c s c.length) hc
  have HL0 : Hid (∀ W, Below w.heap.size w W → Calls Tryz.prog 26 #[.pointer (some ⟨bt, 0, none⟩)] W fun e w' => e = .returned (.int .i64 S.length) ∧ w' = W) := hide fun W hb => tlen_any bt be g ps S W (hM.below hb)
  have HX0 : Hid (∀ W s, s < S.length → Below w.heap.size w W → Calls Tryz.prog 108 #[.pointer (some ⟨bt, 0, none⟩), .int .i64 s, vC] W fun e w' => ∃ v, e = .returned v ∧ Hid (w'.ownsRow W.heap.size 210 2 v (excL S c s).length (encP (excL S c s))) ∧ Hid (Below W.heap.size W w')) := hide fun W s hs hb => pexc_any bt be g ps S W (hM.below hb) s hs vC c (owns_kept hC (fun b hl _ => hb.block b hl)) hc
  have HB0 : Hid (Below w.heap.size w ((w.alloc (.cells #[] 159)).alloc (.cells #[.slice (some ⟨w.heap.size, 0, none⟩) 0 0] 205))) := hide (((Below.refl _ _).alloc (Nat.le_refl _) _).alloc (by simp) _)
  have HH0 : Hid (HeapIn ((w.alloc (.cells #[] 159)).alloc (.cells #[.slice (some ⟨w.heap.size, 0, none⟩) 0 0] 205)) (w.heap.size + 1) w.heap.size 0 #[] (fun _ => .slice none 0 0)) := hide (by
    have hA := heap_alloc_new w (.cells #[] 159)
    have hB := heap_alloc_new (w.alloc (.cells #[] 159)) (.cells #[.slice (some ⟨w.heap.size, 0, none⟩) 0 0] 205)
    have hs1 : (w.alloc (.cells #[] 159)).heap.size = w.heap.size + 1 := by simp
    rw [hs1] at hB
    have hA2 : ((w.alloc (.cells #[] 159)).alloc (.cells #[.slice (some ⟨w.heap.size, 0, none⟩) 0 0] 205)).heap[w.heap.size]? = some (.cells #[] 159 (0, 0)) := (Below.heap_alloc _ _ w.heap.size (by simp)).trans hA
    exact ⟨hB, ⟨rfl, Or.inr ⟨w.heap.size, 0, #[], rfl, Nat.zero_le _, hA2, Nat.le_refl _, by unfold maxLen; omega, rfl, rfl⟩⟩, by omega⟩)
  have HS0 : Hid (HSet (excL S c) 0 (fun _ => false) #[]) := hide ⟨fun s => by simp, by simp, fun k _ hk => by simp at hk⟩
  clear hM hC
  generalize excL S c = L at *
  go_enter Tryz.func73, Tryz.ntmps73
  go_wp2_with fail
  refine (unhide HL0 _ (unhide HB0)).mono ?_
  rintro e w' ⟨rfl, hw'⟩
  subst hw'
  go_wp2_with fail
  generalize ((w.alloc (.cells #[] 159)).alloc (.cells #[.slice (some ⟨w.heap.size, 0, none⟩) 0 0] 205)) = w1 at *
  obtain ⟨rp, hrp⟩ : ∃ rp, rp = w.heap.size + 1 := ⟨_, rfl⟩
  rw [← hrp] at HH0 ⊢
  have HRP : Hid (w.heap.size ≤ rp) := hide (by omega)
  clear hrp
  go_loopw [12] (fun v wr => ∃ (s gh cap : Nat) (d : Array Nat) (es : Nat → Value), v = .int .i64 s ∧ s ≤ S.length ∧ Hid (HeapIn wr rp gh cap d es) ∧ Hid (EsIn wr L es s) ∧ Hid (HSet L s (fun _ => false) d) ∧ Hid (d.size ≤ s ∧ w.heap.size ≤ gh) ∧ Hid (Below w.heap.size w wr)) (fun v _ => S.length - (intOf v).toNat)
  case atStart => exact ⟨0, w.heap.size, 0, #[], fun _ => .slice none 0 0, rfl, Nat.zero_le _, HH0, hide (fun s hs => by omega), HS0, hide ⟨Nat.le_refl _, Nat.le_refl _⟩, HB0⟩
  case round =>
    clear HH0 HS0 HB0
    obtain ⟨s, gh, cap, d, es, rfl, hs, HH, HE, HS, HD, HB⟩ := hrel
    have hsz := (unhide HB).size
    by_cases hss : s < S.length
    · have HX1 := hide (unhide HX0 wr s hss (unhide HB))
      go_wp2_with fail
      refine (unhide HX1).mono ?_
      rintro e w2 ⟨v, rfl, HO, HB2⟩
      have hs2 := (unhide HB2).size
      have HB3 : Hid (Below w.heap.size w w2) := hide ((unhide HB).trans ((unhide HB2).mono hsz))
      have HH2 : Hid (HeapIn w2 rp gh cap d es) := hide ⟨((unhide HB2).block rp (Array.getElem?_eq_some_iff.1 (unhide HH).box).1).trans (unhide HH).box, owns_kept (unhide HH).row (fun b hl _ => (unhide HB2).block b hl), (unhide HH).ne⟩
      have HE2 := hide ((unhide HE).below (unhide HB2))
      have hll := hlen s
      by_cases h0 : 0 < (L s).length
      · rcases owns_form (unhide HO) with ⟨_, e0⟩ | ⟨b, cc, hv, hbg, hbl, hcc⟩
        · omega
        · subst hv
          obtain ⟨es2, hes2⟩ : ∃ es2 : Nat → Value, es2 = fun k => if k = s then .slice (some ⟨b, 0, none⟩) (L s).length cc else es k := ⟨_, rfl⟩
          have hdm : ∀ x, x ∈ d.toList → x < s := fun x hx => (((unhide HS).mem x).1 hx).1
          have he1 : ∀ x, x < s → es2 x = es x := fun x hx => by rw [hes2]; simp [show x ≠ s by omega]
          have he2 : es2 s = .slice (some ⟨b, 0, none⟩) (L s).length cc := by rw [hes2]; simp
          have HH3 : Hid (HeapIn w2 rp gh cap d es2) := hide ((unhide HH2).congr (fun x hx => he1 x (hdm x hx)))
          have HE3 : Hid (EsIn w2 L es2 (s + 1)) := hide (fun x hx h1 => by
            rcases Nat.lt_or_ge x s with gx | gx
            · rw [he1 x gx]; exact unhide HE2 x gx h1
            · obtain rfl : x = s := by omega
              rw [he2]; exact owns_zero (unhide HO))
          have hpu := (unhide HS).push h0
          have hKp : HOK L es2 (s + 1) (d.push s) := ⟨(unhide HE3).ok hlen, fun x hx => by
            rw [Array.toList_push, List.mem_append] at hx
            rcases hx with hx | hx
            · have := ((unhide HS).mem x).1 hx; exact ⟨by omega, this.2.2⟩
            · simp only [List.mem_singleton] at hx; subst hx; exact ⟨by omega, h0⟩, by omega, by have := (unhide HD).1; simp; omega⟩
          have HP : Hid (Calls Tryz.prog 109 #[.iface 154 (.pointer (some ⟨rp, 0, none⟩)), .iface 159 (.agg #[.int .i64 (s : Nat), .slice (some ⟨b, 0, none⟩) (L s).length cc])] w2 fun e w' => e = .returned (.tuple #[]) ∧ ∃ g' cap', Hid (HeapIn w' rp g' cap' (heapPush (hlt L) d s) es2) ∧ Hid (Mod (fun k => k = rp ∨ k = gh) w2 w') ∧ Hid (g' = gh ∨ w2.heap.size ≤ g')) := hide (by
            have := hpush_any L rp gh cap (s + 1) d es2 w2 (unhide HH3) s hKp
            rw [he2] at this
            exact this)
          have HPU := hide hpu
          clear hpu hKp hes2 he1 he2 hdm
          generalize (L s).length = mm at *
          go_wp2_with (go_at_call 109; refine (unhide HP).mono ?_; rintro e w3 ⟨rfl, g', cap', H3, M3, G3⟩)
          go_roundw
          case rel =>
            have hgr : w.heap.size ≤ g' := by have := (unhide HD).2; rcases unhide G3 with e | e <;> omega
            refine ⟨s + 1, g', cap', _, es2, by go_num, hss, H3, hide ((unhide HE3).mod (unhide HH3) (unhide M3)), hide (unhide HPU).1, hide ⟨by rw [(unhide HPU).2]; have := (unhide HD).1; omega, hgr⟩, hide ((unhide HB3).trans ((unhide M3).below (Nat.le_trans hsz hs2) (fun k hk => by have := (unhide HD).2; have := unhide HRP; rcases hk with e | e <;> omega)))⟩
          case measure => simp [intOf]; omega
      · have HE3 : Hid (EsIn w2 L es (s + 1)) := hide (fun x hx h1 => by
            rcases Nat.lt_or_ge x s with gx | gx
            · exact unhide HE2 x gx h1
            · obtain rfl : x = s := by omega
              exact absurd h1 h0)
        have HSK := hide ((unhide HS).skip h0)
        obtain ⟨a0, c0, hv⟩ : ∃ a0 c0, v = .slice a0 0 c0 := by
          rcases owns_form (unhide HO) with ⟨e1, _⟩ | ⟨b, cc, e1, _⟩
          · exact ⟨none, 0, e1⟩
          · exact ⟨_, cc, by rw [e1]; congr 1; omega⟩
        subst hv
        go_wp2
        go_roundw
        case rel => exact ⟨s + 1, gh, cap, d, es, by go_num, hss, HH2, HE3, HSK, hide ⟨by have := (unhide HD).1; omega, (unhide HD).2⟩, HB3⟩
        case measure => simp [intOf]; omega
    · obtain rfl : s = S.length := by omega
      go_wp2
      go_ret
      exact ⟨rp, gh, cap, d, es, rfl, HH, HE, HS, hide (unhide HD).1, hide ⟨unhide HRP, (unhide HD).2⟩, HB⟩
end Go.Proofs.YtibkhphbilfckaaGreatDoor

namespace Go.Proofs.YtibkhphbilfckaaGreatDoor
open Go.RowKit Scour Go.Lib Go.Shelf Go.Sort

/-- All rows' state while they are packed. -/
structure PkInv (w wr : World) (rp gh cap bp : Nat) (vC vO vX : Value) (c : Str) (L : Nat → List (Nat × Nat)) (n : Nat) (es : Nat → Value) (d : Array Nat) (p : PSt) : Prop where
  heap : HeapIn wr rp gh cap d es
  es : EsIn wr L es n
  set : HSet L n p.d d
  tab : Tab wr bp vC vO vX c n p.o p.cl
  ge : w.heap.size ≤ rp ∧ w.heap.size ≤ gh ∧ w.heap.size ≤ bp
  geO : ∀ b, vO.ownBlock = some b → w.heap.size ≤ b
  geX : ∀ b, vX.ownBlock = some b → w.heap.size ≤ b
  geC : ∀ b, vC.ownBlock = some b → w.heap.size ≤ b
  below : Below w.heap.size w wr

theorem COK.lay {cl : List (Int × Int)} (h : ∀ q, q ∈ cl → q.1 < 0 ∨ 1 ≤ q.1) {s a : Nat} (hs : 1 ≤ s) : ∀ (l : List (Nat × Nat)), ∀ q, q ∈ lay cl s l a → q.1 < 0 ∨ 1 ≤ q.1 := by
  intro l
  induction l generalizing cl with
  | nil => exact h
  | cons p l ih =>
    have e : Go.Proofs.YtibkhphbilfckaaGreatDoor.lay cl s (p :: l) a = Go.Proofs.YtibkhphbilfckaaGreatDoor.lay (layOne s a cl p) s l a := rfl
    rw [e]
    refine ih (fun q hq => ?_)
    unfold layOne padC at hq
    rcases List.mem_or_eq_of_mem_set hq with h1 | h1
    · rcases List.mem_append.1 h1 with h2 | h2
      · exact h q h2
      · have := (List.mem_replicate.1 h2).2
        left; rw [this]; simp
    · right; rw [h1]; simp; omega

theorem zeros_row (w : World) (n : Nat) (hn : n < 10000) : (w.alloc (.cells (madeCells #[Value.int .i64 0] n) 3)).ownsRow 0 3 1 (.slice (some ⟨w.heap.size, 0, none⟩) n n) n (intsF (fun _ => 0) n) := by
  have hl := zeros_ints n
  have hsz : (madeCells #[Value.int .i64 0] n).size = n := by
    have := congrArg List.length hl
    rw [intsF_length] at this
    simpa using this
  refine ⟨by rw [intsF_length]; omega, Or.inr ⟨w.heap.size, n, _, rfl, Nat.zero_le _, heap_alloc_new w _, Nat.le_refl _, by unfold maxLen; omega, by rw [hsz]; omega, ?_⟩⟩
  rw [hl, List.take_of_length_le (by rw [intsF_length]; omega)]


theorem excL_zero (S : List Str) (c : Str) : excL S c 0 = [] := by
  unfold excL
  have : ∀ k, excTo S c 0 k = [] := by
    intro k
    induction k with
    | zero => rfl
    | succ k ih => rw [excTo, ih, if_pos rfl]; rfl
  exact this _

theorem packTo_st {L : Nat → List (Nat × Nat)} {n : Nat} (hL : L 0 = []) : ∀ k, ∀ q, q ∈ (packTo L n k).cl → q.1 < 0 ∨ 1 ≤ q.1 := by
  intro k
  induction k with
  | zero => intro q hq; cases hq
  | succ k ih =>
    show ∀ q, q ∈ (packStep L n (packTo L n k)).cl → _
    unfold packStep
    split
    · exact ih
    · rename_i hb
      rcases bestTo_spec L (packTo L n k).d n with e | ⟨b, _, e, _, h0⟩
      · omega
      · refine COK.lay ih ?_ _
        rw [e]
        rcases Nat.eq_zero_or_pos b with g | g
        · subst g; rw [hL] at h0; simp at h0
        · show 1 ≤ ((b : Int)).toNat
          simp; omega

theorem packTo_len {L : Nat → List (Nat × Nat)} {n : Nat} (hL : ∀ s p, p ∈ L s → p.1 < 1000) : ∀ k, (packTo L n k).cl.length ≤ 1000 * k := by
  intro k
  induction k with
  | zero => exact Nat.le_refl _
  | succ k ih =>
    show (packStep L n (packTo L n k)).cl.length ≤ _
    unfold packStep
    split
    · omega
    · have := lay_le (cl := (packTo L n k).cl) (s := (bestTo L (packTo L n k).d n).toNat) (hL (bestTo L (packTo L n k).d n).toNat) (offOf_spec (packTo L n k).cl (L (bestTo L (packTo L n k).d n).toNat)).1
      simp only []
      omega

theorem HeapIn.mod {w w' : World} {rp gh cap : Nat} {d : Array Nat} {es : Nat → Value} (h : HeapIn w rp gh cap d es) (hr : w'.heap[rp]? = w.heap[rp]?) (hg : w'.heap[gh]? = w.heap[gh]?) : HeapIn w' rp gh cap d es := ⟨hr.trans h.box, owns_same h.row hg, h.ne⟩

/-- One row is packed. -/
theorem PkInv.step {w wr w3 w4 : World} {rp gh cap bp m k : Nat} {vC vO vX vX' : Value} {c : Str} {L : Nat → List (Nat × Nat)} {n : Nat} {es : Nat → Value} {d : Array Nat} (h : PkInv w wr rp gh cap bp vC vO vX c L n es d (packTo L n k)) (hm : d.size = m + 1)
    (h3 : HeapIn w3 rp gh cap (siftDown (hlt L) m 0 0 (swp d 0 m)).pop es) (m3 : Mod (fun k => k = rp ∨ k = gh) wr w3) (h4 : TInv w3 w4 bp vC vO vX c n (upd (packTo L n k).o d[0]! (offOf (packTo L n k).cl (L d[0]!) : Nat)) vX' (Go.Proofs.YtibkhphbilfckaaGreatDoor.lay (packTo L n k).cl d[0]! (L d[0]!) (offOf (packTo L n k).cl (L d[0]!))))
    (hT3 : Tab w3 bp vC vO vX c n (packTo L n k).o (packTo L n k).cl) :
    PkInv w w4 rp gh cap bp vC vO vX' c L n es (siftDown (hlt L) m 0 0 (swp d 0 m)).pop (packTo L n (k + 1)) := by
  obtain ⟨q1, q2, q3, q4, q5⟩ := h.set.pop hm
  have hst : packTo L n (k + 1) = ⟨fun x => if x = d[0]! then true else (packTo L n k).d x, upd (packTo L n k).o d[0]! (offOf (packTo L n k).cl (L d[0]!) : Nat), Go.Proofs.YtibkhphbilfckaaGreatDoor.lay (packTo L n k).cl d[0]! (L d[0]!) (offOf (packTo L n k).cl (L d[0]!))⟩ := by
    show packStep L n (packTo L n k) = _
    unfold packStep
    rw [q1, if_neg (by omega)]
    simp only [Int.toNat_natCast]
  have hE3 : EsIn w3 L es n := h.es.mod h.heap m3
  obtain ⟨cg, hcg⟩ := owns_blk h3.row
  have hM4 : ∀ b, b < w3.heap.size → tabP bp vO vX b → w.heap.size ≤ b := by
    rintro b _ (e | e | e)
    · rw [e]; exact h.ge.2.2
    · exact h.geO b e
    · exact h.geX b e
  rw [hst]
  refine ⟨h3.mod ?_ ?_, ?_, q4, h4.tab, h.ge, h.geO, ?_, h.geC, ?_⟩
  · exact h4.mod.out rp (Array.getElem?_eq_some_iff.1 h3.box).1 (hT3.notP h3.box (by decide) (by decide) (by decide))
  · exact h4.mod.out gh (Array.getElem?_eq_some_iff.1 hcg).1 (hT3.notP hcg (by decide) (by decide) (by decide))
  · intro s hs h0
    refine owns_kept (hE3 s hs h0) (fun b hl hv => h4.mod.out b hl ?_)
    obtain ⟨c1, hc1⟩ := owns_block (hE3 s hs h0) hv
    exact hT3.notP hc1 (by decide) (by decide) (by decide)
  · rcases h4.own with e | e
    · rw [e]; exact h.geX
    · intro b hb
      have := e b hb
      have := m3.size
      have := h.below.size
      omega
  · have b3 : Below w.heap.size w w3 := h.below.trans (m3.below h.below.size (fun k hk => by rcases hk with e | e; rw [e]; exact h.ge.1; rw [e]; exact h.ge.2.1))
    refine b3.trans ?_
    have hs3 := b3.size
    exact ⟨by first | exact h4.mod.tape | exact h4.mod.os | exact h4.mod.output, by first | exact h4.mod.tape | exact h4.mod.os | exact h4.mod.output, by first | exact h4.mod.tape | exact h4.mod.os | exact h4.mod.output, h4.mod.size, fun b hb => h4.mod.out b (by omega) (fun hp => by have := hM4 b (by omega) hp; omega)⟩
end Go.Proofs.YtibkhphbilfckaaGreatDoor

namespace Go.Proofs.YtibkhphbilfckaaGreatDoor
open Go.RowKit Scour Go.Lib Go.Shelf Go.Sort

theorem excL_lt (S : List Str) (c : Str) (hc : c.length ≤ 256) (s : Nat) (p : Nat × Nat) (hp : p ∈ excL S c s) : p.1 < 1000 := by
  have : ∀ k, p ∈ excTo S c s k → p.1 ≤ k := by
    intro k
    induction k with
    | zero => intro h; cases h
    | succ k ih =>
      intro h
      rw [excTo] at h
      rcases List.mem_append.1 h with h1 | h1
      · have := ih h1; omega
      · split at h1
        · cases h1
        · simp only [List.mem_singleton] at h1
          rw [h1]; exact Nat.le_refl _
  have := this c.length hp
  omega

/-- A packed table in memory, in new blocks. -/
structure TabNew (w w' : World) (bp : Nat) (vC vO vX : Value) (ps S : List Str) : Prop where
  tab : Tab w' bp vC vO vX (clsL ps) S.length (packed (excL S (clsL ps)) S.length).o (packed (excL S (clsL ps)) S.length).cl
  ge : w.heap.size ≤ bp
  geC : ∀ b, vC.ownBlock = some b → w.heap.size ≤ b
  geO : ∀ b, vO.ownBlock = some b → w.heap.size ≤ b
  geX : ∀ b, vX.ownBlock = some b → w.heap.size ≤ b
  below : Below w.heap.size w w'

set_option maxHeartbeats 16000000 in
set_option maxRecDepth 100000 in
theorem pnew_any (bt be g : Nat) (ps S : List Str) (w : World) (hM : TrieM w bt be g ps S) :
    Calls Tryz.prog 36 #[.pointer (some ⟨bt, 0, none⟩)] w fun e w' => ∃ bp vC vO vX, e = .returned (.pointer (some ⟨bp, 0, none⟩)) ∧ Hid (TabNew w w' bp vC vO vX ps S) := by
  have hl := hM.len
  have hcl : (clsL ps).length ≤ 256 := clsTo_len ps 256
  have HCL := hide (pclasses_any bt be g ps S w hM)
  have HLN : Hid (∀ W, Below w.heap.size w W → Calls Tryz.prog 26 #[.pointer (some ⟨bt, 0, none⟩)] W fun e w' => e = .returned (.int .i64 S.length) ∧ w' = W) := hide fun W hb => tlen_any bt be g ps S W (hM.below hb)
  have hmi := fun W => run_make_row' (P := Tryz.prog) 24 3 (.int .i64 0) 8 Tryz.underlying24 Tryz.infoI rfl .i64 .i64 S.length (by omega) (by omega) W
  have HRO : Hid (∀ W vC, Below w.heap.size w W → W.ownsRow 0 5 1 vC (clsL ps).length ((clsL ps).map encB) → Calls Tryz.prog 73 #[.pointer (some ⟨bt, 0, none⟩), vC] W fun e w' => ∃ rp gh cap d es, e = .returned (.pointer (some ⟨rp, 0, none⟩)) ∧ Hid (HeapIn w' rp gh cap d es) ∧ Hid (EsIn w' (excL S (clsL ps)) es S.length) ∧ Hid (HSet (excL S (clsL ps)) S.length (fun _ => false) d) ∧ Hid (d.size ≤ S.length) ∧ Hid (W.heap.size ≤ rp ∧ W.heap.size ≤ gh) ∧ Hid (Below W.heap.size W w')) := hide fun W vC hb hC => rowsOf_any bt be g ps S W (hM.below hb) vC (clsL ps) hC hcl
  have HL0 := hide (excL_zero S (clsL ps))
  have HLL : Hid (∀ s, (excL S (clsL ps) s).length ≤ 256) := hide fun s => Nat.le_trans (excTo_len S (clsL ps) s (clsL ps).length) hcl
  have HLP := hide (excL_lt S (clsL ps) hcl)
  have HTN : Hid (∀ w' bp vC vO vX, Tab w' bp vC vO vX (clsL ps) S.length (packed (excL S (clsL ps)) S.length).o (packed (excL S (clsL ps)) S.length).cl → w.heap.size ≤ bp → (∀ b, vC.ownBlock = some b → w.heap.size ≤ b) → (∀ b, vO.ownBlock = some b → w.heap.size ≤ b) → (∀ b, vX.ownBlock = some b → w.heap.size ≤ b) → Below w.heap.size w w' → TabNew w w' bp vC vO vX ps S) := hide fun w' bp vC vO vX a1 a2 a3 a4 a5 a6 => ⟨a1, a2, a3, a4, a5, a6⟩
  clear hM
  generalize excL S (clsL ps) = L at *
  generalize clsL ps = c at *
  go_enter Tryz.func36, Tryz.ntmps36
  go_wp2_with fail
  refine (unhide HCL).mono ?_
  rintro e w1 ⟨vC, rfl, HO1, HB1⟩
  have hs1 := (unhide HB1).size
  have hgeC : ∀ b, vC.ownBlock = some b → w.heap.size ≤ b := own_lt (unhide HO1)
  have HGC := hide hgeC
  obtain ⟨aC, cC, hvC⟩ : ∃ aC cC, vC = .slice aC c.length cC := by
    rcases owns_form (unhide HO1) with ⟨h1, h2⟩ | ⟨gc, cc, h1, _⟩
    · exact ⟨none, 0, by rw [h1, h2]⟩
    · exact ⟨_, cc, h1⟩
  subst hvC
  clear hgeC
  go_wp2_with fail
  refine (unhide HLN w1 (unhide HB1)).mono ?_
  rintro e w' ⟨rfl, hw'⟩
  obtain rfl := hw'.symm
  go_wp2_with fail
  have hsz1 : (w1.alloc (.cells (madeCells #[Value.int .i64 0] S.length) 3)).heap.size = w1.heap.size + 1 := by simp
  have hb1 : Below w1.heap.size w1 (w1.alloc (.cells (madeCells #[Value.int .i64 0] S.length) 3)) := (Below.refl _ _).alloc (Nat.le_refl _) _
  have hz := zeros_row w1 S.length (by omega)
  have hnew := heap_alloc_new (w1.alloc (.cells (madeCells #[Value.int .i64 0] S.length) 3)) (.cells #[.slice aC c.length cC, .slice (some ⟨w1.heap.size, 0, none⟩) S.length S.length, .slice none 0 0] 99)
  have hb2 : Below (w1.alloc (.cells (madeCells #[Value.int .i64 0] S.length) 3)).heap.size (w1.alloc (.cells (madeCells #[Value.int .i64 0] S.length) 3)) ((w1.alloc (.cells (madeCells #[Value.int .i64 0] S.length) 3)).alloc (.cells #[.slice aC c.length cC, .slice (some ⟨w1.heap.size, 0, none⟩) S.length S.length, .slice none 0 0] 99)) := (Below.refl _ _).alloc (Nat.le_refl _) _
  rw [hsz1] at hnew
  have HT2 : Hid (Tab ((w1.alloc (.cells (madeCells #[Value.int .i64 0] S.length) 3)).alloc (.cells #[.slice aC c.length cC, .slice (some ⟨w1.heap.size, 0, none⟩) S.length S.length, .slice none 0 0] 99)) (w1.heap.size + 1) (.slice aC c.length cC) (.slice (some ⟨w1.heap.size, 0, none⟩) S.length S.length) (.slice none 0 0) c S.length (fun _ => 0) []) := hide
    ⟨hnew, owns_kept (owns_kept (owns_zero (unhide HO1)) (fun b hl _ => hb1.block b hl)) (fun b hl _ => hb2.block b hl), owns_kept hz (fun b hl _ => hb2.block b hl), World.ownsRow_nil _ _ _ _⟩
  have HB2 : Hid (Below w.heap.size w ((w1.alloc (.cells (madeCells #[Value.int .i64 0] S.length) 3)).alloc (.cells #[.slice aC c.length cC, .slice (some ⟨w1.heap.size, 0, none⟩) S.length S.length, .slice none 0 0] 99))) := hide (((unhide HB1).trans (hb1.mono hs1)).trans (hb2.mono (by simp; omega)))
  obtain ⟨bp, hbp⟩ : ∃ bp, bp = w1.heap.size + 1 := ⟨_, rfl⟩
  obtain ⟨gO, hgO⟩ : ∃ gO, gO = w1.heap.size := ⟨_, rfl⟩
  rw [← hbp, ← hgO] at HT2
  rw [← hgO] at HB2
  rw [← hbp, ← hgO]
  have HGE : Hid (w.heap.size ≤ bp ∧ w.heap.size ≤ gO) := hide (by omega)
  clear hmi hnew hz hb1 hb2 hsz1 HCL HLN HO1 HB1
  generalize (w1.alloc (.cells (madeCells #[Value.int .i64 0] S.length) 3)).alloc (.cells #[.slice aC c.length cC, .slice (some ⟨gO, 0, none⟩) S.length S.length, .slice none 0 0] 99) = w2 at *
  clear hbp hgO hs1
  refine (unhide HRO w2 _ (unhide HB2) (unhide HT2).cls).mono ?_
  rintro e w3 ⟨rp, gh, cap, d0, es, rfl, HH, HE, HS, HD, HG, HB3⟩
  have HI0 : Hid (PkInv w w3 rp gh cap bp (.slice aC c.length cC) (.slice (some ⟨gO, 0, none⟩) S.length S.length) (.slice none 0 0) c L S.length es d0 (packTo L S.length 0)) := hide (by
    have hs2 := (unhide HB2).size
    refine ⟨unhide HH, unhide HE, unhide HS, (unhide HT2).below (unhide HB3), ⟨?_, ?_, (unhide HGE).1⟩, fun b hb => ?_, fun b hb => (by cases hb), unhide HGC, (unhide HB2).trans ((unhide HB3).mono hs2)⟩
    · have := (unhide HG).1; omega
    · have := (unhide HG).2; omega
    · have : gO = b := by simpa [Value.ownBlock] using hb
      rw [← this]; exact (unhide HGE).2)
  have hd0 := unhide HD
  clear HH HE HS HD HG HB3 HT2 HB2 HGE HRO
  go_wp2_with fail
  go_loopg [20] d0.size (fun gm _ wr => ∃ (k : Nat) (d : Array Nat) (vX : Value), d.size = gm ∧ k + gm ≤ S.length ∧ Hid (PkInv w wr rp gh cap bp (.slice aC c.length cC) (.slice (some ⟨gO, 0, none⟩) S.length S.length) vX c L S.length es d (packTo L S.length k)))
  case atStart => exact ⟨0, d0, _, rfl, by omega, HI0⟩
  case round =>
    clear HI0
    obtain ⟨k, d, vX, hdm, hkn, HI⟩ := hrel
    have hcell := (unhide HI).heap.cell
    rw [hdm] at hcell
    have HRL := hide rlen_any
    cases gk with
    | zero =>
      have HDM := hide hdm
      clear hdm
      go_wp2_with (go_at_call 74; refine (unhide HRL _ _ _ _).mono ?_; rintro e w' ⟨rfl, hw'⟩; obtain rfl := hw'.symm)
      go_ret
      have hend : packed L S.length = packTo L S.length k := packTo_end L S.length k (best_none (fun s a b c0 => by
        have h1 := ((unhide HI).set.mem s).2 ⟨a, b, c0⟩
        have h2 : d.toList = [] := by
          have := unhide HDM
          exact List.eq_nil_of_length_eq_zero (by simpa using this)
        rw [h2] at h1; cases h1)) S.length (by omega)
      refine ⟨bp, _, _, vX, rfl, hide (unhide HTN _ _ _ _ _ ?_ (unhide HI).ge.2.2 (unhide HI).geC (unhide HI).geO (unhide HI).geX (unhide HI).below)⟩
      rw [hend]
      exact (unhide HI).tab
    | succ m =>
      have hsl := hdm
      have hK : HOK L es S.length d := ⟨(unhide HI).es.ok (unhide HLL), fun s hs => ⟨(((unhide HI).set.mem s).1 hs).1, (((unhide HI).set.mem s).1 hs).2.2⟩, by omega, by omega⟩
      obtain ⟨q1, q2, q3, q4, q5⟩ := (unhide HI).set.pop hdm
      obtain ⟨ge, ce, hes⟩ := (unhide HI).es.ok (unhide HLL) |>.form d[0]! q2 q3
      have HPO : Hid (Calls Tryz.prog 76 #[.iface 154 (.pointer (some ⟨rp, 0, none⟩))] wr fun e w' => e = .returned (.iface 159 (.agg #[.int .i64 (d[0]! : Nat), .slice (some ⟨ge, 0, none⟩) (L d[0]!).length ce])) ∧ Hid (HeapIn w' rp gh cap (siftDown (hlt L) m 0 0 (swp d 0 m)).pop es) ∧ Hid (Mod (fun k => k = rp ∨ k = gh) wr w')) := hide (by
        have := hpop_any L rp gh cap S.length m d es wr (unhide HI).heap hK hdm (by rw [← hdm]; exact (unhide HI).set.heap)
        rw [hes] at this
        exact this)
      have HLA : Hid (∀ w4, HeapIn w4 rp gh cap (siftDown (hlt L) m 0 0 (swp d 0 m)).pop es → Mod (fun k => k = rp ∨ k = gh) wr w4 → Calls Tryz.prog 75 #[.pointer (some ⟨bp, 0, none⟩), .agg #[.int .i64 (d[0]! : Nat), .slice (some ⟨ge, 0, none⟩) (L d[0]!).length ce]] w4 fun e w' => e = .returned (.tuple #[]) ∧ ∃ vX', Hid (PkInv w w' rp gh cap bp (.slice aC c.length cC) (.slice (some ⟨gO, 0, none⟩) S.length S.length) vX' c L S.length es (siftDown (hlt L) m 0 0 (swp d 0 m)).pop (packTo L S.length (k + 1)))) := hide (by
        intro w4 h4 m4
        have hH := (unhide HI).heap
        obtain ⟨cg, hcg⟩ := owns_blk hH.row
        have hT4 : Tab w4 bp (.slice aC c.length cC) (.slice (some ⟨gO, 0, none⟩) S.length S.length) vX c S.length (packTo L S.length k).o (packTo L S.length k).cl := (unhide HI).tab.same (fun b hl hb => m4.out b hl (fun e => by
          have hbt : ∃ cu t, wr.heap[b]? = some (.cells cu t (0, 0)) ∧ t ≠ 205 ∧ t ≠ 159 := by
            rcases hb with e1 | e1 | e1 | e1
            · exact ⟨_, _, by rw [e1]; exact (unhide HI).tab.blk, by decide, by decide⟩
            · obtain ⟨cu, hcu⟩ := owns_block (unhide HI).tab.cls e1; exact ⟨cu, _, hcu, by decide, by decide⟩
            · obtain ⟨cu, hcu⟩ := owns_block (unhide HI).tab.off e1; exact ⟨cu, _, hcu, by decide, by decide⟩
            · obtain ⟨cu, hcu⟩ := owns_block (unhide HI).tab.cel e1; exact ⟨cu, _, hcu, by decide, by decide⟩
          obtain ⟨cu, t, hcu, t1, t2⟩ := hbt
          rcases e with e | e
          · exact two_types hcu hH.box t1 e
          · exact two_types hcu hcg t2 e))
        have hE4 := (unhide HI).es.mod hH m4 d[0]! q2 q3
        rw [hes] at hE4
        have hlen := packTo_len (L := L) (n := S.length) (unhide HLP) k
        refine (lay_any bp _ _ vX c S.length _ _ w4 hT4 ⟨packTo_st (unhide HL0) k, by omega⟩ (by omega) d[0]! ge (L d[0]!).length ce (L d[0]!) rfl hE4 (unhide HLP d[0]!) (unhide HLL d[0]!) q2 (by omega)).mono ?_
        rintro e w5 ⟨rfl, vX5, H5⟩
        exact ⟨rfl, vX5, hide ((unhide HI).step hdm h4 m4 (unhide H5) hT4)⟩)
      have HQ5 := hide q5
      have hta := assertRow
      clear hK q1 q2 q3 q4 q5 hes hsl hdm
      generalize (siftDown (hlt L) m 0 0 (swp d 0 m)).pop = d2 at *
      generalize (L d[0]!).length = mm at *
      generalize d[0]! = s0 at *
      go_wp2_with (first | (go_at_call 74; refine (unhide HRL _ _ _ _).mono ?_; rintro e w' ⟨rfl, hw'⟩; obtain rfl := hw'.symm) | (go_at_call 76; refine (unhide HPO).mono ?_; rintro e w4 ⟨rfl, H4, M4⟩) | (go_at_call 75; refine (unhide HLA w4 (unhide H4) (unhide M4)).mono ?_; rintro e w5 ⟨rfl, vX5, H5⟩))
      go_roundg m
      case measure => omega
      case rel => exact ⟨k + 1, d2, vX5, unhide HQ5, by omega, H5⟩
end Go.Proofs.YtibkhphbilfckaaGreatDoor
