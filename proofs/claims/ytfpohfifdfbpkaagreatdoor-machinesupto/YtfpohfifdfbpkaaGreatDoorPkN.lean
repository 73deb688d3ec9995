import Derived.Test.YtfpohfifdfbpkaaGreatDoorPkI
import Derived.Test.YtfpohfifdfbpkaaGreatDoorMath
namespace Go.Proofs.YtfpohfifdfbpkaaGreatDoor
open Go.RowKit Scour Go.Lib Go.Shelf Go.Sort
set_option maxHeartbeats 16000000 in
set_option maxRecDepth 100000 in
theorem rowsOf_any (bt be g : Nat) (ps S : List Str) (w : World) (hM : jC w bt be g ps S) (vC : Value) (c : Str) (hC : w.ownsRow 0 5 1 vC c.length (c.map zT)) (hc : c.length <= 256) :
  Calls Tryz.prog 76 #[.pointer (some ⟨bt, 0, none⟩), vC] w fun e w' => ∃ rp gh cap d es, e = .returned (.pointer (some ⟨rp, 0, none⟩)) /\ Hid (zQ w' rp gh cap d es) /\ Hid (EsIn w' (zU S c) es S.length) /\ Hid (HSet (zU S c) S.length (fun _ => false) d) /\ Hid (d.size <= S.length) /\ Hid (w.heap.size <= rp /\ w.heap.size <= gh) /\ Hid (Below w.heap.size w w') := by
 have hl := hM.len
 have hlen : ∀ s, (zU S c s).length <= 256 := fun s => Nat.le_trans (excTo_len S c s c.length) hc
 have HL0 : Hid (∀ W, Below w.heap.size w W -> Calls Tryz.prog 38 #[.pointer (some ⟨bt, 0, none⟩)] W fun e w' => e = .returned (.int .i64 S.length) /\ w' = W) := zB fun W hb => tlen_any bt be g ps S W (hM.below hb)
 have HX0 : Hid (∀ W s, s < S.length -> Below w.heap.size w W -> Calls Tryz.prog 118 #[.pointer (some ⟨bt, 0, none⟩), .int .i64 s, vC] W fun e w' => ∃ v, e = .returned v /\ Hid (w'.ownsRow W.heap.size 218 2 v (zU S c s).length (encP (zU S c s))) /\ Hid (Below W.heap.size W w')) := zB fun W s hs hb => pexc_any bt be g ps S W (hM.below hb) s hs vC c (zE hC (fun b hl _ => hb.block b hl)) hc
 have HB0 : Hid (Below w.heap.size w ((w.alloc (.cells #[] 165)).alloc (.cells #[.slice (some ⟨w.heap.size, 0, none⟩) 0 0] 213))) := zB (((Below.refl _ _).alloc (Nat.le_refl _) _).alloc (by simp) _)
 have HH0 : Hid (zQ ((w.alloc (.cells #[] 165)).alloc (.cells #[.slice (some ⟨w.heap.size, 0, none⟩) 0 0] 213)) (w.heap.size + 1) w.heap.size 0 #[] (fun _ => .slice none 0 0)) := zB (by
  have hA := heap_alloc_new w (.cells #[] 165)
  have hB := heap_alloc_new (w.alloc (.cells #[] 165)) (.cells #[.slice (some ⟨w.heap.size, 0, none⟩) 0 0] 213)
  have hs1 : (w.alloc (.cells #[] 165)).heap.size = w.heap.size + 1 := by simp
  rw [hs1] at hB
  have hA2 : ((w.alloc (.cells #[] 165)).alloc (.cells #[.slice (some ⟨w.heap.size, 0, none⟩) 0 0] 213)).heap[w.heap.size]? = some (.cells #[] 165 (0, 0)) := (Below.heap_alloc _ _ w.heap.size (by simp)).trans hA
  exact ⟨hB, ⟨rfl, Or.inr ⟨w.heap.size, 0, #[], rfl, Nat.zero_le _, hA2, Nat.le_refl _, by unfold maxLen; omega, rfl, rfl⟩⟩, by omega⟩)
 have HS0 : Hid (HSet (zU S c) 0 (fun _ => false) #[]) := zB ⟨fun s => by simp, by simp, fun k _ hk => by simp at hk⟩
 clear hM hC
 generalize zU S c = L at *
 go_enter Tryz.func76, Tryz.ntmps76
 go_wp2_with fail
 refine (zA HL0 _ (zA HB0)).mono ?_
 rintro e w' ⟨rfl, hw'⟩
 subst hw'
 go_wp2_with fail
 generalize ((w.alloc (.cells #[] 165)).alloc (.cells #[.slice (some ⟨w.heap.size, 0, none⟩) 0 0] 213)) = w1 at *
 obtain ⟨rp, hrp⟩ : ∃ rp, rp = w.heap.size + 1 := ⟨_, rfl⟩
 rw [← hrp] at HH0 ⊢
 have HRP : Hid (w.heap.size <= rp) := zB (by omega)
 clear hrp
 go_loopw [12] (fun v wr => ∃ (s gh cap : Nat) (d : Array Nat) (es : Nat -> Value), v = .int .i64 s /\ s <= S.length /\ Hid (zQ wr rp gh cap d es) /\ Hid (EsIn wr L es s) /\ Hid (HSet L s (fun _ => false) d) /\ Hid (d.size <= s /\ w.heap.size <= gh) /\ Hid (Below w.heap.size w wr)) (fun v _ => S.length - (intOf v).toNat)
 case atStart => exact ⟨0, w.heap.size, 0, #[], fun _ => .slice none 0 0, rfl, Nat.zero_le _, HH0, zB (fun s hs => by omega), HS0, zB ⟨Nat.le_refl _, Nat.le_refl _⟩, HB0⟩
 case round =>
  clear HH0 HS0 HB0
  obtain ⟨s, gh, cap, d, es, rfl, hs, HH, HE, HS, HD, HB⟩ := hrel
  have hsz := (zA HB).size
  by_cases hss : s < S.length
  ·have HX1 := zB (zA HX0 wr s hss (zA HB))
   go_wp2_with fail
   refine (zA HX1).mono ?_
   rintro e w2 ⟨v, rfl, HO, HB2⟩
   have hs2 := (zA HB2).size
   have HB3 : Hid (Below w.heap.size w w2) := zB ((zA HB).trans ((zA HB2).mono hsz))
   have HH2 : Hid (zQ w2 rp gh cap d es) := zB ⟨((zA HB2).block rp (Array.getElem?_eq_some_iff.1 (zA HH).box).1).trans (zA HH).box, zE (zA HH).row (fun b hl _ => (zA HB2).block b hl), (zA HH).ne⟩
   have HE2 := zB ((zA HE).below (zA HB2))
   have hll := hlen s
   by_cases h0 : 0 < (L s).length
   ·rcases zV (zA HO) with ⟨_, e0⟩ | ⟨b, cc, hv, hbg, hbl, hcc⟩
    ·omega
    ·subst hv
     obtain ⟨es2, hes2⟩ : ∃ es2 : Nat -> Value, es2 = fun k => if k = s then .slice (some ⟨b, 0, none⟩) (L s).length cc else es k := ⟨_, rfl⟩
     have hdm : ∀ x, x ∈ d.toList -> x < s := fun x hx => (((zA HS).mem x).1 hx).1
     have he1 : ∀ x, x < s -> es2 x = es x := fun x hx => by rw [hes2]; simp [show x ≠ s by omega]
     have he2 : es2 s = .slice (some ⟨b, 0, none⟩) (L s).length cc := by rw [hes2]; simp
     have HH3 : Hid (zQ w2 rp gh cap d es2) := zB ((zA HH2).congr (fun x hx => he1 x (hdm x hx)))
     have HE3 : Hid (EsIn w2 L es2 (s + 1)) := zB (fun x hx h1 => by
      rcases Nat.lt_or_ge x s with gx | gx
      ·rw [he1 x gx]; exact zA HE2 x gx h1
      ·obtain rfl : x = s := by omega
       rw [he2]; exact zu (zA HO))
     have hpu := (zA HS).push h0
     have hKp : HOK L es2 (s + 1) (d.push s) := ⟨(zA HE3).ok hlen, fun x hx => by
      rw [Array.toList_push, List.mem_append] at hx
      rcases hx with hx | hx
      ·have := ((zA HS).mem x).1 hx; exact ⟨by omega, this.2.2⟩
      ·simp only [List.mem_singleton] at hx; subst hx; exact ⟨by omega, h0⟩, by omega, by have := (zA HD).1; simp; omega⟩
     have HP : Hid (Calls Tryz.prog 119 #[.iface 160 (.pointer (some ⟨rp, 0, none⟩)), .iface 165 (.agg #[.int .i64 (s : Nat), .slice (some ⟨b, 0, none⟩) (L s).length cc])] w2 fun e w' => e = .returned (.tuple #[]) /\ ∃ g' cap', Hid (zQ w' rp g' cap' (heapPush (hlt L) d s) es2) /\ Hid (Mod (fun k => k = rp \/ k = gh) w2 w') /\ Hid (g' = gh \/ w2.heap.size <= g')) := zB (by
      have := hpush_any L rp gh cap (s + 1) d es2 w2 (zA HH3) s hKp
      rw [he2] at this
      exact this)
     have HPU := zB hpu
     clear hpu hKp hes2 he1 he2 hdm
     generalize (L s).length = mm at *
     go_wp2_with (go_at_call 119; refine (zA HP).mono ?_; rintro e w3 ⟨rfl, g', cap', H3, M3, G3⟩)
     go_roundw
     case rel =>
      have hgr : w.heap.size <= g' := by have := (zA HD).2; rcases zA G3 with e | e <;> omega
      refine ⟨s + 1, g', cap', _, es2, by go_num, hss, H3, zB ((zA HE3).mod (zA HH3) (zA M3)), zB (zA HPU).1, zB ⟨by rw [(zA HPU).2]; have := (zA HD).1; omega, hgr⟩, zB ((zA HB3).trans ((zA M3).below (Nat.le_trans hsz hs2) (fun k hk => by have := (zA HD).2; have := zA HRP; rcases hk with e | e <;> omega)))⟩
     case measure => simp [intOf]; omega
   ·have HE3 : Hid (EsIn w2 L es (s + 1)) := zB (fun x hx h1 => by
     rcases Nat.lt_or_ge x s with gx | gx
     ·exact zA HE2 x gx h1
     ·obtain rfl : x = s := by omega
      exact absurd h1 h0)
    have HSK := zB ((zA HS).skip h0)
    obtain ⟨a0, c0, hv⟩ : ∃ a0 c0, v = .slice a0 0 c0 := by
     rcases zV (zA HO) with ⟨e1, _⟩ | ⟨b, cc, e1, _⟩
     ·exact ⟨none, 0, e1⟩
     ·exact ⟨_, cc, by rw [e1]; congr 1; omega⟩
    subst hv
    go_wp2
    go_roundw
    case rel => exact ⟨s + 1, gh, cap, d, es, by go_num, hss, HH2, HE3, HSK, zB ⟨by have := (zA HD).1; omega, (zA HD).2⟩, HB3⟩
    case measure => simp [intOf]; omega
  ·obtain rfl : s = S.length := by omega
   go_wp2
   go_ret
   exact ⟨rp, gh, cap, d, es, rfl, HH, HE, HS, zB (zA HD).1, zB ⟨zA HRP, (zA HD).2⟩, HB⟩
end Go.Proofs.YtfpohfifdfbpkaaGreatDoor
namespace Go.Proofs.YtfpohfifdfbpkaaGreatDoor
open Go.RowKit Scour Go.Lib Go.Shelf Go.Sort
structure PkInv (w wr : World) (rp gh cap bp : Nat) (R : List Value) (vC vO vX : Value) (c : Str) (L : Nat -> List (Nat × Nat)) (n : Nat) (es : Nat -> Value) (d : Array Nat) (p : PSt) : Prop where
 heap : zQ wr rp gh cap d es
 es : EsIn wr L es n
 set : HSet L n p.d d
 tab : Tab wr bp R vC vO vX c n p.o p.cl
 ge : w.heap.size <= rp /\ w.heap.size <= gh /\ w.heap.size <= bp
 geO : ∀ b, vO.ownBlock = some b -> w.heap.size <= b
 geX : ∀ b, vX.ownBlock = some b -> w.heap.size <= b
 geC : ∀ b, vC.ownBlock = some b -> w.heap.size <= b
 below : Below w.heap.size w wr
theorem COK.lay {cl : List (Int × Int)} (h : ∀ q, q ∈ cl -> q.1 = -1 \/ 1 <= q.1) {s a : Nat} (hs : 1 <= s) : ∀ (l : List (Nat × Nat)), ∀ q, q ∈ lay cl s l a -> q.1 = -1 \/ 1 <= q.1 := by
 intro l
 induction l generalizing cl with
 | nil => exact h
 | cons p l ih =>
   have e : Go.Proofs.YtfpohfifdfbpkaaGreatDoor.lay cl s (p :: l) a = Go.Proofs.YtfpohfifdfbpkaaGreatDoor.lay (layOne s a cl p) s l a := rfl
   rw [e]
   refine ih (fun q hq => ?_)
   unfold layOne padC at hq
   rcases List.mem_or_eq_of_mem_set hq with h1 | h1
   ·rcases List.mem_append.1 h1 with h2 | h2
    ·exact h q h2
    ·have := (List.mem_replicate.1 h2).2
     left; rw [this]
   ·right; rw [h1]; simp; omega
theorem zeros_row (w : World) (n : Nat) (hn : n < 10000) : (w.alloc (.cells (madeCells #[Value.int .i64 0] n) 3)).ownsRow 0 3 1 (.slice (some ⟨w.heap.size, 0, none⟩) n n) n (zZ (fun _ => 0) n) := by
 have hl := zeros_ints n
 have hsz : (madeCells #[Value.int .i64 0] n).size = n := by
  have := congrArg List.length hl
  rw [zi] at this
  simpa using this
 refine ⟨by rw [zi]; omega, Or.inr ⟨w.heap.size, n, _, rfl, Nat.zero_le _, heap_alloc_new w _, Nat.le_refl _, by unfold maxLen; omega, by rw [hsz]; omega, ?_⟩⟩
 rw [hl, List.take_of_length_le (by rw [zi]; omega)]
theorem excL_zero (S : List Str) (c : Str) : zU S c 0 = [] := by
 unfold zU
 have : ∀ k, zt S c 0 k = [] := by
  intro k
  induction k with
  | zero => rfl
  | succ k ih => rw [zt, ih, if_pos rfl]; rfl
 exact this _
theorem packTo_st {L : Nat -> List (Nat × Nat)} {n : Nat} (hL : L 0 = []) : ∀ k, ∀ q, q ∈ (zP L n k).cl -> q.1 = -1 \/ 1 <= q.1 := by
 intro k
 induction k with
 | zero => intro q hq; cases hq
 | succ k ih =>
   show ∀ q, q ∈ (yA L n (zP L n k)).cl -> _
   unfold yA
   split
   ·exact ih
   ·rename_i hb
    rcases jB L (zP L n k).d n with e | ⟨b, _, e, _, h0⟩
    ·omega
    ·refine COK.lay ih ?_ _
     rw [e]
     rcases Nat.eq_zero_or_pos b with g | g
     ·subst g; rw [hL] at h0; simp at h0
     ·show 1 <= ((b : Int)).toNat
      simp; omega
theorem packTo_len {L : Nat -> List (Nat × Nat)} {n : Nat} (hL : ∀ s p, p ∈ L s -> p.1 < 1000) : ∀ k, (zP L n k).cl.length <= 1000 * k := by
 intro k
 induction k with
 | zero => exact Nat.le_refl _
 | succ k ih =>
   show (yA L n (zP L n k)).cl.length <= _
   unfold yA
   split
   ·omega
   ·have := lay_le (cl := (zP L n k).cl) (s := (za L (zP L n k).d n).toNat) (hL (za L (zP L n k).d n).toNat) (offOf_spec (zP L n k).cl (L (za L (zP L n k).d n).toNat)).1
    simp only []
    omega
theorem zQ.mod {w w' : World} {rp gh cap : Nat} {d : Array Nat} {es : Nat -> Value} (h : zQ w rp gh cap d es) (hr : w'.heap[rp]? = w.heap[rp]?) (hg : w'.heap[gh]? = w.heap[gh]?) : zQ w' rp gh cap d es := ⟨hr.trans h.box, yp h.row hg, h.ne⟩
theorem PkInv.step {w wr w3 w4 : World} {rp gh cap bp m k : Nat} {R : List Value} {vC vO vX vX' : Value} {c : Str} {L : Nat -> List (Nat × Nat)} {n : Nat} {es : Nat -> Value} {d : Array Nat} (h : PkInv w wr rp gh cap bp R vC vO vX c L n es d (zP L n k)) (hm : d.size = m + 1)
  (h3 : zQ w3 rp gh cap (siftDown (hlt L) m 0 0 (swp d 0 m)).pop es) (m3 : Mod (fun k => k = rp \/ k = gh) wr w3) (h4 : TInv w3 w4 bp R vC vO vX c n (upd (zP L n k).o d[0]! (offOf (zP L n k).cl (L d[0]!) : Nat)) vX' (Go.Proofs.YtfpohfifdfbpkaaGreatDoor.lay (zP L n k).cl d[0]! (L d[0]!) (offOf (zP L n k).cl (L d[0]!))))
  (hT3 : Tab w3 bp R vC vO vX c n (zP L n k).o (zP L n k).cl) :
  PkInv w w4 rp gh cap bp R vC vO vX' c L n es (siftDown (hlt L) m 0 0 (swp d 0 m)).pop (zP L n (k + 1)) := by
 obtain ⟨q1, q2, q3, q4, q5⟩ := h.set.pop hm
 have hst : zP L n (k + 1) = ⟨fun x => if x = d[0]! then true else (zP L n k).d x, upd (zP L n k).o d[0]! (offOf (zP L n k).cl (L d[0]!) : Nat), Go.Proofs.YtfpohfifdfbpkaaGreatDoor.lay (zP L n k).cl d[0]! (L d[0]!) (offOf (zP L n k).cl (L d[0]!))⟩ := by
  show yA L n (zP L n k) = _
  unfold yA
  rw [q1, if_neg (by omega)]
  simp only [Int.toNat_natCast]
 have hE3 : EsIn w3 L es n := h.es.mod h.heap m3
 obtain ⟨cg, hcg⟩ := zK h3.row
 have hM4 : ∀ b, b < w3.heap.size -> tabP bp vO vX b -> w.heap.size <= b := by
  rintro b _ (e | e | e)
  ·rw [e]; exact h.ge.2.2
  ·exact h.geO b e
  ·exact h.geX b e
 rw [hst]
 refine ⟨h3.mod ?_ ?_, ?_, q4, h4.tab, h.ge, h.geO, ?_, h.geC, ?_⟩
 ·exact h4.mod.out rp (Array.getElem?_eq_some_iff.1 h3.box).1 (hT3.notP h3.box (by decide) (by decide) (by decide))
 ·exact h4.mod.out gh (Array.getElem?_eq_some_iff.1 hcg).1 (hT3.notP hcg (by decide) (by decide) (by decide))
 ·intro s hs h0
  refine zE (hE3 s hs h0) (fun b hl hv => h4.mod.out b hl ?_)
  obtain ⟨c1, hc1⟩ := zD (hE3 s hs h0) hv
  exact hT3.notP hc1 (by decide) (by decide) (by decide)
 ·rcases h4.own with e | e
  ·rw [e]; exact h.geX
  ·intro b hb
   have := e b hb
   have := m3.size
   have := h.below.size
   omega
 ·have b3 : Below w.heap.size w w3 := h.below.trans (m3.below h.below.size (fun k hk => by rcases hk with e | e; rw [e]; exact h.ge.1; rw [e]; exact h.ge.2.1))
  refine b3.trans ?_
  have hs3 := b3.size
  exact ⟨by first | exact h4.mod.tape | exact h4.mod.os | exact h4.mod.output, by first | exact h4.mod.tape | exact h4.mod.os | exact h4.mod.output, by first | exact h4.mod.tape | exact h4.mod.os | exact h4.mod.output, h4.mod.size, fun b hb => h4.mod.out b (by omega) (fun hp => by have := hM4 b (by omega) hp; omega)⟩
end Go.Proofs.YtfpohfifdfbpkaaGreatDoor
namespace Go.Proofs.YtfpohfifdfbpkaaGreatDoor
open Go.RowKit Scour Go.Lib Go.Shelf
def maxF (o : Nat -> Int) : Nat -> Int
 | 0 => o 0
 | k + 1 => max (maxF o k) (o (k + 1))
theorem le_maxF (o : Nat -> Int) : ∀ k i, i <= k -> o i <= maxF o k
 | 0, i, h => by obtain rfl : i = 0 := by omega
                 exact Int.le_refl _
 | k + 1, i, h => by
   rw [maxF]
   by_cases e : i = k + 1
   ·subst e; omega
   ·have := le_maxF o k i (by omega); omega
theorem maxF_in {o : Nat -> Int} {B : Int} (h : ∀ i, 0 <= o i /\ o i <= B) : ∀ k, 0 <= maxF o k /\ maxF o k <= B
 | 0 => h 0
 | k + 1 => by
   have h1 := maxF_in h k
   have h2 := h (k + 1)
   rw [maxF]; omega
set_option maxHeartbeats 2000000 in
theorem smax_any (g n cap : Nat) (o : Nat -> Int) (w : World) (h0 : 0 < n) (hn : n < 1000000) (hc : ∀ i, i < n -> w.cell? ⟨g, i, none⟩ = some (.int .i64 (o i))) :
  Calls Tryz.prog 81 #[.slice (some ⟨g, 0, none⟩) n cap] w fun e w' => e = .returned (.int .i64 (maxF o (n - 1))) /\ w' = w := by
 have HC := zB hc
 have c0 := hc 0 h0
 have l1 : ¬ (n : Int) < 1 := by omega
 have l2 : (0 : Int) < (n : Int) := by omega
 clear hc
 go_enter Tryz.func81, Tryz.ntmps81
 go_wp2
 go_loopw [3, 4] (fun v3 v4 wr => ∃ k : Nat, v3 = .int .i64 (maxF o k) /\ v4 = .int .i64 ((k : Int) + 1) /\ k < n /\ wr = w) (fun _ v4 _ => n - (intOf v4).toNat)
 case atStart => exact ⟨0, rfl, rfl, h0, rfl⟩
 case round =>
  obtain ⟨k, rfl, rfl, hk, rfl⟩ := hrel
  by_cases hkn : k + 1 < n
  ·have c1 := zA HC (k + 1) hkn
   have k1 : (k : Int) + 1 < (n : Int) := by omega
   have k2 : (0 : Int) <= (k : Int) + 1 := by omega
   have k3 : ((k : Int) + 1).toNat = k + 1 := by omega
   go_wp2
   go_roundw
   case rel => exact ⟨k + 1, by first | (rw [maxF]; done) | (rw [maxF]; congr 1; split <;> omega), by go_num, hkn, trivial⟩
   case measure => simp [intOf]; omega
  ·obtain rfl : n = k + 1 := by omega
   have k1 : ¬ (k : Int) + 1 < ((k + 1 : Nat) : Int) := by omega
   go_wp2
   go_ret
   exact ⟨rfl, rfl⟩
def clsF (c : Str) : Nat -> Nat -> Int
 | 0 => fun _ => 0
 | k + 1 => upd (clsF c k) (c.getD k 0).toNat (k + 1 : Nat)
def fstF (S : List Str) (c : Str) : Nat -> Nat -> Int
 | 0 => fun _ => 0
 | k + 1 => upd (fstF S c k) (k + 1) (zO S 0 (c.getD k 0) : Nat)
def tabR (z : Int) (f : Nat -> Int) (vF : Value) : List Value := .int .i64 z :: (zZ f 256 ++ [vF])
theorem zero_tab (v0 v1 : Value) : (Tryz.zeroCells118.setIfInBounds 0 v0).setIfInBounds 1 v1 = (v0 :: v1 :: .slice none 0 0 :: tabR 0 (fun _ => 0) (.slice none 0 0)).toArray := by kernel_rfl
theorem tabR_cls {z : Int} {f : Nat -> Int} {vF : Value} {vC vO vX : Value} {b : Nat} (hb : b < 256) : (vC :: vO :: vX :: tabR z f vF).toArray[4 + b]? = some (.int .i64 (f b)) := by
 rw [show 4 + b = b + 1 + 1 + 1 + 1 by omega]
 unfold tabR
 simp only [List.getElem?_toArray, List.getElem?_cons_succ]
 rw [List.getElem?_append_left (by rw [zi]; exact hb), zW _ _ _ hb]
theorem tabR_fst {z : Int} {f : Nat -> Int} {vF : Value} {vC vO vX : Value} : (vC :: vO :: vX :: tabR z f vF).toArray[260]? = some vF := by
 rw [show 260 = 256 + 1 + 1 + 1 + 1 by omega]
 unfold tabR
 simp only [List.getElem?_toArray, List.getElem?_cons_succ]
 rw [List.getElem?_append_right (by rw [zi]; exact Nat.le_refl _), zi]
 rfl
theorem Tab.other {w : World} {bp : Nat} {R R' : List Value} {vC vO vX : Value} {c : Str} {n : Nat} {o : Nat -> Int} {cl : List (Int × Int)} (h : Tab w bp R vC vO vX c n o cl) {i : Nat} {v : Value} (he : (vC :: vO :: vX :: R).toArray.setIfInBounds i v = (vC :: vO :: vX :: R').toArray) : Tab (w.setCell ⟨bp, i, none⟩ v) bp R' vC vO vX c n o cl /\ Mod (fun k => k = bp) w (w.setCell ⟨bp, i, none⟩ v) := by
 have hfr : ∀ {e : Nat} {u : Value} {m sz : Nat} {xs : List Value}, e ≠ 118 -> w.ownsRow 0 e sz u m xs -> (w.setCell ⟨bp, i, none⟩ v).ownsRow 0 e sz u m xs := by
  intro e u m sz xs h1 hu
  refine zE hu (fun j _ hv => Below.heap_setCell w _ _ j (fun e1 => ?_))
  obtain ⟨c2, hc2⟩ := zD hu hv
  exact zH hc2 h.blk h1 e1
 refine ⟨⟨?_, hfr (by decide) h.cls, hfr (by decide) h.off, hfr (by decide) h.cel⟩, Mod.setCell w bp i v⟩
 rw [heap_setCell_same w bp i _ _ v h.blk, he]
theorem tabR_size {z z' : Int} {f : Nat -> Int} {vF vC vO vX : Value} : (vC :: vO :: vX :: tabR z f vF).toArray.setIfInBounds 3 (.int .i64 z') = (vC :: vO :: vX :: tabR z' f vF).toArray := by
 unfold tabR
 rw [List.setIfInBounds_toArray]
 rfl
theorem tabR_setF {z : Int} {f : Nat -> Int} {vF vF' vC vO vX : Value} : (vC :: vO :: vX :: tabR z f vF).toArray.setIfInBounds 260 vF' = (vC :: vO :: vX :: tabR z f vF').toArray := by
 rw [show 260 = 256 + 1 + 1 + 1 + 1 by omega]
 unfold tabR
 rw [List.setIfInBounds_toArray]
 simp only [List.set_cons_succ]
 rw [List.set_append_right _ _ (by rw [zi]; exact Nat.le_refl _), zi]
 rfl
theorem tabR_setC {z : Int} {f : Nat -> Int} {vF vC vO vX : Value} {b : Nat} {x : Int} (hb : b < 256) : (vC :: vO :: vX :: tabR z f vF).toArray.setIfInBounds (4 + b) (.int .i64 x) = (vC :: vO :: vX :: tabR z (upd f b x) vF).toArray := by
 rw [show 4 + b = b + 1 + 1 + 1 + 1 by omega]
 unfold tabR
 rw [List.setIfInBounds_toArray]
 simp only [List.set_cons_succ]
 rw [List.set_append_left _ _ (by rw [zi]; exact hb), yq]
structure FInv (w wr : World) (bp gF : Nat) (z : Int) (k : Nat) (S : List Str) (vC vO vX : Value) (c : Str) (n : Nat) (o : Nat -> Int) (cl : List (Int × Int)) (kf : Nat) : Prop where
 tab : Tab wr bp (tabR z (clsF c k) (.slice (some ⟨gF, 0, none⟩) (c.length + 1) (c.length + 1))) vC vO vX c n o cl
 row : wr.ownsRow 0 3 1 (.slice (some ⟨gF, 0, none⟩) (c.length + 1) (c.length + 1)) (c.length + 1) (zZ (fstF S c kf) (c.length + 1))
 mod : Mod (fun k => k = bp) w wr
 ge : w.heap.size <= gF
theorem FInv.drewN {w wr : World} {bp gF : Nat} {z : Int} {k kf : Nat} {S : List Str} {vC vO vX : Value} {c : Str} {n : Nat} {o : Nat -> Int} {cl : List (Int × Int)} (h : FInv w wr bp gF z k S vC vO vX c n o cl kf) {w2 : World} (hb : Below wr.heap.size wr w2) : FInv w w2 bp gF z k S vC vO vX c n o cl kf :=
 ⟨h.tab.below hb, zE h.row (fun b hl _ => hb.block b hl), h.mod.trans ⟨hb.os, hb.tape, hb.output, hb.size, fun k hk _ => hb.block k hk⟩ (fun _ _ e => e), h.ge⟩
theorem FInv.put {w wr : World} {bp gF : Nat} {z : Int} {k kf : Nat} {S : List Str} {vC vO vX : Value} {c : Str} {n : Nat} {o : Nat -> Int} {cl : List (Int × Int)} (h : FInv w wr bp gF z k S vC vO vX c n o cl kf) (hv : (∀ b, vC.ownBlock = some b -> b < w.heap.size) /\ (∀ b, vO.ownBlock = some b -> b < w.heap.size) /\ (∀ b, vX.ownBlock = some b -> b < w.heap.size)) (hbp : bp < w.heap.size) : FInv w (wr.setCell ⟨gF, kf + 1, none⟩ (.int .i64 (zO S 0 (c.getD kf 0) : Nat))) bp gF z k S vC vO vX c n o cl (kf + 1) := by
 have hge := h.ge
 have hk : ∀ j, j ≠ gF -> (wr.setCell ⟨gF, kf + 1, none⟩ (.int .i64 (zO S 0 (c.getD kf 0) : Nat))).heap[j]? = wr.heap[j]? := fun j hj => Below.heap_setCell wr _ _ j hj
 refine ⟨h.tab.same (fun j _ hj => hk j ?_), ?_, h.mod.trans (Mod.setCell wr gF _ _) (fun b hb e => by omega), h.ge⟩
 ·rcases hj with e | e | e | e
  ·omega
  ·have := hv.1 j e; omega
  ·have := hv.2.1 j e; omega
  ·have := hv.2.2 j e; omega
 ·have := (h.row.stored (kf + 1) (.int .i64 (zO S 0 (c.getD kf 0) : Nat))).1
  rw [yq] at this
  exact this
set_option maxHeartbeats 8000000 in
set_option maxRecDepth 100000 in
theorem setFirst_any (bt be g bp : Nat) (z : Int) (ps S : List Str) (vC vO vX : Value) (c : Str) (n : Nat) (o : Nat -> Int) (cl : List (Int × Int)) (w : World) (hM : jC w bt be g ps S) (hT : Tab w bp (tabR z (fun _ => 0) (.slice none 0 0)) vC vO vX c n o cl) (hc : c.length <= 256) :
  Calls Tryz.prog 82 #[.pointer (some ⟨bp, 0, none⟩), .pointer (some ⟨bt, 0, none⟩)] w fun e w' => ∃ gF, e = .returned (.tuple #[]) /\ Hid (FInv w w' bp gF z c.length S vC vO vX c n o cl c.length) := by
 obtain ⟨aC, cC, hvC⟩ : ∃ aC cC, vC = .slice aC c.length cC := by
  rcases zV hT.cls with ⟨h1, h2⟩ | ⟨gc, cc, h1, _⟩
  ·exact ⟨none, 0, by rw [h1, h2]⟩
  ·exact ⟨_, cc, h1⟩
 subst hvC
 have hbp : bp < w.heap.size := (Array.getElem?_eq_some_iff.1 hT.blk).1
 have hmi : ∀ W, (Instr.makeSlice 24 (.int .i64 ((c.length : Int) + 1)) (.int .i64 ((c.length : Int) + 1))).run Tryz.prog W = .ok (.slice (some ⟨W.heap.size, 0, none⟩) (c.length + 1) (c.length + 1)) (W.alloc (.cells (madeCells #[Value.int .i64 0] (c.length + 1)) 3)) := fun W => by
  rw [show ((c.length : Int) + 1) = ((c.length + 1 : Nat) : Int) by omega]
  exact run_make_row' (P := Tryz.prog) 24 3 (.int .i64 0) 8 Tryz.underlying24 Tryz.infoI rfl .i64 .i64 (c.length + 1) (by omega) (by omega) W
 have hml := hM.lts
 have HNX : Hid (∀ W b, Mod (fun k => k = bp) w W -> Calls Tryz.prog 43 #[.pointer (some ⟨bt, 0, none⟩), .int .i64 0, .int .u8 (b : UInt8).toNat] W fun e w' => e = .returned (.int .i64 (zO S 0 b)) /\ Below W.heap.size W w') := zB (fun W b hm => by
  have hM' : jC W bt be g ps S := by
   obtain ⟨cap, par, lst, E, hTr, hS⟩ := hM.ex
   obtain ⟨c1, hc1⟩ := zK hTr.row
   obtain ⟨c2, hc2⟩ := zK hTr.ends
   refine hM.same hm.size (fun k hk => ?_)
   rcases hk with e | e | e
   ·rw [e]; exact hm.out bt hml.1 (zH hTr.blk hT.blk (by decide))
   ·rw [e]; exact hm.out be hml.2.1 (zH hc2 hT.blk (by decide))
   ·rw [e]; exact hm.out g hml.2.2 (zH hc1 hT.blk (by decide))
  exact tmnext_any bt be g ps S W hM' 0 b hM.len.1)
 have c0 : w.cell? ⟨bp, 0, none⟩ = some (.slice aC c.length cC) := by rw [zC hT.blk]; rfl
 have c5 : ∀ ob, (w.alloc ob).cell? ⟨bp, 260, none⟩ = some (.slice none 0 0) := fun ob => by
  rw [zC (((Below.refl w.heap.size w).alloc (Nat.le_refl _) ob).block bp hbp |>.trans hT.blk)]; exact tabR_fst
 have f5 : ∀ ob, (w.alloc ob).frozen? ⟨bp, 260, none⟩ = false := fun ob => frozen_of_row _ _ _ _ _ (((Below.refl w.heap.size w).alloc (Nat.le_refl _) ob).block bp hbp |>.trans hT.blk)
 have H0 : Hid (FInv w ((w.setCell ⟨bp, 260, none⟩ (.slice (some ⟨w.heap.size, 0, none⟩) (c.length + 1) (c.length + 1))).alloc (.cells (madeCells #[Value.int .i64 0] (c.length + 1)) 3)) bp w.heap.size z 0 S (.slice aC c.length cC) vO vX c n o cl 0) := zB (by
  obtain ⟨q1, q2⟩ := hT.other (i := 260) (v := .slice (some ⟨w.heap.size, 0, none⟩) (c.length + 1) (c.length + 1)) tabR_setF
  have hz := zeros_row (w.setCell ⟨bp, 260, none⟩ (.slice (some ⟨w.heap.size, 0, none⟩) (c.length + 1) (c.length + 1))) (c.length + 1) (by omega)
  have hs : (w.setCell ⟨bp, 260, none⟩ (.slice (some ⟨w.heap.size, 0, none⟩) (c.length + 1) (c.length + 1))).heap.size = w.heap.size := by simp [World.setCell]
  rw [hs] at hz
  generalize w.setCell ⟨bp, 260, none⟩ (.slice (some ⟨w.heap.size, 0, none⟩) (c.length + 1) (c.length + 1)) = w0 at *
  have hb1 : Below w0.heap.size w0 (w0.alloc (.cells (madeCells #[Value.int .i64 0] (c.length + 1)) 3)) := (Below.refl _ _).alloc (Nat.le_refl _) _
  exact ⟨q1.below hb1, hz, q2.trans ⟨hb1.os, hb1.tape, hb1.output, hb1.size, fun k hk _ => hb1.block k hk⟩ (fun _ _ e => e), Nat.le_refl _⟩)
 have HRD : Hid (∀ wr k kf gF, FInv w wr bp gF z k S (.slice aC c.length cC) vO vX c n o cl kf -> wr.cell? ⟨bp, 0, none⟩ = some (.slice aC c.length cC) /\ wr.cell? ⟨bp, 260, none⟩ = some (.slice (some ⟨gF, 0, none⟩) (c.length + 1) (c.length + 1)) /\ ∀ j, j < c.length -> ∃ gC, aC = some ⟨gC, 0, none⟩ /\ wr.cell? ⟨gC, j, none⟩ = some (.int .u8 (c.getD j 0).toNat)) := zB (fun wr k kf gF h => by
  refine ⟨by rw [zC h.tab.blk]; rfl, by rw [zC h.tab.blk]; exact tabR_fst, fun j hj => ?_⟩
  rcases zV h.tab.cls with ⟨h1, h2⟩ | ⟨gc, cc, h1, _⟩
  ·omega
  ·obtain ⟨rfl, rfl⟩ : aC = some ⟨gc, 0, none⟩ /\ cC = cc := by simpa using h1
   refine ⟨gc, rfl, ?_⟩
   rw [h.tab.cls.cellAt j (by omega)]
   simp [hj, zT, List.getD])
 have HLW : Hid (∀ W gF k kf, FInv w W bp gF z k S (.slice aC c.length cC) vO vX c n o cl kf -> gF < W.heap.size /\ gF ≠ bp /\ bp < W.heap.size) := zB (fun W gF k kf h => by
  obtain ⟨cu, hcu⟩ := zK h.row
  exact ⟨(Array.getElem?_eq_some_iff.1 hcu).1, zH hcu h.tab.blk (by decide), (Array.getElem?_eq_some_iff.1 h.tab.blk).1⟩)
 have HVL : Hid ((∀ b, (Value.slice aC c.length cC).ownBlock = some b -> b < w.heap.size) /\ (∀ b, vO.ownBlock = some b -> b < w.heap.size) /\ (∀ b, vX.ownBlock = some b -> b < w.heap.size)) := zB (by
  have hlt : ∀ {v : Value} {e s n : Nat} {xs : List Value}, w.ownsRow 0 e s v n xs -> ∀ b, v.ownBlock = some b -> b < w.heap.size := fun ho b hb => by
   obtain ⟨cu, hcu⟩ := zD ho hb
   exact (Array.getElem?_eq_some_iff.1 hcu).1
  exact ⟨hlt hT.cls, hlt hT.off, hlt hT.cel⟩)
 have HBP := zB hbp
 clear hM hT hml
 go_enter Tryz.func82, Tryz.ntmps82
 go_wp2_with fail
 obtain ⟨e0, e1, _⟩ := zA HRD _ _ _ _ (zA H0)
 have hl0 := zA HLW _ _ _ _ (zA H0)
 clear c0 c5 f5 hmi
 generalize (w.setCell ⟨bp, 260, none⟩ (.slice (some ⟨w.heap.size, 0, none⟩) (c.length + 1) (c.length + 1))).alloc (.cells (madeCells #[Value.int .i64 0] (c.length + 1)) 3) = w1 at *
 generalize hgF : w.heap.size = gF at *
 rw [← hgF] at HVL HBP
 clear hgF
 go_wp2_with fail
 go_loopw [21] (fun v wr => ∃ k : Nat, v = .int .i64 k /\ k <= c.length /\ Hid (FInv w wr bp gF z k S (.slice aC c.length cC) vO vX c n o cl k)) (fun v _ => c.length - (intOf v).toNat)
 case atStart => exact ⟨0, rfl, Nat.zero_le _, H0⟩
 case round =>
  clear H0 e0 e1 hl0
  obtain ⟨k, rfl, hk, HI⟩ := hrel
  obtain ⟨e0, e1, e2⟩ := zA HRD _ _ _ _ (zA HI)
  by_cases hkc : k < c.length
  ·obtain ⟨gC, rfl, e3⟩ := e2 k hkc
   obtain ⟨hl1, hl2, hl3⟩ := zA HLW _ _ _ _ (zA HI)
   have k1 : (k : Int) < (c.length : Int) := by omega
   have k0 : (0 : Int) <= (k : Int) := by omega
   have hbl := (c.getD k 0).toNat_lt
   have HTB : Hid (FInv w (wr.setCell ⟨bp, 4 + (c.getD k 0).toNat, none⟩ (.int .i64 ((k : Int) + 1))) bp gF z (k + 1) S (.slice (some ⟨gC, 0, none⟩) c.length cC) vO vX c n o cl k) := zB (by
    obtain ⟨q1, q2⟩ := (zA HI).tab.other (i := 4 + (c.getD k 0).toNat) (v := .int .i64 ((k : Int) + 1)) (tabR_setC (by omega))
    refine ⟨?_, zE (zA HI).row (fun b hl hv => Below.heap_setCell _ _ _ b (fun e => ?_)), (zA HI).mod.trans q2 (fun _ _ e => e), (zA HI).ge⟩
    ·rw [clsF]; exact q1
    ·have : gF = b := by simpa [Value.ownBlock] using hv
     simp only [] at e; omega)
   have c4 : wr.cell? ⟨bp, 4 + (c.getD k 0).toNat, none⟩ = some (.int .i64 (clsF c k (c.getD k 0).toNat)) := by rw [zC (zA HI).tab.blk]; exact tabR_cls (by omega)
   have f4 : wr.frozen? ⟨bp, 4 + (c.getD k 0).toNat, none⟩ = false := frozen_of_row _ _ _ _ _ (zA HI).tab.blk
   have HFS : Hid (zZ (upd (fstF S c k) (k + 1) (zO S 0 (c.getD k 0) : Nat)) (c.length + 1) = zZ (fstF S c (k + 1)) (c.length + 1)) := zB rfl
   have HPT : Hid (∀ W k2, FInv w W bp gF z k2 S (.slice (some ⟨gC, 0, none⟩) c.length cC) vO vX c n o cl k -> FInv w (W.setCell ⟨gF, k + 1, none⟩ (.int .i64 (zO S 0 (c.getD k 0) : Nat))) bp gF z k2 S (.slice (some ⟨gC, 0, none⟩) c.length cC) vO vX c n o cl (k + 1)) := zB (fun W k2 h => h.put (zA HVL) (zA HBP))
   generalize c.getD k 0 = b at *
   obtain ⟨x0, x1, _⟩ := zA HRD _ _ _ _ (zA HTB)
   have hl4 := zA HLW _ _ _ _ (zA HTB)
   have ky : ((b.toNat : Nat) : Int) < 256 := by omega
   clear e2 HI
   go_wp2_with fail
   clear e0 e1 e3 c4 f4
   generalize wr.setCell ⟨bp, 4 + b.toNat, none⟩ (.int .i64 ((k : Int) + 1)) = w4 at *
   have HNX4 : Hid (∀ q, Calls Tryz.prog 43 #[.pointer (some ⟨bt, 0, none⟩), .int .i64 0, .int .u8 b.toNat] (w4.drewN q) fun e w' => e = .returned (.int .i64 (zO S 0 b : Nat)) /\ Hid (FInv w w' bp gF z (k + 1) S (.slice (some ⟨gC, 0, none⟩) c.length cC) vO vX c n o cl k) /\ w'.cell? ⟨bp, 260, none⟩ = some (.slice (some ⟨gF, 0, none⟩) (c.length + 1) (c.length + 1)) /\ w'.cell? ⟨gF, k + 1, none⟩ = some (.int .i64 (fstF S c k (k + 1))) /\ w'.frozen? ⟨gF, k + 1, none⟩ = false) := zB (fun q => by
    have hq : Below w4.heap.size w4 (w4.drewN q) := below_drewN (Below.refl _ _) q
    have h1 := (zA HTB).drewN hq
    refine (zA HNX (w4.drewN q) b h1.mod).mono ?_
    rintro e w' ⟨rfl, hb⟩
    have h2 := h1.drewN hb
    exact ⟨rfl, zB h2, (zA HRD _ _ _ _ h2).2.1, by rw [h2.row.cellAt (k + 1) (by omega), zW _ _ _ (by omega)], h2.row.frozenAt _⟩)
   obtain ⟨m, hm⟩ : ∃ m, c.length + 1 = m := ⟨_, rfl⟩
   have k5 : (k : Int) + 1 < (m : Int) := by omega
   rw [hm] at HNX4 x1
   clear hm
   have k6 : (0 : Int) <= (k : Int) + 1 := by omega
   have k7 : ((k : Int) + 1).toNat = k + 1 := by omega
   have k8 : IntKind.i64.wrap ((k : Int) + 1) = (k : Int) + 1 := by rw [IntKind.wrap_i64]; omega
   go_region_held3 (fun w' => w'.cell? ⟨bp, 260, none⟩ = some (.slice (some ⟨gF, 0, none⟩) m m)) (go_keep)
    (first | (go_at_call 43; refine (zA HNX4 1).mono ?_; rintro e w5 ⟨rfl, H5, y0, y1, y2⟩))
   go_wp2_with fail
   go_roundw
   case rel => exact ⟨k + 1, by go_num, hkc, zB (zA HPT _ _ (zA H5))⟩
   case measure => simp [intOf]; omega
  ·obtain rfl : k = c.length := by omega
   have k1 : ¬ (c.length : Int) < (c.length : Int) := by omega
   go_wp2_with fail
   go_end0
   exact ⟨rfl, gF, HI⟩
end Go.Proofs.YtfpohfifdfbpkaaGreatDoor
namespace Go.Proofs.YtfpohfifdfbpkaaGreatDoor
open Go.RowKit Scour Go.Lib Go.Shelf Go.Sort
theorem excL_lt (S : List Str) (c : Str) (hc : c.length <= 256) (s : Nat) (p : Nat × Nat) (hp : p ∈ zU S c s) : p.1 < 1000 := by
 have : ∀ k, p ∈ zt S c s k -> p.1 <= k := by
  intro k
  induction k with
  | zero => intro h; cases h
  | succ k ih =>
    intro h
    rw [zt] at h
    rcases List.mem_append.1 h with h1 | h1
    ·have := ih h1; omega
    ·split at h1
     ·cases h1
     ·simp only [List.mem_singleton] at h1
      rw [h1]; exact Nat.le_refl _
 have := this c.length hp
 omega
theorem packTo_off {L : Nat -> List (Nat × Nat)} {n : Nat} (hL : ∀ s p, p ∈ L s -> p.1 < 1000) : ∀ k s, 0 <= (zP L n k).o s /\ (zP L n k).o s <= ((1000 * k : Nat) : Int)
 | 0, s => ⟨Int.le_refl _, Int.le_refl _⟩
 | k + 1, s => by
   have ih := packTo_off (n := n) hL k s
   have hl := packTo_len (n := n) hL k
   show 0 <= (yA L n (zP L n k)).o s /\ (yA L n (zP L n k)).o s <= _
   unfold yA
   split
   ·omega
   ·have := (offOf_spec (zP L n k).cl (L (za L (zP L n k).d n).toNat)).1
    simp only [upd]
    split <;> omega
def topN (ps S : List Str) : Nat := (maxF (zI (zU S (zL ps)) S.length).o (S.length - 1)).toNat + (zL ps).length
structure TabF (w : World) (bp : Nat) (vC vO vX vF : Value) (ps S : List Str) : Prop where
 tab : Tab w bp (tabR (zI (zU S (zL ps)) S.length).cl.length (clsF (zL ps) (zL ps).length) vF) vC vO vX (zL ps) S.length (zI (zU S (zL ps)) S.length).o (padC (zI (zU S (zL ps)) S.length).cl (topN ps S))
 fst : w.ownsRow 0 3 1 vF ((zL ps).length + 1) (zZ (fstF S (zL ps) (zL ps).length) ((zL ps).length + 1))
theorem TabF.same {w w' : World} {bp : Nat} {vC vO vX vF : Value} {ps S : List Str} (h : TabF w bp vC vO vX vF ps S) (hb : ∀ k, k < w.heap.size -> (k = bp \/ vC.ownBlock = some k \/ vO.ownBlock = some k \/ vX.ownBlock = some k \/ vF.ownBlock = some k) -> w'.heap[k]? = w.heap[k]?) : TabF w' bp vC vO vX vF ps S :=
 ⟨h.tab.same (fun k hk e => hb k hk (by rcases e with e | e | e | e; exact Or.inl e; exact Or.inr (Or.inl e); exact Or.inr (Or.inr (Or.inl e)); exact Or.inr (Or.inr (Or.inr (Or.inl e))))), zE h.fst (fun k hk e => hb k hk (Or.inr (Or.inr (Or.inr (Or.inr e)))))⟩
structure TabNew (w w' : World) (bp : Nat) (vC vO vX vF : Value) (ps S : List Str) : Prop where
 tab : TabF w' bp vC vO vX vF ps S
 ge : w.heap.size <= bp
 geC : ∀ b, vC.ownBlock = some b -> w.heap.size <= b
 geO : ∀ b, vO.ownBlock = some b -> w.heap.size <= b
 geX : ∀ b, vX.ownBlock = some b -> w.heap.size <= b
 geF : ∀ b, vF.ownBlock = some b -> w.heap.size <= b
 below : Below w.heap.size w w'
set_option maxHeartbeats 16000000 in
set_option maxRecDepth 100000 in
theorem pnew_any (bt be g : Nat) (ps S : List Str) (w : World) (hM : jC w bt be g ps S) :
  Calls Tryz.prog 46 #[.pointer (some ⟨bt, 0, none⟩)] w fun e w' => ∃ bp vC vO vX vF, e = .returned (.pointer (some ⟨bp, 0, none⟩)) /\ Hid (TabNew w w' bp vC vO vX vF ps S) := by
 have hl := hM.len
 have hcl : (zL ps).length <= 256 := clsTo_len ps 256
 have HCL := zB (pclasses_any bt be g ps S w hM)
 have HLN : Hid (∀ W, Below w.heap.size w W -> Calls Tryz.prog 38 #[.pointer (some ⟨bt, 0, none⟩)] W fun e w' => e = .returned (.int .i64 S.length) /\ w' = W) := zB fun W hb => tlen_any bt be g ps S W (hM.below hb)
 have hmi := fun W => run_make_row' (P := Tryz.prog) 24 3 (.int .i64 0) 8 Tryz.underlying24 Tryz.infoI rfl .i64 .i64 S.length (by omega) (by omega) W
 have HRO : Hid (∀ W vC, Below w.heap.size w W -> W.ownsRow 0 5 1 vC (zL ps).length ((zL ps).map zT) -> Calls Tryz.prog 76 #[.pointer (some ⟨bt, 0, none⟩), vC] W fun e w' => ∃ rp gh cap d es, e = .returned (.pointer (some ⟨rp, 0, none⟩)) /\ Hid (zQ w' rp gh cap d es) /\ Hid (EsIn w' (zU S (zL ps)) es S.length) /\ Hid (HSet (zU S (zL ps)) S.length (fun _ => false) d) /\ Hid (d.size <= S.length) /\ Hid (W.heap.size <= rp /\ W.heap.size <= gh) /\ Hid (Below W.heap.size W w')) := zB fun W vC hb hC => rowsOf_any bt be g ps S W (hM.below hb) vC (zL ps) hC hcl
 have HL0 := zB (excL_zero S (zL ps))
 have HLL : Hid (∀ s, (zU S (zL ps) s).length <= 256) := zB fun s => Nat.le_trans (excTo_len S (zL ps) s (zL ps).length) hcl
 have HLP := zB (excL_lt S (zL ps) hcl)
 have HTN : Hid (∀ w' bp vC vO vX vF, Tab w' bp (tabR (zI (zU S (zL ps)) S.length).cl.length (clsF (zL ps) (zL ps).length) vF) vC vO vX (zL ps) S.length (zI (zU S (zL ps)) S.length).o (padC (zI (zU S (zL ps)) S.length).cl ((maxF (zI (zU S (zL ps)) S.length).o (S.length - 1)).toNat + (zL ps).length)) -> w'.ownsRow 0 3 1 vF ((zL ps).length + 1) (zZ (fstF S (zL ps) (zL ps).length) ((zL ps).length + 1)) -> w.heap.size <= bp -> (∀ b, vC.ownBlock = some b -> w.heap.size <= b) -> (∀ b, vO.ownBlock = some b -> w.heap.size <= b) -> (∀ b, vX.ownBlock = some b -> w.heap.size <= b) -> (∀ b, vF.ownBlock = some b -> w.heap.size <= b) -> Below w.heap.size w w' -> TabNew w w' bp vC vO vX vF ps S) := zB fun w' bp vC vO vX vF a1 a2 a3 a4 a5 a6 a7 a8 => ⟨⟨a1, a2⟩, a3, a4, a5, a6, a7, a8⟩
 have HOF : Hid (∀ s, 0 <= (zI (zU S (zL ps)) S.length).o s /\ (zI (zU S (zL ps)) S.length).o s <= ((1000 * S.length : Nat) : Int)) := zB (packTo_off (excL_lt S (zL ps) hcl) S.length)
 have HCL2 : Hid ((zI (zU S (zL ps)) S.length).cl.length <= 1000 * S.length) := zB (packTo_len (excL_lt S (zL ps) hcl) S.length)
 have HSF : Hid (∀ W z vC vO vX c n o cl bp, Below w.heap.size w W -> Tab W bp (tabR z (fun _ => 0) (.slice none 0 0)) vC vO vX c n o cl -> c.length <= 256 -> Calls Tryz.prog 82 #[.pointer (some ⟨bp, 0, none⟩), .pointer (some ⟨bt, 0, none⟩)] W fun e w' => ∃ gF, e = .returned (.tuple #[]) /\ Hid (FInv W w' bp gF z c.length S vC vO vX c n o cl c.length)) := zB fun W z vC vO vX c n o cl bp hb hT hc => setFirst_any bt be g bp z ps S vC vO vX c n o cl W (hM.below hb) hT hc
 clear hM
 generalize zU S (zL ps) = L at *
 generalize zL ps = c at *
 go_enter Tryz.func46, Tryz.ntmps46
 go_wp2_with fail
 refine (zA HCL).mono ?_
 rintro e w1 ⟨vC, rfl, HO1, HB1⟩
 have hs1 := (zA HB1).size
 have hgeC : ∀ b, vC.ownBlock = some b -> w.heap.size <= b := yN (zA HO1)
 have HGC := zB hgeC
 obtain ⟨aC, cC, hvC⟩ : ∃ aC cC, vC = .slice aC c.length cC := by
  rcases zV (zA HO1) with ⟨h1, h2⟩ | ⟨gc, cc, h1, _⟩
  ·exact ⟨none, 0, by rw [h1, h2]⟩
  ·exact ⟨_, cc, h1⟩
 subst hvC
 clear hgeC
 go_wp2_with fail
 refine (zA HLN w1 (zA HB1)).mono ?_
 rintro e w' ⟨rfl, hw'⟩
 obtain rfl := hw'.symm
 go_wp2_with fail
 rw [zero_tab]
 have hsz1 : (w1.alloc (.cells (madeCells #[Value.int .i64 0] S.length) 3)).heap.size = w1.heap.size + 1 := by simp
 have hb1 : Below w1.heap.size w1 (w1.alloc (.cells (madeCells #[Value.int .i64 0] S.length) 3)) := (Below.refl _ _).alloc (Nat.le_refl _) _
 have hz := zeros_row w1 S.length (by omega)
 have hnew := heap_alloc_new (w1.alloc (.cells (madeCells #[Value.int .i64 0] S.length) 3)) (.cells (Value.slice aC c.length cC :: Value.slice (some ⟨w1.heap.size, 0, none⟩) S.length S.length :: Value.slice none 0 0 :: tabR 0 (fun _ => 0) (.slice none 0 0)).toArray 118)
 have hb2 : Below (w1.alloc (.cells (madeCells #[Value.int .i64 0] S.length) 3)).heap.size (w1.alloc (.cells (madeCells #[Value.int .i64 0] S.length) 3)) ((w1.alloc (.cells (madeCells #[Value.int .i64 0] S.length) 3)).alloc (.cells (Value.slice aC c.length cC :: Value.slice (some ⟨w1.heap.size, 0, none⟩) S.length S.length :: Value.slice none 0 0 :: tabR 0 (fun _ => 0) (.slice none 0 0)).toArray 118)) := (Below.refl _ _).alloc (Nat.le_refl _) _
 rw [hsz1] at hnew
 have HT2 : Hid (Tab ((w1.alloc (.cells (madeCells #[Value.int .i64 0] S.length) 3)).alloc (.cells (Value.slice aC c.length cC :: Value.slice (some ⟨w1.heap.size, 0, none⟩) S.length S.length :: Value.slice none 0 0 :: tabR 0 (fun _ => 0) (.slice none 0 0)).toArray 118)) (w1.heap.size + 1) (tabR 0 (fun _ => 0) (.slice none 0 0)) (.slice aC c.length cC) (.slice (some ⟨w1.heap.size, 0, none⟩) S.length S.length) (.slice none 0 0) c S.length (fun _ => 0) []) := zB
  ⟨hnew, zE (zE (zu (zA HO1)) (fun b hl _ => hb1.block b hl)) (fun b hl _ => hb2.block b hl), zE hz (fun b hl _ => hb2.block b hl), World.ownsRow_nil _ _ _ _⟩
 have HB2 : Hid (Below w.heap.size w ((w1.alloc (.cells (madeCells #[Value.int .i64 0] S.length) 3)).alloc (.cells (Value.slice aC c.length cC :: Value.slice (some ⟨w1.heap.size, 0, none⟩) S.length S.length :: Value.slice none 0 0 :: tabR 0 (fun _ => 0) (.slice none 0 0)).toArray 118))) := zB (((zA HB1).trans (hb1.mono hs1)).trans (hb2.mono (by simp; omega)))
 obtain ⟨bp, hbp⟩ : ∃ bp, bp = w1.heap.size + 1 := ⟨_, rfl⟩
 obtain ⟨gO, hgO⟩ : ∃ gO, gO = w1.heap.size := ⟨_, rfl⟩
 rw [← hbp, ← hgO] at HT2
 rw [← hgO] at HB2
 rw [← hbp, ← hgO]
 have HGE : Hid (w.heap.size <= bp /\ w.heap.size <= gO) := zB (by omega)
 clear hmi hnew hz hb1 hb2 hsz1 HCL HLN HO1 HB1
 generalize (w1.alloc (.cells (madeCells #[Value.int .i64 0] S.length) 3)).alloc (.cells (Value.slice aC c.length cC :: Value.slice (some ⟨gO, 0, none⟩) S.length S.length :: Value.slice none 0 0 :: tabR 0 (fun _ => 0) (.slice none 0 0)).toArray 118) = w2 at *
 clear hbp hgO hs1
 refine (zA HRO w2 _ (zA HB2) (zA HT2).cls).mono ?_
 rintro e w3 ⟨rp, gh, cap, d0, es, rfl, HH, HE, HS, HD, HG, HB3⟩
 have HI0 : Hid (PkInv w w3 rp gh cap bp (tabR 0 (fun _ => 0) (.slice none 0 0)) (.slice aC c.length cC) (.slice (some ⟨gO, 0, none⟩) S.length S.length) (.slice none 0 0) c L S.length es d0 (zP L S.length 0)) := zB (by
  have hs2 := (zA HB2).size
  refine ⟨zA HH, zA HE, zA HS, (zA HT2).below (zA HB3), ⟨?_, ?_, (zA HGE).1⟩, fun b hb => ?_, fun b hb => (by cases hb), zA HGC, (zA HB2).trans ((zA HB3).mono hs2)⟩
  ·have := (zA HG).1; omega
  ·have := (zA HG).2; omega
  ·have : gO = b := by simpa [Value.ownBlock] using hb
   rw [← this]; exact (zA HGE).2)
 have hd0 := zA HD
 clear HH HE HS HD HG HB3 HT2 HB2 HGE HRO
 go_wp2_with fail
 go_loopg [20] d0.size (fun gm _ wr => ∃ (k : Nat) (d : Array Nat) (vX : Value), d.size = gm /\ k + gm <= S.length /\ Hid (PkInv w wr rp gh cap bp (tabR 0 (fun _ => 0) (.slice none 0 0)) (.slice aC c.length cC) (.slice (some ⟨gO, 0, none⟩) S.length S.length) vX c L S.length es d (zP L S.length k)))
 case atStart => exact ⟨0, d0, _, rfl, by omega, HI0⟩
 case round =>
  clear HI0
  obtain ⟨k, d, vX, hdm, hkn, HI⟩ := hrel
  have hcell := (zA HI).heap.cell
  rw [hdm] at hcell
  have HRL := zB rlen_any
  cases gk with
  | zero =>
    have HDM := zB hdm
    clear hdm
    have hend : zI L S.length = zP L S.length k := packTo_end L S.length k (best_none (fun s a b c0 => by
     have h1 := ((zA HI).set.mem s).2 ⟨a, b, c0⟩
     have h2 : d.toList = [] := by
      have := zA HDM
      exact List.eq_nil_of_length_eq_zero (by simpa using this)
     rw [h2] at h1; cases h1)) S.length (by omega)
    have HT5 := zB (zA HI).tab
    have HG5 := zB (And.intro (zA HI).ge.2.2 (And.intro (zA HI).geC (And.intro (zA HI).geO (And.intro (zA HI).geX (zA HI).below))))
    rw [← hend] at HT5
    clear hend HI HDM
    generalize zI L S.length = pk at *
    have hcl2 := zA HCL2
    obtain ⟨aX, cX, rfl⟩ : ∃ aX cX, vX = .slice aX pk.cl.length cX := by
     rcases zV (zA HT5).cel with ⟨h1, h2⟩ | ⟨g, cc, h1, _⟩
     ·exact ⟨none, 0, by rw [h1, h2]⟩
     ·exact ⟨_, cc, h1⟩
    have y2 : wr.cell? ⟨bp, 2, none⟩ = some (.slice aX pk.cl.length cX) := by rw [zC (zA HT5).blk]; rfl
    have y3 : wr.cell? ⟨bp, 3, none⟩ = some (.int .i64 0) := by rw [zC (zA HT5).blk]; rfl
    have f3 : wr.frozen? ⟨bp, 3, none⟩ = false := frozen_of_row _ _ _ _ _ (zA HT5).blk
    have HT6 := zB ((zA HT5).other (i := 3) (v := .int .i64 (pk.cl.length : Nat)) tabR_size)
    have HB6 : Hid (Below w.heap.size w (wr.setCell ⟨bp, 3, none⟩ (.int .i64 (pk.cl.length : Nat)))) := zB ((zA HG5).2.2.2.2.trans ((zA HT6).2.below (zA HG5).2.2.2.2.size (fun k hk => by rw [hk]; exact (zA HG5).1)))
    clear HT5
    go_wp2_with (go_at_call 77; refine (zA HRL _ _ _ _).mono ?_; rintro e w' ⟨rfl, hw'⟩; obtain rfl := hw'.symm)
    clear y2 y3 f3 hcell HRL
    generalize wr.setCell ⟨bp, 3, none⟩ (.int .i64 (pk.cl.length : Nat)) = w6 at *
    have y0 : w6.cell? ⟨bp, 0, none⟩ = some (.slice aC c.length cC) := by rw [zC (zA HT6).1.blk]; rfl
    have y1 : w6.cell? ⟨bp, 1, none⟩ = some (.slice (some ⟨gO, 0, none⟩) S.length S.length) := by rw [zC (zA HT6).1.blk]; rfl
    have hmx := maxF_in (zA HOF) (S.length - 1)
    obtain ⟨mx, hmx1⟩ : ∃ mx : Nat, maxF pk.o (S.length - 1) = (mx : Int) := ⟨(maxF pk.o (S.length - 1)).toNat, by omega⟩
    have HMX : Hid ((maxF pk.o (S.length - 1)).toNat = mx) := zB (by omega)
    have HMC : Hid (∀ q, Calls Tryz.prog 81 #[.slice (some ⟨gO, 0, none⟩) S.length S.length] (w6.drewN q) fun e w' => e = .returned (.int .i64 (mx : Nat)) /\ Hid (Below w6.heap.size w6 w') /\ w'.cell? ⟨bp, 0, none⟩ = some (.slice aC c.length cC) /\ w'.cell? ⟨bp, 1, none⟩ = some (.slice (some ⟨gO, 0, none⟩) S.length S.length)) := zB (fun q => by
     have := smax_any gO S.length S.length pk.o (w6.drewN q) hl.1 (by omega) (fun i hi => by
      have := (zA HT6).1.off.cellAt i (by omega)
      rw [zW _ _ _ hi] at this
      exact this)
     rw [hmx1] at this
     refine this.mono ?_
     rintro e w' ⟨rfl, rfl⟩
     exact ⟨rfl, zB (below_drewN (Below.refl _ _) q), y0, y1⟩)
    have hmx2 : mx <= 1000 * S.length := by omega
    have HRE : Hid (∀ W, Below w6.heap.size w6 W -> Calls Tryz.prog 80 #[.pointer (some ⟨bp, 0, none⟩), .int .i64 ((mx : Int) + (c.length : Int))] W fun e w' => e = .returned (.tuple #[]) /\ ∃ vX', Hid (TInv w6 w' bp (tabR (pk.cl.length : Nat) (fun _ => 0) (.slice none 0 0)) (.slice aC c.length cC) (.slice (some ⟨gO, 0, none⟩) S.length S.length) (.slice aX pk.cl.length cX) c S.length pk.o vX' (padC pk.cl (mx + c.length))) /\ w'.cell? ⟨bp, 0, none⟩ = some (.slice aC c.length cC) /\ w'.cell? ⟨bp, 1, none⟩ = some (.slice (some ⟨gO, 0, none⟩) S.length S.length)) := zB (fun W hq => by
     have h1 := TInv.start (zA HT6).1
     have h2 := reach_any bp _ _ _ _ c S.length pk.o pk.cl W ((zA HT6).1.below hq) (by omega) (mx + c.length) (by omega)
     refine h2.mono ?_
     rintro e w' ⟨rfl, vX', H⟩
     exact ⟨rfl, vX', zB ((h1.below hq).step (zA H).tab (zA H).mod (zA H).own), by rw [zC (zA H).tab.blk]; rfl, by rw [zC (zA H).tab.blk]; rfl⟩)
    have k8 : IntKind.i64.wrap ((mx : Int) + (c.length : Int)) = (mx : Int) + (c.length : Int) := by rw [IntKind.wrap_i64]; omega
    clear hmx1 hmx
    go_region_held3 (fun w' => w'.cell? ⟨bp, 0, none⟩ = some (.slice aC c.length cC) /\ w'.cell? ⟨bp, 1, none⟩ = some (.slice (some ⟨gO, 0, none⟩) S.length S.length)) (go_keep)
     (first | (go_at_call 81; refine (zA HMC 1).mono ?_; rintro e wm ⟨rfl, BM, z5, z6⟩) | (go_at_call 80; refine (zA HRE _ (zA BM)).mono ?_; rintro e w7 ⟨rfl, vX7, H7, y5, y6⟩))
    have HB7 : Hid (Below w.heap.size w w7) := zB ((zA HB6).trans ((zA H7).mod.below (zA HB6).size (fun k hk => by
     rcases hk with e | e | e
     ·rw [e]; exact (zA HG5).1
     ·exact (zA HG5).2.2.1 k e
     ·exact (zA HG5).2.2.2.1 k e)))
    have HSF7 := zB (zA HSF w7 _ _ _ _ _ _ _ _ bp (zA HB7) (zA H7).tab (by omega))
    go_wp2_with (go_at_call 82; refine (zA HSF7).mono ?_; rintro e w8 ⟨gF, rfl, H8⟩)
    go_ret
    refine ⟨bp, _, _, vX7, _, rfl, zB (zA HTN _ _ _ _ _ _ ?_ (zA H8).row (zA HG5).1 (zA HG5).2.1 (zA HG5).2.2.1 ?_ ?_ ?_)⟩
    ·rw [zA HMX]; exact (zA H8).tab
    ·intro b hb
     rcases (zA H7).own with e | e
     ·exact (zA HG5).2.2.2.1 b (e ▸ hb)
     ·exact Nat.le_trans (zA HB6).size (e b hb)
    ·intro b hb
     have : gF = b := by simpa [Value.ownBlock] using hb
     rw [← this]; exact Nat.le_trans (zA HB7).size (zA H8).ge
    ·exact (zA HB7).trans ((zA H8).mod.below (zA HB7).size (fun k hk => by rw [hk]; exact (zA HG5).1))
  | succ m =>
    have hsl := hdm
    have hK : HOK L es S.length d := ⟨(zA HI).es.ok (zA HLL), fun s hs => ⟨(((zA HI).set.mem s).1 hs).1, (((zA HI).set.mem s).1 hs).2.2⟩, by omega, by omega⟩
    obtain ⟨q1, q2, q3, q4, q5⟩ := (zA HI).set.pop hdm
    obtain ⟨ge, ce, hes⟩ := (zA HI).es.ok (zA HLL) |>.form d[0]! q2 q3
    have HPO : Hid (Calls Tryz.prog 79 #[.iface 160 (.pointer (some ⟨rp, 0, none⟩))] wr fun e w' => e = .returned (.iface 165 (.agg #[.int .i64 (d[0]! : Nat), .slice (some ⟨ge, 0, none⟩) (L d[0]!).length ce])) /\ Hid (zQ w' rp gh cap (siftDown (hlt L) m 0 0 (swp d 0 m)).pop es) /\ Hid (Mod (fun k => k = rp \/ k = gh) wr w')) := zB (by
     have := hpop_any L rp gh cap S.length m d es wr (zA HI).heap hK hdm (by rw [← hdm]; exact (zA HI).set.heap)
     rw [hes] at this
     exact this)
    have HLA : Hid (∀ w4, zQ w4 rp gh cap (siftDown (hlt L) m 0 0 (swp d 0 m)).pop es -> Mod (fun k => k = rp \/ k = gh) wr w4 -> Calls Tryz.prog 78 #[.pointer (some ⟨bp, 0, none⟩), .agg #[.int .i64 (d[0]! : Nat), .slice (some ⟨ge, 0, none⟩) (L d[0]!).length ce]] w4 fun e w' => e = .returned (.tuple #[]) /\ ∃ vX', Hid (PkInv w w' rp gh cap bp (tabR 0 (fun _ => 0) (.slice none 0 0)) (.slice aC c.length cC) (.slice (some ⟨gO, 0, none⟩) S.length S.length) vX' c L S.length es (siftDown (hlt L) m 0 0 (swp d 0 m)).pop (zP L S.length (k + 1)))) := zB (by
     intro w4 h4 m4
     have hH := (zA HI).heap
     obtain ⟨cg, hcg⟩ := zK hH.row
     have hT4 : Tab w4 bp (tabR 0 (fun _ => 0) (.slice none 0 0)) (.slice aC c.length cC) (.slice (some ⟨gO, 0, none⟩) S.length S.length) vX c S.length (zP L S.length k).o (zP L S.length k).cl := (zA HI).tab.same (fun b hl hb => m4.out b hl (fun e => by
      have hbt : ∃ cu t, wr.heap[b]? = some (.cells cu t (0, 0)) /\ t ≠ 213 /\ t ≠ 165 := by
       rcases hb with e1 | e1 | e1 | e1
       ·exact ⟨_, _, by rw [e1]; exact (zA HI).tab.blk, by decide, by decide⟩
       ·obtain ⟨cu, hcu⟩ := zD (zA HI).tab.cls e1; exact ⟨cu, _, hcu, by decide, by decide⟩
       ·obtain ⟨cu, hcu⟩ := zD (zA HI).tab.off e1; exact ⟨cu, _, hcu, by decide, by decide⟩
       ·obtain ⟨cu, hcu⟩ := zD (zA HI).tab.cel e1; exact ⟨cu, _, hcu, by decide, by decide⟩
      obtain ⟨cu, t, hcu, t1, t2⟩ := hbt
      rcases e with e | e
      ·exact zH hcu hH.box t1 e
      ·exact zH hcu hcg t2 e))
     have hE4 := (zA HI).es.mod hH m4 d[0]! q2 q3
     rw [hes] at hE4
     have hlen := packTo_len (L := L) (n := S.length) (zA HLP) k
     refine (lay_any bp _ _ _ vX c S.length _ _ w4 hT4 ⟨packTo_st (zA HL0) k, by omega⟩ (by omega) d[0]! ge (L d[0]!).length ce (L d[0]!) rfl hE4 (zA HLP d[0]!) (zA HLL d[0]!) q2 (by omega)).mono ?_
     rintro e w5 ⟨rfl, vX5, H5⟩
     exact ⟨rfl, vX5, zB ((zA HI).step hdm h4 m4 (zA H5) hT4)⟩)
    have HQ5 := zB q5
    have hta := assertRow
    clear hK q1 q2 q3 q4 q5 hes hsl hdm
    generalize (siftDown (hlt L) m 0 0 (swp d 0 m)).pop = d2 at *
    generalize (L d[0]!).length = mm at *
    generalize d[0]! = s0 at *
    go_wp2_with (first | (go_at_call 77; refine (zA HRL _ _ _ _).mono ?_; rintro e w' ⟨rfl, hw'⟩; obtain rfl := hw'.symm) | (go_at_call 79; refine (zA HPO).mono ?_; rintro e w4 ⟨rfl, H4, M4⟩) | (go_at_call 78; refine (zA HLA w4 (zA H4) (zA M4)).mono ?_; rintro e w5 ⟨rfl, vX5, H5⟩))
    go_roundg m
    case measure => omega
    case rel => exact ⟨k + 1, d2, vX5, zA HQ5, by omega, H5⟩
end Go.Proofs.YtfpohfifdfbpkaaGreatDoor
namespace Go.Proofs.YtfpohfifdfbpkaaGreatDoor
open Go.RowKit Scour Go.Lib
def cellAt (cl : List (Int × Int)) (i : Nat) : Int × Int := cl.getD i (-1, 0)
theorem cellAt_none {cl : List (Int × Int)} {i : Nat} (h : cl.length <= i) : cellAt cl i = (-1, 0) := by
 unfold cellAt; simp [List.getD, List.getElem?_eq_none h]
theorem layOne_get (s a : Nat) (cl : List (Int × Int)) (p : Nat × Nat) (i : Nat) : cellAt (layOne s a cl p) i = if i = a + p.1 then ((s : Int), (p.2 : Int)) else cellAt cl i := by
 unfold cellAt layOne
 have hl := padC_len cl (a + p.1)
 by_cases h : i = a + p.1
 ·subst h
  rw [if_pos rfl]
  simp only [List.getD_eq_getElem?_getD, List.getElem?_set, if_true]
  rw [if_pos (by omega)]
  rfl
 ·rw [if_neg h]
  have h' : ¬ a + p.1 = i := fun e => h e.symm
  simp only [List.getD_eq_getElem?_getD, List.getElem?_set, if_neg h']
  unfold padC
  rw [List.getElem?_append]
  by_cases h2 : i < cl.length
  ·rw [if_pos h2]
  ·rw [if_neg h2, List.getElem?_replicate, List.getElem?_eq_none (by omega)]
   split <;> rfl
theorem lay_out (s a i : Nat) : ∀ (l : List (Nat × Nat)) (cl : List (Int × Int)), (∀ p, p ∈ l -> i ≠ a + p.1) -> cellAt (lay cl s l a) i = cellAt cl i
 | [], cl, _ => rfl
 | p :: l, cl, h => by
   have e : lay cl s (p :: l) a = lay (layOne s a cl p) s l a := rfl
   rw [e, lay_out s a i l _ (fun q hq => h q (List.mem_cons_of_mem _ hq)), layOne_get, if_neg (h p List.mem_cons_self)]
theorem lay_in (s a : Nat) : ∀ (l : List (Nat × Nat)) (cl : List (Int × Int)), l.Pairwise (fun p q => p.1 ≠ q.1) -> ∀ p, p ∈ l -> cellAt (lay cl s l a) (a + p.1) = ((s : Int), (p.2 : Int))
 | [], cl, _, p, h => by cases h
 | x :: l, cl, hp, p, h => by
   have e : lay cl s (x :: l) a = lay (layOne s a cl x) s l a := rfl
   obtain ⟨h1, h2⟩ := List.pairwise_cons.1 hp
   rw [e]
   rcases List.mem_cons.1 h with rfl | h
   ·rw [lay_out s a _ l _ (fun q hq => by have := h1 q hq; omega), layOne_get, if_pos rfl]
   ·exact lay_in s a l _ h2 p h
structure PkG (L : Nat -> List (Nat × Nat)) (n : Nat) (p : PSt) : Prop where
 o0 : ∀ s, 0 <= p.o s
 done : ∀ s, p.d s = true -> s < n /\ ∀ q, q ∈ L s -> cellAt p.cl ((p.o s).toNat + q.1) = ((s : Int), (q.2 : Int))
 back : ∀ i, (cellAt p.cl i).1 < 0 \/ ∃ s q, p.d s = true /\ q ∈ L s /\ i = (p.o s).toNat + q.1 /\ cellAt p.cl i = ((s : Int), (q.2 : Int))
theorem PkG.step {L : Nat -> List (Nat × Nat)} {n : Nat} {p : PSt} (hL : ∀ s, (L s).Pairwise (fun p q => p.1 ≠ q.1)) (h : PkG L n p) : PkG L n (yA L n p) := by
 unfold yA
 split
 ·exact h
 ·rename_i hb
  rcases jB L p.d n with e | ⟨b, h1, h2, h3, h4⟩
  ·rw [e] at hb; exact absurd (by decide) hb
  ·rw [h2, Int.toNat_natCast]
   obtain ⟨_, hfree, _⟩ := offOf_spec p.cl (L b)
   generalize offOf p.cl (L b) = a at *
   have hfr : ∀ q, q ∈ L b -> (cellAt p.cl (a + q.1)).1 < 0 := fun q hq => by
    unfold yo at hfree
    rw [List.all_eq_true] at hfree
    have := hfree q hq
    rw [Bool.or_eq_true] at this
    rcases this with h5 | h5
    ·rw [cellAt_none (of_decide_eq_true h5)]; decide
    ·have h6 := of_decide_eq_true h5
     by_cases h7 : a + q.1 < p.cl.length
     ·unfold cellAt
      simp only [List.getD_eq_getElem?_getD, List.getElem?_eq_getElem h7, Option.getD_some] at h6 ⊢
      exact h6
     ·rw [cellAt_none (by omega)]; decide
   refine ⟨fun s => ?_, fun s hs => ?_, fun i => ?_⟩
   ·unfold upd
    simp only []
    split
    ·omega
    ·exact h.o0 s
   ·by_cases e : s = b
    ·subst e
     refine ⟨h1, fun q hq => ?_⟩
     have := lay_in s a (L s) p.cl (hL s) q hq
     unfold upd
     simp only [if_true, Int.toNat_natCast]
     exact this
    ·simp only [if_neg e] at hs
     obtain ⟨g1, g2⟩ := h.done s hs
     refine ⟨g1, fun q hq => ?_⟩
     unfold upd
     simp only [if_neg e]
     rw [lay_out b a _ (L b) p.cl (fun q' hq' e2 => ?_)]
     ·exact g2 q hq
     ·have h5 := hfr q' hq'
      rw [← e2, g2 q hq] at h5
      simp only [] at h5
      omega
   ·by_cases hi : ∃ q, q ∈ L b /\ i = a + q.1
    ·obtain ⟨q, hq, rfl⟩ := hi
     refine Or.inr ⟨b, q, by simp, hq, ?_, lay_in b a (L b) p.cl (hL b) q hq⟩
     unfold upd
     simp
    ·have ho : cellAt (lay p.cl b (L b) a) i = cellAt p.cl i := lay_out b a i (L b) p.cl (fun q hq e => hi ⟨q, hq, e⟩)
     show (cellAt (lay p.cl b (L b) a) i).1 < 0 \/ _
     rw [ho]
     rcases h.back i with g | ⟨s, q, g1, g2, g3, g4⟩
     ·exact Or.inl g
     ·have hsb : s ≠ b := fun e => by rw [e, h3] at g1; cases g1
      refine Or.inr ⟨s, q, by simp [g1], g2, ?_, g4⟩
      unfold upd
      simp only [if_neg hsb]
      exact g3
theorem PkG.to {L : Nat -> List (Nat × Nat)} {n : Nat} (hL : ∀ s, (L s).Pairwise (fun p q => p.1 ≠ q.1)) : ∀ k, PkG L n (zP L n k)
 | 0 => ⟨fun _ => Int.le_refl _, (fun s h => by cases h), fun i => Or.inl (by show (cellAt [] i).1 < 0; rw [cellAt_none (Nat.zero_le _)]; decide)⟩
 | k + 1 => (PkG.to hL k).step hL
theorem pack_left (L : Nat -> List (Nat × Nat)) (n : Nat) : ∀ k, za L (zP L n k).d n < 0 \/ leftN (zP L n k).d n + k <= n
 | 0 => Or.inr (by show leftN (fun _ => false) n + 0 <= n; rw [leftN_none]; omega)
 | k + 1 => by
   rcases pack_left L n k with h | h
   ·left
    rw [packTo_end L n k h (k + 1) (by omega)]; exact h
   ·rcases jB L (zP L n k).d n with e | ⟨b, h1, h2, h3, h4⟩
    ·left
     have h0 : za L (zP L n k).d n < 0 := by rw [e]; decide
     rw [packTo_end L n k h0 (k + 1) (by omega)]; exact h0
    ·right
     have hs : zP L n (k + 1) = yA L n (zP L n k) := rfl
     rw [hs, yA, if_neg (by omega)]
     simp only [h2, Int.toNat_natCast]
     have := leftN_upd (zP L n k).d b h3 n h1
     omega
theorem packed_done {L : Nat -> List (Nat × Nat)} {n s : Nat} (hs : s < n) (h0 : 0 < (L s).length) : (zI L n).d s = true := by
 cases hd : (zI L n).d s with
 | true => rfl
 | false =>
   rcases pack_left L n n with h | h
   ·obtain ⟨b, _, h2, _⟩ := bestTo_max L (zP L n n).d n s hs hd h0
    omega
   ·have hz : leftN (zP L n n).d n = 0 := by omega
    unfold leftN at hz
    rw [List.countP_eq_zero] at hz
    have := hz s (by simpa using hs)
    have hd' : (zP L n n).d s = false := hd
    rw [hd'] at this
    simp at this
theorem excTo_incr (S : List Str) (c : Str) (s : Nat) : ∀ k, (zt S c s k).Pairwise (fun p q => p.1 ≠ q.1) /\ ∀ p, p ∈ zt S c s k -> 1 <= p.1 /\ p.1 <= k /\ p.2 = zO S s (c.getD (p.1 - 1) 0) /\ zO S s (c.getD (p.1 - 1) 0) ≠ zO S 0 (c.getD (p.1 - 1) 0)
 | 0 => ⟨List.Pairwise.nil, fun p h => by cases h⟩
 | k + 1 => by
   obtain ⟨h1, h2⟩ := excTo_incr S c s k
   rw [zt]
   by_cases he : zO S s (c.getD k 0) = zO S 0 (c.getD k 0)
   ·rw [if_pos he, List.append_nil]
    exact ⟨h1, fun p hp => by obtain ⟨a, b, d⟩ := h2 p hp; exact ⟨a, by omega, d⟩⟩
   ·rw [if_neg he]
    refine ⟨List.pairwise_append.2 ⟨h1, List.pairwise_singleton _ _, fun p hp q hq => ?_⟩, fun p hp => ?_⟩
    ·obtain rfl : q = (k + 1, zO S s (c.getD k 0)) := by simpa using hq
     have := (h2 p hp).2.1
     simp only []
     omega
    ·rcases List.mem_append.1 hp with hp | hp
     ·obtain ⟨a, b, d⟩ := h2 p hp; exact ⟨a, by omega, d⟩
     ·obtain rfl : p = (k + 1, zO S s (c.getD k 0)) := by simpa using hp
      exact ⟨by simp, by simp, by simp, by simpa using he⟩
theorem excTo_has (S : List Str) (c : Str) (s j : Nat) (he : zO S s (c.getD j 0) ≠ zO S 0 (c.getD j 0)) : ∀ k, j < k -> (j + 1, zO S s (c.getD j 0)) ∈ zt S c s k
 | 0, h => by omega
 | k + 1, h => by
   rw [zt, List.mem_append]
   by_cases e : j = k
   ·subst e; rw [if_neg he]; exact Or.inr (by simp)
   ·exact Or.inl (excTo_has S c s j he k (by omega))
theorem table_next (S : List Str) (c : Str) (n s j : Nat) (hs : s < n) (hj : j < c.length) :
  ((cellAt (zI (zU S c) n).cl (((zI (zU S c) n).o s).toNat + (j + 1))).1 = (s : Int) -> (cellAt (zI (zU S c) n).cl (((zI (zU S c) n).o s).toNat + (j + 1))).2 = (zO S s (c.getD j 0) : Nat)) /\
  ((cellAt (zI (zU S c) n).cl (((zI (zU S c) n).o s).toNat + (j + 1))).1 ≠ (s : Int) -> zO S s (c.getD j 0) = zO S 0 (c.getD j 0)) := by
 have hG : PkG (zU S c) n (zI (zU S c) n) := PkG.to (fun s => (excTo_incr S c s c.length).1) n
 constructor
 ·intro h
  rcases hG.back (((zI (zU S c) n).o s).toNat + (j + 1)) with g | ⟨s', q, g1, g2, g3, g4⟩
  ·omega
  ·rw [g4] at h ⊢
   simp only [] at h ⊢
   obtain rfl : s' = s := by omega
   have hq : q.1 = j + 1 := by omega
   have := (excTo_incr S c s' c.length).2 q g2
   rw [this.2.2.1, hq, Nat.add_sub_cancel]
 ·intro h
  cases Nat.decEq (zO S s (c.getD j 0)) (zO S 0 (c.getD j 0)) with
  | isTrue e => exact e
  | isFalse e =>
    have hm := excTo_has S c s j e c.length hj
    have hd := packed_done (L := zU S c) hs (List.length_pos_of_mem hm)
    have := (hG.done s hd).2 _ hm
    rw [this] at h
    exact absurd rfl h
theorem next_none {ps S : List Str} {E : Nat -> Int} (hS : zm ps S E) (h0 : at' S 0 = []) (hpos : 0 < S.length) (hs : S.Pairwise slt) (s : Nat) (b : UInt8) (hb : occB ps b.toNat = false) : zO S s b = 0 := by
 have hnil : [] ∈ S := h0 ▸ jO hpos
 have hm := lsuf_mem S hnil (at' S s ++ [b])
 have hsf := lsuf_suffix S (at' S s ++ [b])
 have hz : yI S (at' S s ++ [b]) = [] := by
  rcases (hS.mem _).1 hm with e | ⟨i, h1, h2, h3, h4⟩
  ·exact e
  ·exfalso
   generalize yI S (at' S s ++ [b]) = z at *
   have hz : b ∈ z := by
    obtain ⟨y, hy⟩ := hsf
    rcases List.eq_nil_or_concat z with e | ⟨z', c, e⟩
    ·rw [e] at h2; simp at h2
    ·rw [List.concat_eq_append] at e
     rw [e, ← List.append_assoc] at hy
     have hc := (List.append_inj_right' hy rfl)
     rw [e]
     have hcb : c = b := by simpa using hc
     rw [hcb]; simp
   rw [h4] at hz
   have := occ_mem.2 ⟨i, h1, b, List.mem_of_mem_take hz, rfl⟩
   rw [hb] at this; cases this
 unfold zO
 rw [hz]
 have := idx_at hs hpos
 rw [h0] at this
 exact this
end Go.Proofs.YtfpohfifdfbpkaaGreatDoor
namespace Go.Proofs.YtfpohfifdfbpkaaGreatDoor
open Go.RowKit Scour Go.Lib
theorem clsF_out {c : Str} {b : Nat} : ∀ k, (∀ j, j < k -> (c.getD j 0).toNat ≠ b) -> clsF c k b = 0
 | 0, _ => rfl
 | k + 1, h => by
   rw [clsF]; unfold upd
   rw [if_neg (fun e => h k (by omega) e.symm)]
   exact clsF_out k (fun j hj => h j (by omega))
theorem clsF_in {c : Str} {j : Nat} (hn : ∀ i, j < i -> i < c.length -> (c.getD i 0).toNat ≠ (c.getD j 0).toNat) : ∀ k, j < k -> k <= c.length -> clsF c k (c.getD j 0).toNat = ((j + 1 : Nat) : Int)
 | 0, h, _ => by omega
 | k + 1, h, hk => by
   rw [clsF]; unfold upd
   by_cases e : j = k
   ·subst e; rw [if_pos rfl]
   ·rw [if_neg (fun e2 => hn k (by omega) (by omega) e2.symm)]
    exact clsF_in hn k (by omega) (by omega)
theorem fstF_zero (S : List Str) (c : Str) : ∀ k, fstF S c k 0 = 0
 | 0 => rfl
 | k + 1 => by rw [fstF]; unfold upd; rw [if_neg (by omega)]; exact fstF_zero S c k
theorem fstF_get (S : List Str) (c : Str) (j : Nat) : ∀ k, j < k -> fstF S c k (j + 1) = (zO S 0 (c.getD j 0) : Nat)
 | 0, h => by omega
 | k + 1, h => by
   rw [fstF]; unfold upd
   by_cases e : j = k
   ·subst e; rw [if_pos rfl]
   ·rw [if_neg (by omega)]; exact fstF_get S c j k (by omega)
theorem cls_cases (ps : List Str) (b : UInt8) : (∃ j, j < (zL ps).length /\ (zL ps).getD j 0 = b /\ clsF (zL ps) (zL ps).length b.toNat = ((j + 1 : Nat) : Int)) \/ (occB ps b.toNat = false /\ clsF (zL ps) (zL ps).length b.toNat = 0) := by
 obtain ⟨hp, hm⟩ := cls_incr ps
 generalize zL ps = c at *
 have hne : ∀ i j, i < j -> j < c.length -> (c.getD i 0).toNat ≠ (c.getD j 0).toNat := fun i j hij hj e => by
  unfold yY at hp
  have := (List.pairwise_iff_getElem.1 hp) i j (by simp; omega) (by simp; omega) hij
  simp only [List.getElem_map] at this
  have e1 : c.getD i 0 = c[i]'(by omega) := by simp [List.getD, show i < c.length by omega]
  have e2 : c.getD j 0 = c[j] := by simp [List.getD, hj]
  rw [e1, e2] at e
  omega
 by_cases ho : occB ps b.toNat = true
 ·left
  have := (hm (b.toNat : Int)).2 ⟨b.toNat, ho, rfl⟩
  unfold yY at this
  obtain ⟨x, hx, e⟩ := List.mem_map.1 this
  obtain ⟨j, hj, rfl⟩ := List.mem_iff_getElem.1 hx
  have e1 : c.getD j 0 = c[j] := by simp [List.getD, hj]
  have e2 : c.getD j 0 = b := by rw [e1]; exact UInt8.toNat_inj.1 (by omega)
  refine ⟨j, hj, e2, ?_⟩
  rw [← e2]
  exact clsF_in (fun i h1 h2 e3 => hne j i h1 h2 e3.symm) c.length hj (Nat.le_refl _)
 ·right
  have hf : occB ps b.toNat = false := by simpa using ho
  refine ⟨hf, clsF_out _ (fun j hj e => ho ?_)⟩
  have hx : ((c.getD j 0).toNat : Int) ∈ yY c := by
   unfold yY
   exact List.mem_map.2 ⟨c.getD j 0, by simp [List.getD, hj], rfl⟩
  obtain ⟨b', h1, h2⟩ := (hm _).1 hx
  have : b' = b.toNat := by omega
  rw [← this]; exact h1
theorem table_zero (S : List Str) (c : Str) (n s : Nat) : (cellAt (zI (zU S c) n).cl ((zI (zU S c) n).o s).toNat).1 ≠ (s : Int) := by
 have hG : PkG (zU S c) n (zI (zU S c) n) := PkG.to (fun s => (excTo_incr S c s c.length).1) n
 intro h
 rcases hG.back ((zI (zU S c) n).o s).toNat with g | ⟨s', q, g1, g2, g3, g4⟩
 ·omega
 ·rw [g4] at h
  simp only [] at h
  obtain rfl : s' = s := by omega
  have := (excTo_incr S c s' c.length).2 q g2
  omega
theorem step_next {ps S : List Str} {E : Nat -> Int} (hS : zm ps S E) (h0 : at' S 0 = []) (hpos : 0 < S.length) (hs : S.Pairwise slt) (s : Nat) (hl : s < S.length) (b : UInt8) :
  ∃ k : Nat, k <= (zL ps).length /\ clsF (zL ps) (zL ps).length b.toNat = (k : Int) /\
    ((cellAt (zI (zU S (zL ps)) S.length).cl (((zI (zU S (zL ps)) S.length).o s).toNat + k)).1 = (s : Int) -> (cellAt (zI (zU S (zL ps)) S.length).cl (((zI (zU S (zL ps)) S.length).o s).toNat + k)).2 = (zO S s b : Nat)) /\
    ((cellAt (zI (zU S (zL ps)) S.length).cl (((zI (zU S (zL ps)) S.length).o s).toNat + k)).1 ≠ (s : Int) -> fstF S (zL ps) (zL ps).length k = (zO S s b : Nat)) := by
 rcases cls_cases ps b with ⟨j, hj, e1, e2⟩ | ⟨e1, e2⟩
 ·obtain ⟨t1, t2⟩ := table_next S (zL ps) S.length s j hl hj
  rw [e1] at t1 t2
  refine ⟨j + 1, hj, e2, t1, fun h => ?_⟩
  rw [fstF_get S (zL ps) j _ hj, e1, t2 h]
 ·refine ⟨0, Nat.zero_le _, e2, fun h => absurd h (table_zero S (zL ps) S.length s), fun _ => ?_⟩
  rw [fstF_zero, next_none hS h0 hpos hs s b e1]
  rfl
theorem pad_get {cl : List (Int × Int)} {M i : Nat} (hi : i <= M) : i < (padC cl M).length /\ (padC cl M).getD i (0, 0) = cellAt cl i := by
 refine ⟨by rw [padC_len]; omega, ?_⟩
 unfold cellAt padC
 simp only [List.getD_eq_getElem?_getD, List.getElem?_append]
 by_cases h : i < cl.length
 ·rw [if_pos h, List.getElem?_eq_getElem h]; rfl
 ·rw [if_neg h, List.getElem?_replicate, if_pos (by omega), List.getElem?_eq_none (by omega)]; rfl
end Go.Proofs.YtfpohfifdfbpkaaGreatDoor
