import Derived.Test.YtfpohfifdfbpkaaGreatDoorFileDef
import Derived.Test.YtfpohfifdfbpkaaGreatDoorBoth
import Derived.Test.YtfpohfifdfbpkaaGreatDoorRdR
namespace Go.Proofs.YtfpohfifdfbpkaaGreatDoor
open Go.RowKit Scour Go.Lib
theorem rdR_numS : ∀ (k x n p : Nat) (r : Str), x < 128 ^ (k + 1) -> rdR (k + 1) n p (zN x ++ r) = some (n + x * p, r)
 | 0, x, n, p, r, h => by
   have hx : x < 128 := by simpa using h
   rw [yH hx]
   have e : (UInt8.ofNat x).toNat = x := by rw [UInt8.toNat_ofNat']; omega
   simp only [List.cons_append, List.nil_append, rdR, e]
   rw [if_pos hx, Nat.mod_eq_of_lt hx]
 | k + 1, x, n, p, r, h => by
   by_cases hx : x < 128
   ·rw [yH hx]
    have e : (UInt8.ofNat x).toNat = x := by rw [UInt8.toNat_ofNat']; omega
    simp only [List.cons_append, List.nil_append, rdR, e]
    rw [if_pos hx, Nat.mod_eq_of_lt hx]
   ·rw [numS_big hx]
    have e : (UInt8.ofNat (x % 128 + 128)).toNat = x % 128 + 128 := by rw [UInt8.toNat_ofNat']; omega
    rw [List.cons_append, rdR, e, if_neg (by omega), rdR_numS k (x / 128) _ _ r (by rw [Nat.pow_succ] at h; omega)]
    rw [show (x % 128 + 128) % 128 = x % 128 by omega]
    congr 2
    have h1 : x / 128 * (p * 128) = 128 * (x / 128) * p := by rw [Nat.mul_comm p 128, ← Nat.mul_assoc, Nat.mul_comm (x / 128) 128]
    have h2 : x * p = (x % 128 + 128 * (x / 128)) * p := by rw [Nat.mod_add_div]
    rw [h1, h2, Nat.add_mul]; omega
theorem rd4 {x : Nat} (h : x < 268435456) (r : Str) : rdR 4 0 1 (zN x ++ r) = some (x, r) := by
 have := rdR_numS 3 x 0 1 r (by simpa using h)
 simpa using this
theorem body_front (ps S : List Str) : ∃ T, yS ps S = [83, 67, 82, 1] ++ (zN (zL ps).length ++ (zL ps ++ (zN S.length ++ T))) /\ T = jQ S S.length ++ (zN ps.length ++ (jS ps S ps.length ++ (offsTo (zI (zU S (zL ps)) S.length).o S.length ++ (zN (zI (zU S (zL ps)) S.length).cl.length ++ zq (zI (zU S (zL ps)) S.length).cl (zI (zU S (zL ps)) S.length).cl.length)))) := by
 refine ⟨_, ?_, rfl⟩
 unfold yS headS
 rw [yH (n := 1) (by omega)]
 simp only [List.append_assoc, List.cons_append, List.nil_append]
 rfl
def stsFrom (S : List Str) (k : Nat) : Nat -> Str
 | 0 => []
 | m + 1 => stS S k ++ stsFrom S (k + 1) m
theorem stsTo_from (S : List Str) : ∀ (m k : Nat), 1 <= k -> jQ S (k + m) = jQ S k ++ stsFrom S k m
 | 0, k, _ => by simp [stsFrom]
 | m + 1, k, h => by
   rw [stsFrom, show k + (m + 1) = (k + 1) + m by omega, stsTo_from S m (k + 1) (by omega), jQ, if_neg (by omega), List.append_assoc]
theorem stsTo_all {S : List Str} (h : 0 < S.length) : jQ S S.length = stsFrom S 1 (S.length - 1) := by
 have := stsTo_from S (S.length - 1) 1 (by omega)
 rw [show 1 + (S.length - 1) = S.length by omega] at this
 rw [this]
 rfl
def patsFrom (ps S : List Str) (k : Nat) : Nat -> Str
 | 0 => []
 | m + 1 => zN (S.idxOf (pat ps k)) ++ patsFrom ps S (k + 1) m
theorem patsTo_from (ps S : List Str) : ∀ (m k : Nat), jS ps S (k + m) = jS ps S k ++ patsFrom ps S k m
 | 0, k => by simp [patsFrom]
 | m + 1, k => by
   rw [patsFrom, show k + (m + 1) = (k + 1) + m by omega, patsTo_from ps S m (k + 1), jS, List.append_assoc]
theorem patsTo_all (ps S : List Str) : jS ps S ps.length = patsFrom ps S 0 ps.length := by
 have := patsTo_from ps S ps.length 0
 rw [Nat.zero_add] at this
 rw [this]; rfl
def tailF (ps S : List Str) : Str := offsTo (zI (zU S (zL ps)) S.length).o S.length ++ (zN (zI (zU S (zL ps)) S.length).cl.length ++ zq (zI (zU S (zL ps)) S.length).cl (zI (zU S (zL ps)) S.length).cl.length)
def patT (ps S : List Str) (k : Nat) : Str := patsFrom ps S k (ps.length - k) ++ tailF ps S
def stT (ps S : List Str) (k : Nat) : Str := stsFrom S k (S.length - k) ++ (zN ps.length ++ patT ps S 0)
theorem body_read {ps S : List Str} (h : 0 < S.length) : yS ps S = [83, 67, 82, 1] ++ (zN (zL ps).length ++ (zL ps ++ (zN S.length ++ stT ps S 1))) := by
 obtain ⟨T, e, hT⟩ := body_front ps S
 rw [e, hT, stsTo_all h, patsTo_all]
 unfold stT patT tailF
 simp only [Nat.sub_zero]
structure ym (ps S : List Str) : Prop where
 ok : (chk ps).1 = 0
 rep : ∃ par lst, Rep S par lst
 of : ∃ E, zm ps S E
theorem yV.good {w : World} {bm bt be : Nat} {g : List Nat} {ps S : List Str} (h : yV w bm bt be g ps S) (hc : (chk ps).1 = 0) : ym ps S := by
 obtain ⟨_, _, par, lst, E, hT, hS, _⟩ := h.ex
 exact ⟨hc, ⟨par, lst, hT.rep⟩, ⟨E, hS⟩⟩
theorem ym.uniq {ps S S' : List Str} (h : ym ps S) (h' : ym ps S') : S = S' := by
 obtain ⟨_, ⟨par, lst, hR⟩, ⟨E, hS⟩⟩ := h
 obtain ⟨_, ⟨par', lst', hR'⟩, ⟨E', hS'⟩⟩ := h'
 exact sorted_eq _ _ hR.sorted hR'.sorted (fun x => (hS.mem x).trans (hS'.mem x).symm)
theorem ym.len {ps S : List Str} (h : ym ps S) : 0 < S.length /\ S.length <= 513 := by
 obtain ⟨hc, ⟨par, lst, hR⟩, ⟨E, hS⟩⟩ := h
 exact ⟨hR.pos, Nat.le_trans (states_le hS hR) (chk_total hc)⟩
theorem ym.head {ps S : List Str} (h : ym ps S) : at' S 0 = [] := by
 obtain ⟨_, ⟨_, _, hR⟩, _⟩ := h
 exact hR.head
theorem ym.next {ps S : List Str} (h : ym ps S) (k : Nat) (b : UInt8) : zO S k b < S.length := by
 obtain ⟨_, ⟨_, _, hR⟩, _⟩ := h
 exact hR.next_lt k b
theorem ym.state {ps S : List Str} (h : ym ps S) {k : Nat} (h1 : 1 <= k) (hk : k < S.length) : ∃ (p : Nat) (c : UInt8) (f : Nat), p < k /\ f < k /\ at' S k = at' S p ++ [c] /\ stT ps S k = zN p ++ (c :: (zN f ++ stT ps S (k + 1))) := by
 obtain ⟨_, ⟨par, lst, hR⟩, _⟩ := h
 obtain ⟨p, c, _, hp, _, e⟩ := hR.kids k (by omega) hk
 refine ⟨p, c, zc S k, hp, hR.fail_lt (by omega) hk, e, ?_⟩
 unfold stT
 rw [show S.length - k = (S.length - (k + 1)) + 1 by omega, stsFrom]
 have e1 : stS S k = zN p ++ (c :: zN (zc S k)) := by
  unfold stS zc
  rw [List.drop_one, e]
  have h2 : (at' S p ++ [c]).take ((at' S p ++ [c]).length - 1) = at' S p := by simp
  have h3 : (at' S p ++ [c]).drop ((at' S p ++ [c]).length - 1) = [c] := by simp
  rw [h2, h3, idx_at hR.sorted (by omega)]
  simp
 rw [e1]
 simp
theorem stT_end {ps S : List Str} : stT ps S S.length = zN ps.length ++ patT ps S 0 := by
 unfold stT
 rw [Nat.sub_self, stsFrom, List.nil_append]
theorem ym.pat {ps S : List Str} (h : ym ps S) {k : Nat} (hk : k < ps.length) : ∃ p, p < S.length /\ at' S p = pat ps k /\ patT ps S k = zN p ++ patT ps S (k + 1) := by
 obtain ⟨_, _, ⟨E, hS⟩⟩ := h
 obtain ⟨h64, hlen, _⟩ := yr ‹(chk ps).1 = 0›
 have hm := pat_mem hS hk (hlen k hk).1
 refine ⟨S.idxOf (Go.Proofs.YtfpohfifdfbpkaaGreatDoor.pat ps k), List.idxOf_lt_length_of_mem hm, jV hm, ?_⟩
 unfold patT
 rw [show ps.length - k = (ps.length - (k + 1)) + 1 by omega, patsFrom, List.append_assoc]
theorem ym.small {ps S : List Str} (h : ym ps S) : ps.length <= 64 /\ (zL ps).length <= 256 := by
 obtain ⟨h64, _, _⟩ := yr h.ok
 exact ⟨h64, clsTo_len ps 256⟩
theorem ym.fileLen {ps S : List Str} (h : ym ps S) : (zS ps S).length < 100000000 :=
 fileS_len (by have := h.len; omega) h.small.1 (fun k b => by have := h.next k b; have := h.len; omega)
theorem take_more {S : List Str} {i : Nat} (h : i < S.length) : S.take (i + 1) = S.take i ++ [at' S i] := by
 rw [List.take_add_one]
 congr 1
 simp [at', List.getD, h]
theorem at_take {S : List Str} {i p : Nat} (h : p < i) : at' (S.take i) p = at' S p := by
 simp [at', List.getD, h]
end Go.Proofs.YtfpohfifdfbpkaaGreatDoor
namespace Go.Proofs.YtfpohfifdfbpkaaGreatDoor
open Go.RowKit Scour Go.Lib
theorem num_inj {a b : Nat} {x y : Str} (ha : a < 268435456) (hb : b < 268435456) (h : zN a ++ x = zN b ++ y) : a = b /\ x = y := by
 have h1 := rd4 ha x
 rw [h, rd4 hb y] at h1
 obtain ⟨rfl, rfl⟩ := Prod.mk.inj (Option.some.inj h1)
 exact ⟨rfl, rfl⟩
theorem body_inj {ps S ps' S' : List Str} {r r' : Str} (g : ym ps S) (g' : ym ps' S') (h : yS ps S ++ r = yS ps' S' ++ r') : ps = ps' /\ S = S' := by
 have hl := g.len
 have hl' := g'.len
 have hs := g.small
 have hs' := g'.small
 rw [body_read hl.1, body_read hl'.1] at h
 have h1 : zN (zL ps).length ++ (zL ps ++ (zN S.length ++ stT ps S 1) ++ r) = zN (zL ps').length ++ (zL ps' ++ (zN S'.length ++ stT ps' S' 1) ++ r') := by
  have := congrArg (List.drop 4) h
  simpa using this
 obtain ⟨e1, h2⟩ := num_inj (by omega) (by omega) h1
 simp only [List.append_assoc] at h2
 obtain ⟨_, h3⟩ := List.append_inj h2 e1
 obtain ⟨eS, h4⟩ := num_inj (by omega) (by omega) h3
 have key : ∀ k, k + 1 <= S.length -> S.take (k + 1) = S'.take (k + 1) /\ stT ps S (k + 1) ++ r = stT ps' S' (k + 1) ++ r' := by
  intro k
  induction k with
  | zero =>
    intro _
    refine ⟨?_, h4⟩
    have a1 := take_more (S := S) (i := 0) (by omega)
    have a2 := take_more (S := S') (i := 0) (by omega)
    rw [a1, a2, g.head, g'.head]
    rfl
  | succ k ih =>
    intro hk
    obtain ⟨i1, i2⟩ := ih (by omega)
    obtain ⟨p, c, f, q1, q2, q3, q4⟩ := g.state (k := k + 1) (by omega) (by omega)
    obtain ⟨p', c', f', q1', q2', q3', q4'⟩ := g'.state (k := k + 1) (by omega) (by omega)
    rw [q4, q4', List.append_assoc, List.append_assoc] at i2
    obtain ⟨ep, i3⟩ := num_inj (by omega) (by omega) i2
    rw [List.cons_append, List.cons_append] at i3
    obtain ⟨ec, i4⟩ := List.cons.inj i3
    rw [List.append_assoc, List.append_assoc] at i4
    obtain ⟨_, i5⟩ := num_inj (by omega) (by omega) i4
    refine ⟨?_, i5⟩
    rw [take_more (S := S) (i := k + 1) (by omega), take_more (S := S') (i := k + 1) (by omega), q3, q3', ← at_take (S := S) q1, ← at_take (S := S') q1', i1, ep, ec]
 obtain ⟨t1, t2⟩ := key (S.length - 1) (by omega)
 rw [show S.length - 1 + 1 = S.length by omega] at t1 t2
 have eSS : S = S' := by
  rw [List.take_length, List.take_of_length_le (by omega)] at t1
  exact t1
 subst eSS
 rw [stT_end, stT_end, List.append_assoc, List.append_assoc] at t2
 obtain ⟨eP, t3⟩ := num_inj (by omega) (by omega) t2
 have keyP : ∀ k, k <= ps.length -> ps.take k = ps'.take k /\ patT ps S k ++ r = patT ps' S k ++ r' := by
  intro k
  induction k with
  | zero => exact fun _ => ⟨rfl, t3⟩
  | succ k ih =>
    intro hk
    obtain ⟨i1, i2⟩ := ih (by omega)
    obtain ⟨p, q1, q2, q3⟩ := g.pat (k := k) (by omega)
    obtain ⟨p', q1', q2', q3'⟩ := g'.pat (k := k) (by omega)
    rw [q3, q3', List.append_assoc, List.append_assoc] at i2
    obtain ⟨ep, i3⟩ := num_inj (by omega) (by omega) i2
    refine ⟨?_, i3⟩
    subst ep
    have e : pat ps k = pat ps' k := q2.symm.trans q2'
    rw [List.take_add_one, List.take_add_one, i1]
    congr 1
    unfold pat at e
    rw [List.getD_eq_getElem?_getD, List.getD_eq_getElem?_getD, List.getElem?_eq_getElem (by omega), List.getElem?_eq_getElem (by omega)] at e
    rw [List.getElem?_eq_getElem (by omega), List.getElem?_eq_getElem (by omega)]
    simp only [Option.getD_some] at e
    rw [e]
 obtain ⟨t4, _⟩ := keyP ps.length (Nat.le_refl _)
 rw [List.take_length, List.take_of_length_le (by omega)] at t4
 exact ⟨t4, rfl⟩
theorem file_inj {ps S ps' S' : List Str} (g : ym ps S) (g' : ym ps' S') (h : zS ps S = zS ps' S') : ps = ps' /\ S = S' := body_inj g g' h
end Go.Proofs.YtfpohfifdfbpkaaGreatDoor
