import Derived.Test.YtibkhphbilfckaaGreatDoorFileDef
import Derived.Test.YtibkhphbilfckaaGreatDoorBoth
import Derived.Test.YtibkhphbilfckaaGreatDoorRdR
namespace Go.Proofs.YtibkhphbilfckaaGreatDoor
open Go.RowKit Scour Go.Lib

theorem rdR_numS : ∀ (k x n p : Nat) (r : Str), x < 128 ^ (k + 1) → rdR (k + 1) n p (numS x ++ r) = some (n + x * p, r)
  | 0, x, n, p, r, h => by
    have hx : x < 128 := by simpa using h
    rw [numS_small hx]
    have e : (UInt8.ofNat x).toNat = x := by rw [UInt8.toNat_ofNat']; omega
    simp only [List.cons_append, List.nil_append, rdR, e]
    rw [if_pos hx, Nat.mod_eq_of_lt hx]
  | k + 1, x, n, p, r, h => by
    by_cases hx : x < 128
    · rw [numS_small hx]
      have e : (UInt8.ofNat x).toNat = x := by rw [UInt8.toNat_ofNat']; omega
      simp only [List.cons_append, List.nil_append, rdR, e]
      rw [if_pos hx, Nat.mod_eq_of_lt hx]
    · rw [numS_big hx]
      have e : (UInt8.ofNat (x % 128 + 128)).toNat = x % 128 + 128 := by rw [UInt8.toNat_ofNat']; omega
      rw [List.cons_append, rdR, e, if_neg (by omega), rdR_numS k (x / 128) _ _ r (by rw [Nat.pow_succ] at h; omega)]
      rw [show (x % 128 + 128) % 128 = x % 128 by omega]
      congr 2
      have h1 : x / 128 * (p * 128) = 128 * (x / 128) * p := by rw [Nat.mul_comm p 128, ← Nat.mul_assoc, Nat.mul_comm (x / 128) 128]
      have h2 : x * p = (x % 128 + 128 * (x / 128)) * p := by rw [Nat.mod_add_div]
      rw [h1, h2, Nat.add_mul]; omega

theorem rd4 {x : Nat} (h : x < 268435456) (r : Str) : rdR 4 0 1 (numS x ++ r) = some (x, r) := by
  have := rdR_numS 3 x 0 1 r (by simpa using h)
  simpa using this

/-- The front of a file, behind the version. -/
theorem body_front (ps S : List Str) : ∃ T, bodyS ps S = [83, 67, 82, 1] ++ (numS (clsL ps).length ++ (clsL ps ++ (numS S.length ++ T))) ∧ T = stsTo S S.length ++ (numS ps.length ++ (patsTo ps S ps.length ++ (offsTo (packed (excL S (clsL ps)) S.length).o S.length ++ (numS (packed (excL S (clsL ps)) S.length).cl.length ++ celsTo (packed (excL S (clsL ps)) S.length).cl (packed (excL S (clsL ps)) S.length).cl.length)))) := by
  refine ⟨_, ?_, rfl⟩
  unfold bodyS headS
  rw [numS_small (n := 1) (by omega)]
  simp only [List.append_assoc, List.cons_append, List.nil_append]
  rfl

/-- The states from the k-th on. -/
def stsFrom (S : List Str) (k : Nat) : Nat → Str
  | 0 => []
  | m + 1 => stS S k ++ stsFrom S (k + 1) m
theorem stsTo_from (S : List Str) : ∀ (m k : Nat), 1 ≤ k → stsTo S (k + m) = stsTo S k ++ stsFrom S k m
  | 0, k, _ => by simp [stsFrom]
  | m + 1, k, h => by
    rw [stsFrom, show k + (m + 1) = (k + 1) + m by omega, stsTo_from S m (k + 1) (by omega), stsTo, if_neg (by omega), List.append_assoc]
theorem stsTo_all {S : List Str} (h : 0 < S.length) : stsTo S S.length = stsFrom S 1 (S.length - 1) := by
  have := stsTo_from S (S.length - 1) 1 (by omega)
  rw [show 1 + (S.length - 1) = S.length by omega] at this
  rw [this]
  rfl
/-- The patterns from the k-th on. -/
def patsFrom (ps S : List Str) (k : Nat) : Nat → Str
  | 0 => []
  | m + 1 => numS (S.idxOf (pat ps k)) ++ patsFrom ps S (k + 1) m
theorem patsTo_from (ps S : List Str) : ∀ (m k : Nat), patsTo ps S (k + m) = patsTo ps S k ++ patsFrom ps S k m
  | 0, k => by simp [patsFrom]
  | m + 1, k => by
    rw [patsFrom, show k + (m + 1) = (k + 1) + m by omega, patsTo_from ps S m (k + 1), patsTo, List.append_assoc]
theorem patsTo_all (ps S : List Str) : patsTo ps S ps.length = patsFrom ps S 0 ps.length := by
  have := patsTo_from ps S ps.length 0
  rw [Nat.zero_add] at this
  rw [this]; rfl
/-- What stands behind the patterns. -/
def tailF (ps S : List Str) : Str := offsTo (packed (excL S (clsL ps)) S.length).o S.length ++ (numS (packed (excL S (clsL ps)) S.length).cl.length ++ celsTo (packed (excL S (clsL ps)) S.length).cl (packed (excL S (clsL ps)) S.length).cl.length)
/-- What stands there from the k-th pattern on. -/
def patT (ps S : List Str) (k : Nat) : Str := patsFrom ps S k (ps.length - k) ++ tailF ps S
/-- What stands there from the k-th state on. -/
def stT (ps S : List Str) (k : Nat) : Str := stsFrom S k (S.length - k) ++ (numS ps.length ++ patT ps S 0)

theorem body_read {ps S : List Str} (h : 0 < S.length) : bodyS ps S = [83, 67, 82, 1] ++ (numS (clsL ps).length ++ (clsL ps ++ (numS S.length ++ stT ps S 1))) := by
  obtain ⟨T, e, hT⟩ := body_front ps S
  rw [e, hT, stsTo_all h, patsTo_all]
  unfold stT patT tailF
  simp only [Nat.sub_zero]

/-- A list of states as it must be. -/
structure Good (ps S : List Str) : Prop where
  ok : (chk ps).1 = 0
  rep : ∃ par lst, Rep S par lst
  of : ∃ E, StatesOf ps S E

theorem Mach.good {w : World} {bm bt be : Nat} {g : List Nat} {ps S : List Str} (h : Mach w bm bt be g ps S) (hc : (chk ps).1 = 0) : Good ps S := by
  obtain ⟨_, _, par, lst, E, hT, hS, _⟩ := h.ex
  exact ⟨hc, ⟨par, lst, hT.rep⟩, ⟨E, hS⟩⟩

theorem Good.uniq {ps S S' : List Str} (h : Good ps S) (h' : Good ps S') : S = S' := by
  obtain ⟨_, ⟨par, lst, hR⟩, ⟨E, hS⟩⟩ := h
  obtain ⟨_, ⟨par', lst', hR'⟩, ⟨E', hS'⟩⟩ := h'
  exact sorted_eq _ _ hR.sorted hR'.sorted (fun x => (hS.mem x).trans (hS'.mem x).symm)

theorem Good.len {ps S : List Str} (h : Good ps S) : 0 < S.length ∧ S.length ≤ 513 := by
  obtain ⟨hc, ⟨par, lst, hR⟩, ⟨E, hS⟩⟩ := h
  exact ⟨hR.pos, Nat.le_trans (states_le hS hR) (chk_total hc)⟩

theorem Good.head {ps S : List Str} (h : Good ps S) : at' S 0 = [] := by
  obtain ⟨_, ⟨_, _, hR⟩, _⟩ := h
  exact hR.head

theorem Good.next {ps S : List Str} (h : Good ps S) (k : Nat) (b : UInt8) : nextN S k b < S.length := by
  obtain ⟨_, ⟨_, _, hR⟩, _⟩ := h
  exact hR.next_lt k b

/-- A state is read. -/
theorem Good.state {ps S : List Str} (h : Good ps S) {k : Nat} (h1 : 1 ≤ k) (hk : k < S.length) : ∃ (p : Nat) (c : UInt8) (f : Nat), p < k ∧ f < k ∧ at' S k = at' S p ++ [c] ∧ stT ps S k = numS p ++ (c :: (numS f ++ stT ps S (k + 1))) := by
  obtain ⟨_, ⟨par, lst, hR⟩, _⟩ := h
  obtain ⟨p, c, _, hp, _, e⟩ := hR.kids k (by omega) hk
  refine ⟨p, c, failN S k, hp, hR.fail_lt (by omega) hk, e, ?_⟩
  unfold stT
  rw [show S.length - k = (S.length - (k + 1)) + 1 by omega, stsFrom]
  have e1 : stS S k = numS p ++ (c :: numS (failN S k)) := by
    unfold stS failN
    rw [List.drop_one, e]
    have h2 : (at' S p ++ [c]).take ((at' S p ++ [c]).length - 1) = at' S p := by simp
    have h3 : (at' S p ++ [c]).drop ((at' S p ++ [c]).length - 1) = [c] := by simp
    rw [h2, h3, idx_at hR.sorted (by omega)]
    simp
  rw [e1]
  simp

theorem stT_end {ps S : List Str} : stT ps S S.length = numS ps.length ++ patT ps S 0 := by
  unfold stT
  rw [Nat.sub_self, stsFrom, List.nil_append]

theorem Good.pat {ps S : List Str} (h : Good ps S) {k : Nat} (hk : k < ps.length) : ∃ p, p < S.length ∧ at' S p = pat ps k ∧ patT ps S k = numS p ++ patT ps S (k + 1) := by
  obtain ⟨_, _, ⟨E, hS⟩⟩ := h
  obtain ⟨h64, hlen, _⟩ := chk_ok ‹(chk ps).1 = 0›
  have hm := pat_mem hS hk (hlen k hk).1
  refine ⟨S.idxOf (Go.Proofs.YtibkhphbilfckaaGreatDoor.pat ps k), List.idxOf_lt_length_of_mem hm, at_idx hm, ?_⟩
  unfold patT
  rw [show ps.length - k = (ps.length - (k + 1)) + 1 by omega, patsFrom, List.append_assoc]

theorem Good.small {ps S : List Str} (h : Good ps S) : ps.length ≤ 64 ∧ (clsL ps).length ≤ 256 := by
  obtain ⟨h64, _, _⟩ := chk_ok h.ok
  exact ⟨h64, clsTo_len ps 256⟩

theorem Good.fileLen {ps S : List Str} (h : Good ps S) : (fileS ps S).length < 100000000 :=
  fileS_len (by have := h.len; omega) h.small.1 (fun k b => by have := h.next k b; have := h.len; omega)
theorem take_more {S : List Str} {i : Nat} (h : i < S.length) : S.take (i + 1) = S.take i ++ [at' S i] := by
  rw [List.take_add_one]
  congr 1
  simp [at', List.getD, h]
theorem at_take {S : List Str} {i p : Nat} (h : p < i) : at' (S.take i) p = at' S p := by
  simp [at', List.getD, h]
end Go.Proofs.YtibkhphbilfckaaGreatDoor
