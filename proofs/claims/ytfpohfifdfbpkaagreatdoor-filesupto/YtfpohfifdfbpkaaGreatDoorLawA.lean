import Derived.Test.YtfpohfifdfbpkaaGreatDoorRef
import Derived.Test.YtfpohfifdfbpkaaGreatDoorBoth
namespace Go.Proofs.YtfpohfifdfbpkaaGreatDoor
open Go.RowKit Scour
set_option maxHeartbeats 1000000 in
theorem compile_bad (ap : Option Addr) (cp base : Nat) (ps : List Str) (w : World) (hP : yO w base ap ps) (hbig : ps.length <= 9000000000000000000) (hl : ∀ i, i < ps.length -> (pat ps i).length <= 9000000000000000000) (hc : (chk ps).1 ≠ 0) :
  Calls Tryz.prog 28 #[.slice ap ps.length cp] w fun e w' => e = .returned (.tuple #[.pointer none, .int .i64 (chk ps).1, .int .i64 (chk ps).2]) /\ w' = w := by
 have HK := zB (check_any ap cp base ps w hP hbig hl)
 clear hP hl
 obtain ⟨e1, e2, he⟩ : ∃ e1 e2, chk ps = (e1, e2) := ⟨_, _, rfl⟩
 rw [he] at HK hc ⊢
 have hb : (e1 != 0) = true := by simpa using hc
 clear he hc
 go_enter Tryz.func28, Tryz.ntmps28
 go_wp2_with (go_at_call 44; refine (zA HK).mono ?_; rintro e w' ⟨rfl, hw⟩; have hw' := hw.symm; clear hw; subst hw')
 go_ret3
 exact ⟨rfl, rfl⟩
def zp (n : Nat) : Nat := 200 + n / 4 % 50
set_option maxHeartbeats 400000 in
theorem mark_any (n : Nat) (w : World) (hn : n < 9000000000000000000) :
  Calls Tryz.prog 53 #[.int .i64 n] w fun e w' => e = .returned (.int .u8 (zp n)) /\ w' = w := by
 go_enter Tryz.func53, Tryz.ntmps53
 go_wp2
 go_ret
 have e : ((zp n : Nat) : Int) = 200 + (n : Int) / 4 % 50 := by unfold zp; omega
 exact ⟨by rw [e]; rfl, rfl⟩
set_option maxHeartbeats 400000 in
theorem lawPick_any (c n : Int) (w : World) (hn : 0 < n) (hn2 : n <= 9223372036854775807) (hc : -9223372036854775808 <= c /\ c <= 9223372036854775807) :
  Calls Tryz.prog 51 #[.int .i64 c, .int .i64 n] w fun e w' => e = .returned (.int .i64 (pickI c n)) /\ w' = w := by
 have hnz : (n == 0) = false := by simp; omega
 obtain ⟨hc1, hc2⟩ := hc
 by_cases h : c < 0
 ·have HP : Hid (pickI c n = (-(c + 1)) % n) := zB (by unfold pickI; rw [if_pos h])
  go_enter Tryz.func51, Tryz.ntmps51
  go_wp2
  go_ret
  exact ⟨by rw [zA HP, ← Int.tmod_eq_emod_of_nonneg (by omega), Int.neg_tmod]; rfl, rfl⟩
 ·have HP : Hid (pickI c n = c % n) := zB (by unfold pickI; rw [if_neg h])
  go_enter Tryz.func51, Tryz.ntmps51
  go_wp2
  go_ret
  exact ⟨by rw [zA HP]; rfl, rfl⟩
set_option maxHeartbeats 1000000 in
theorem among_any (b : Nat) (cap : Nat) (ks : List Int) (k : Int) (w : World) (hk : ks.length < 1000) (hc : ∀ i, i < ks.length -> w.cell? ⟨b, i, none⟩ = some (.int .i64 (ks.getD i 0))) :
  Calls Tryz.prog 30 #[.slice (some ⟨b, 0, none⟩) ks.length cap, .int .i64 k] w fun e w' => e = .returned (.bool (decide (k ∈ ks))) /\ w' = w := by
 have HC := zB hc
 clear hc
 go_enter Tryz.func30, Tryz.ntmps30
 go_wp2
 go_loop [5] (fun v => ∃ j : Nat, v = .int .i64 j /\ j <= ks.length /\ Hid (∀ i, i < j -> ks.getD i 0 ≠ k)) (fun v => ks.length - (intOf v).toNat)
 case atStart => exact ⟨0, rfl, Nat.zero_le _, zB (fun i h => absurd h (Nat.not_lt_zero _))⟩
 case round =>
  obtain ⟨j, rfl, hj, HJ⟩ := hrel
  by_cases hlt : j < ks.length
  ·have c0 := zA HC j hlt
   have i1 : (j : Int) < (ks.length : Int) := by omega
   have hg : ks.getD j 0 = ks[j] := by simp [List.getD, hlt]
   by_cases he : ks.getD j 0 = k
   ·have HM : Hid (decide (k ∈ ks) = true) := zB (by rw [decide_eq_true_eq, ← he, hg]; exact List.getElem_mem _)
    have hb : (ks.getD j 0 == k) = true := by simpa using he
    clear hg he
    generalize ks.getD j 0 = x at c0 hb
    go_wp2
    go_ret
    exact ⟨by rw [zA HM]; rfl, rfl⟩
   ·have hb : (ks.getD j 0 == k) = false := by simpa using he
    have HJ2 : Hid (∀ i, i < j + 1 -> ks.getD i 0 ≠ k) := zB (fun i h => by
     by_cases e : i = j
     ·rw [e]; exact he
     ·exact zA HJ i (by omega))
    clear hg he
    generalize ks.getD j 0 = x at c0 hb
    go_wp2
    go_round
    case rel => exact ⟨j + 1, by go_num, hlt, HJ2⟩
    case measure => simp [intOf]; omega
  ·have HM : Hid (decide (k ∈ ks) = false) := zB (by
    rw [decide_eq_false_iff_not]
    intro hm
    obtain ⟨i, hi, e⟩ := List.getElem_of_mem hm
    exact zA HJ i (by omega) (by simp [List.getD, hi, e]))
   obtain rfl : j = ks.length := by omega
   go_wp2
   go_ret
   exact ⟨by rw [zA HM]; rfl, rfl⟩
end Go.Proofs.YtfpohfifdfbpkaaGreatDoor
