import Derived.Test.YthbbhpbkoankhaaGreatNew
namespace Go.Proofs.YthbbhpbkoankhaaGreat
open Go.RowKit Scour

/-- What keeps patterns from being compiled, by their lengths; the first of them the i-th, those ahead t bytes together. -/
def chkFrom : List Str → Nat → Nat → Int × Int
  | [], _, t => if 512 < t then (5, 0) else (0, 0)
  | p :: r, i, t => if p.length = 0 then (3, i) else if 64 < p.length then (4, i) else chkFrom r (i + 1) (t + p.length)
/-- The error and the number. -/
def chk (ps : List Str) : Int × Int := if 64 < ps.length then (2, 0) else chkFrom ps 0 0

theorem drop_pat {ps : List Str} {k : Nat} (h : k < ps.length) : ps.drop k = pat ps k :: ps.drop (k + 1) := by
  rw [List.drop_eq_getElem_cons h]; simp [pat, List.getD, h]

set_option maxHeartbeats 1000000 in
theorem check_any (ap : Option Addr) (cp base : Nat) (ps : List Str) (w : World) (hP : PatsIn w base ap ps) (hbig : ps.length ≤ 9000000000000000000) (hl : ∀ i, i < ps.length → (pat ps i).length ≤ 9000000000000000000) :
    Calls Tryz.prog 38 #[.slice ap ps.length cp] w fun e w' => e = .returned (.tuple #[.int .i64 (chk ps).1, .int .i64 (chk ps).2]) ∧ w' = w := by
  by_cases hm : 64 < ps.length
  · have HC : Hid (chk ps = (2, 0)) := hide (by unfold chk; rw [if_pos hm])
    go_enter Tryz.func38, Tryz.ntmps38
    go_wp2
    go_ret2
    rw [unhide HC]
    exact ⟨rfl, rfl⟩
  · have HC : Hid (chk ps = chkFrom ps 0 0) := hide (by unfold chk; rw [if_neg hm])
    have HP := hide hP
    have HL := hide hl
    clear hP hl
    go_enter Tryz.func38, Tryz.ntmps38
    go_wp2
    go_loop [4, 12] (fun v4 v12 => ∃ k t : Nat, v4 = .int .i64 t ∧ v12 = .int .i64 k ∧ k ≤ ps.length ∧ t ≤ 64 * k ∧ Hid (chk ps = chkFrom (ps.drop k) k t)) (fun _ v12 => ps.length - (intOf v12).toNat)
    case atStart => exact ⟨0, 0, rfl, rfl, Nat.zero_le _, by omega, hide (by rw [unhide HC]; rfl)⟩
    case round =>
      obtain ⟨k, t, rfl, rfl, hk, ht, HR⟩ := hrel
      by_cases hlt : k < ps.length
      · obtain ⟨bp, op, hbp, rfl, hpat⟩ := unhide HP (by omega)
        obtain ⟨ao, c, h4, _⟩ := hpat k hlt
        have hlk := unhide HL k hlt
        have hd := drop_pat hlt
        have i1 : (k : Int) < (ps.length : Int) := by omega
        have HR2 : Hid (chk ps = if (pat ps k).length = 0 then (3, (k : Int)) else if 64 < (pat ps k).length then (4, (k : Int)) else chkFrom (ps.drop (k + 1)) (k + 1) (t + (pat ps k).length)) := hide (by rw [unhide HR, hd, chkFrom])
        clear hd hpat HR
        generalize (pat ps k).length = n at *
        by_cases h0 : n = 0
        · subst h0
          have HR3 : Hid (chk ps = (3, (k : Int))) := hide (by rw [unhide HR2]; simp)
          go_wp2
          go_ret2
          rw [unhide HR3]
          exact ⟨rfl, rfl⟩
        · have h0b : ((n : Int) == 0) = false := by simp [h0]
          by_cases h64 : 64 < n
          · have HR3 : Hid (chk ps = (4, (k : Int))) := hide (by rw [unhide HR2, if_neg h0, if_pos h64])
            go_wp2
            go_ret2
            rw [unhide HR3]
            exact ⟨rfl, rfl⟩
          · have HR3 := hide ((unhide HR2).trans (by rw [if_neg h0, if_neg h64]))
            go_wp2
            go_round
            case rel => exact ⟨k + 1, t + n, by go_num, by go_num, hlt, by omega, HR3⟩
            case measure => simp [intOf]; omega
      · obtain rfl : k = ps.length := by omega
        have HR2 : Hid (chk ps = if 512 < t then (5, 0) else (0, 0)) := hide (by rw [unhide HR, List.drop_length, chkFrom])
        clear HR
        by_cases h5 : 512 < t
        · have HR3 : Hid (chk ps = (5, 0)) := hide (by rw [unhide HR2, if_pos h5])
          go_wp2
          go_ret2
          rw [unhide HR3]
          exact ⟨rfl, rfl⟩
        · have HR3 : Hid (chk ps = (0, 0)) := hide (by rw [unhide HR2, if_neg h5])
          go_wp2
          go_ret2
          rw [unhide HR3]
          exact ⟨rfl, rfl⟩
end Go.Proofs.YthbbhpbkoankhaaGreat
