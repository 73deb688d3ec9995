import Derived.Test.YthbbhpbkoankhaaGreatUSortA
import Derived.Sort.LotC
namespace Go.Proofs.YthbbhpbkoankhaaGreat
open Go.RowKit Go.Shelf Go.Lib Go.Sort

theorem scanUp_go {p : Int → Bool} {d : Array Int} {i j : Nat} (h : i ≤ j) (hp : p d[i]! = true) : scanUp p d j i = scanUp p d j (i + 1) := by
  conv => lhs; rw [scanUp]
  rw [if_pos (by simp [h, hp])]
theorem scanUp_stop {p : Int → Bool} {d : Array Int} {i j : Nat} (h : ¬ i ≤ j ∨ p d[i]! = false) : scanUp p d j i = i := by
  rw [scanUp, if_neg (by rcases h with h | h <;> simp [h])]
theorem scanDown_go {p : Int → Bool} {d : Array Int} {i j : Nat} (h0 : 0 < j) (h : i ≤ j) (hp : p d[j]! = true) : scanDown p d i j = scanDown p d i (j - 1) := by
  obtain ⟨k, rfl⟩ : ∃ k, j = k + 1 := ⟨j - 1, by omega⟩
  rw [scanDown, if_pos (by simp [h, hp])]; rfl
theorem scanDown_stop {p : Int → Bool} {d : Array Int} {i j : Nat} (h : ¬ i ≤ j ∨ p d[j]! = false) : scanDown p d i j = j := by
  cases j with
  | zero => rw [scanDown]
  | succ k => rw [scanDown, if_neg (by rcases h with h | h <;> simp [h])]

set_option maxHeartbeats 16000000 in
set_option maxRecDepth 100000 in
theorem uPartEq (w0 : World) (blk off cap a b p n : Nat) (d : Array Int) (w : World) (hn : d.size = n) (h : URow w0 blk off d w) (hap : a ≤ p) (hpb : p < b) (hb : b ≤ n) (hsz : n < 2305843009213693952) :
    Calls Tryz.prog 126 #[.slice (some ⟨blk, off, none⟩) n cap, .int .i64 a, .int .i64 b, .int .i64 p] w fun e w' => e = .returned (.int .i64 ((partitionEqual ltInt d a b p).1 : Nat)) ∧ URow w0 blk off (partitionEqual ltInt d a b p).2 w' := by
  obtain ⟨b1, hb1⟩ : ∃ b1, b - 1 = b1 := ⟨_, rfl⟩
  have hbi : (b : Int) - 1 = (b1 : Int) := by omega
  have HE : Hid (partitionEqual ltInt d a b p = partEqLoop ltInt a (a + 1) b1 (swp d a p)) := hide (by unfold partitionEqual; rw [hb1])
  have hbn : b1 < n := by omega
  have hab : a ≤ b1 := by omega
  have hpn : p < n := by omega
  obtain ⟨G, hG, hU⟩ := h.cells
  rw [hn] at hU
  have hcw := hU.c
  have hfw := hU.f
  have HG := hide hG
  have H := hide h
  have HN := hide hn
  clear hG hU h hn hb1
  go_enter Tryz.func126, Tryz.ntmps126
  go_wp2
  rcases Nat.eq_or_lt_of_le hap with hpa | hpa
  · subst hpa
    go_region
    go_wp2
    have HR0 : Hid (∀ q, URow w0 blk off (swp d a a) (((w.setCell ⟨blk, off + a, none⟩ (.int .u8 (G a))).setCell ⟨blk, off + a, none⟩ (.int .u8 (G a))).drewN q)) := hide fun q => by
      rw [unhide HG]
      exact ((unhide H).swap a a (by rw [unhide HN]; omega) (by rw [unhide HN]; omega)).drewN q
    go_loopw [9, 10] (fun vi vj wr => ∃ (i0 j0 : Nat) (dk : Array Int), vi = .int .i64 i0 ∧ vj = .int .i64 j0 ∧ a < i0 ∧ i0 ≤ j0 + 1 ∧ j0 < n ∧ Hid (dk.size = n) ∧ Hid (URow w0 blk off dk wr) ∧ Hid (partEqLoop ltInt a i0 j0 dk = partEqLoop ltInt a (a + 1) b1 (swp d a a))) (fun vi vj _ => (intOf vj).toNat + 1 - (intOf vi).toNat)
    case atStart => exact ⟨a + 1, b1, _, by go_num, rfl, by omega, by omega, hbn, hide (by rw [size_swp]; exact unhide HN), hide (unhide HR0 1), hide rfl⟩
    case round =>
      clear HR0 hcw hfw HG H
      obtain ⟨i0, j0, dk, rfl, rfl, hi0, hij0, hj0, HS, HR0, HK⟩ := hrel
      go_wp2
      go_loopw [9] (fun v wr => ∃ i : Nat, v = .int .i64 i ∧ i0 ≤ i ∧ i ≤ j0 + 1 ∧ Hid (URow w0 blk off dk wr) ∧ Hid (scanUp (fun x => !ltInt dk[a]! x) dk j0 i = scanUp (fun x => !ltInt dk[a]! x) dk j0 i0)) (fun v _ => j0 + 1 - (intOf v).toNat)
      case atStart => exact ⟨i0, rfl, Nat.le_refl _, hij0, HR0, hide rfl⟩
      case round =>
        obtain ⟨i, rfl, hii, hij1, HR, HD⟩ := hrel
        obtain ⟨G, hG, hU⟩ := (unhide HR).cells
        rw [unhide HS] at hU
        have hcw := hU.c
        have hfw := hU.f
        have HG := hide hG
        clear hG hU
        go_wp2
        by_cases hle : i ≤ j0
        · go_quiet (first | (go_at_call 125; refine Calls.quiet_of_same (lessByte_any _ _ _)))
          go_wp2
          · have hl : (!ltInt (G a) (G i)) = true := by assumption
            go_roundw
            case rel =>
              refine ⟨i + 1, by congr 1, by omega, by omega, hide ((unhide HR).drewN nq), hide ?_⟩
              rw [← unhide HD]
              exact (scanUp_go hle (by simpa only [← unhide HG] using hl)).symm
            case measure => simp [intOf]; omega
          · rename (!ltInt (G a) (G i)) = false => hl
            have HI : Hid (scanUp (fun x => !ltInt dk[a]! x) dk j0 i0 = i) := hide (by rw [← unhide HD]; exact scanUp_stop (Or.inr (by simpa only [← unhide HG] using hl)))
            have HPI : Hid ((fun x => !ltInt dk[a]! x) dk[i]! = false) := hide (by simpa only [← unhide HG] using hl)
            have HR2 : Hid (URow w0 blk off dk (wr.drewN nq)) := hide ((unhide HR).drewN nq)
            clear HD HR hl hcw hfw HG
            generalize wr.drewN nq = wy at *
            go_loopw [10] (fun v wr => ∃ j : Nat, v = .int .i64 j ∧ i ≤ j + 1 ∧ j ≤ j0 ∧ Hid (URow w0 blk off dk wr) ∧ Hid (scanDown (fun x => ltInt dk[a]! x) dk i j = scanDown (fun x => ltInt dk[a]! x) dk i j0)) (fun v _ => (intOf v).toNat)
            case atStart => exact ⟨j0, rfl, by omega, Nat.le_refl _, HR2, hide rfl⟩
            case round =>
              obtain ⟨j, rfl, hij, hjj, HR, HD⟩ := hrel
              obtain ⟨G, hG, hU⟩ := (unhide HR).cells
              rw [unhide HS] at hU
              have hcw := hU.c
              have hfw := hU.f
              have HG := hide hG
              clear hG hU
              go_wp2
              by_cases hle : i ≤ j
              · go_quiet (first | (go_at_call 125; refine Calls.quiet_of_same (lessByte_any _ _ _)))
                go_wp2
                · have hl : ltInt (G a) (G j) = true := by assumption
                  go_roundw
                  case rel =>
                    refine ⟨j - 1, by congr 1; omega, by omega, by omega, hide ((unhide HR).drewN nq), hide ?_⟩
                    rw [← unhide HD]
                    exact (scanDown_go (by omega) hle (by simpa only [← unhide HG] using hl)).symm
                  case measure => simp [intOf]; omega
                · rename ltInt (G a) (G j) = false => hl
                  have HJ : Hid (scanDown (fun x => ltInt dk[a]! x) dk i j0 = j) := hide (by rw [← unhide HD]; exact scanDown_stop (Or.inr (by simpa only [← unhide HG] using hl)))
                  have hlt : i < j := by
                    have h1 := unhide HPI
                    have h2 : (fun x => ltInt dk[a]! x) dk[j]! = false := by simpa only [← unhide HG] using hl
                    rcases Nat.lt_or_ge i j with h3 | h3
                    · exact h3
                    · obtain rfl : i = j := by omega
                      simp at h1 h2
                      simp [h1] at h2
                  have HR3 : Hid (URow w0 blk off dk (wr.drewN nq)) := hide ((unhide HR).drewN nq)
                  have hcx : ∀ t, t < n → (wr.drewN nq).cell? ⟨blk, off + t, none⟩ = some (.int .u8 (G t)) := hcw
                  have hfx : ∀ t, t < n → (wr.drewN nq).frozen? ⟨blk, off + t, none⟩ = false := hfw
                  clear hcw hfw HD HR hl
                  generalize wr.drewN nq = wz at *
                  go_wp2
                  go_region
                  all_goals go_wp2
                  go_roundw
                  case rel =>
                    refine ⟨i + 1, j - 1, swp dk i j, by congr 1, by congr 1; omega, by omega, by omega, by omega, hide (by rw [size_swp]; exact unhide HS), ?_, ?_⟩
                    · rw [unhide HG, unhide HG]
                      exact hide (((unhide HR3).drewN _).swap i j (by rw [unhide HS]; omega) (by rw [unhide HS]; omega))
                    · refine hide ?_
                      have he := unhide HK
                      rw [partEqLoop_eq, unhide HI, unhide HJ, if_neg (by omega)] at he
                      exact he
                  case measure => simp [intOf]; omega
              · go_quiet (first | (go_at_call 125; refine Calls.quiet_of_same (lessByte_any _ _ _)))
                go_wp2
                have HJ : Hid (scanDown (fun x => ltInt dk[a]! x) dk i j0 = j) := hide (by rw [← unhide HD]; exact scanDown_stop (Or.inl (by omega)))
                have HR3 : Hid (URow w0 blk off dk (wr.drewN nq)) := hide ((unhide HR).drewN nq)
                have hcx : ∀ t, t < n → (wr.drewN nq).cell? ⟨blk, off + t, none⟩ = some (.int .u8 (G t)) := hcw
                have hfx : ∀ t, t < n → (wr.drewN nq).frozen? ⟨blk, off + t, none⟩ = false := hfw
                clear hcw hfw HD HR
                generalize wr.drewN nq = wz at *
                go_wp2
                go_ret
                have he := unhide HK
                rw [partEqLoop_eq, unhide HI, unhide HJ, if_pos (by omega), ← unhide HE] at he
                rw [← he]
                exact ⟨rfl, unhide HR3⟩
        · go_quiet (first | (go_at_call 125; refine Calls.quiet_of_same (lessByte_any _ _ _)))
          go_wp2
          have HI : Hid (scanUp (fun x => !ltInt dk[a]! x) dk j0 i0 = i) := hide (by rw [← unhide HD]; exact scanUp_stop (Or.inl (by omega)))
          have HR2 : Hid (URow w0 blk off dk (wr.drewN nq)) := hide ((unhide HR).drewN nq)
          clear HD HR hcw hfw HG
          generalize wr.drewN nq = wy at *
          go_loopw [10] (fun v wr => v = .int .i64 j0 ∧ Hid (URow w0 blk off dk wr)) (fun v _ => 0)
          case atStart => exact ⟨rfl, HR2⟩
          case round =>
            obtain ⟨rfl, HR⟩ := hrel
            obtain ⟨G, hG, hU⟩ := (unhide HR).cells
            rw [unhide HS] at hU
            have hcw := hU.c
            have hfw := hU.f
            have HG := hide hG
            clear hG hU
            go_wp2
            go_quiet (first | (go_at_call 125; refine Calls.quiet_of_same (lessByte_any _ _ _)))
            go_wp2
            have HJ : Hid (scanDown (fun x => ltInt dk[a]! x) dk i j0 = j0) := hide (scanDown_stop (Or.inl (by omega)))
            obtain ⟨j, hj⟩ : ∃ j, j = j0 := ⟨_, rfl⟩
            have HR3 : Hid (URow w0 blk off dk (wr.drewN nq)) := hide ((unhide HR).drewN nq)
            have hcx : ∀ t, t < n → (wr.drewN nq).cell? ⟨blk, off + t, none⟩ = some (.int .u8 (G t)) := hcw
            have hfx : ∀ t, t < n → (wr.drewN nq).frozen? ⟨blk, off + t, none⟩ = false := hfw
            clear hcw hfw HR
            generalize wr.drewN nq = wz at *
            go_wp2
            go_ret
            have he := unhide HK
            rw [partEqLoop_eq, unhide HI, unhide HJ, if_pos (by omega), ← unhide HE] at he
            rw [← he]
            exact ⟨rfl, unhide HR3⟩
  · skip
    go_region
    go_wp2
    have HR0 : Hid (∀ q, URow w0 blk off (swp d a p) (((w.setCell ⟨blk, off + a, none⟩ (.int .u8 (G p))).setCell ⟨blk, off + p, none⟩ (.int .u8 (G a))).drewN q)) := hide fun q => by
      rw [unhide HG, unhide HG]
      exact ((unhide H).swap a p (by rw [unhide HN]; omega) (by rw [unhide HN]; omega)).drewN q
    go_loopw [9, 10] (fun vi vj wr => ∃ (i0 j0 : Nat) (dk : Array Int), vi = .int .i64 i0 ∧ vj = .int .i64 j0 ∧ a < i0 ∧ i0 ≤ j0 + 1 ∧ j0 < n ∧ Hid (dk.size = n) ∧ Hid (URow w0 blk off dk wr) ∧ Hid (partEqLoop ltInt a i0 j0 dk = partEqLoop ltInt a (a + 1) b1 (swp d a p))) (fun vi vj _ => (intOf vj).toNat + 1 - (intOf vi).toNat)
    case atStart => exact ⟨a + 1, b1, _, by go_num, rfl, by omega, by omega, hbn, hide (by rw [size_swp]; exact unhide HN), hide (unhide HR0 1), hide rfl⟩
    case round =>
      clear HR0 hcw hfw HG H
      obtain ⟨i0, j0, dk, rfl, rfl, hi0, hij0, hj0, HS, HR0, HK⟩ := hrel
      go_wp2
      go_loopw [9] (fun v wr => ∃ i : Nat, v = .int .i64 i ∧ i0 ≤ i ∧ i ≤ j0 + 1 ∧ Hid (URow w0 blk off dk wr) ∧ Hid (scanUp (fun x => !ltInt dk[a]! x) dk j0 i = scanUp (fun x => !ltInt dk[a]! x) dk j0 i0)) (fun v _ => j0 + 1 - (intOf v).toNat)
      case atStart => exact ⟨i0, rfl, Nat.le_refl _, hij0, HR0, hide rfl⟩
      case round =>
        obtain ⟨i, rfl, hii, hij1, HR, HD⟩ := hrel
        obtain ⟨G, hG, hU⟩ := (unhide HR).cells
        rw [unhide HS] at hU
        have hcw := hU.c
        have hfw := hU.f
        have HG := hide hG
        clear hG hU
        go_wp2
        by_cases hle : i ≤ j0
        · go_quiet (first | (go_at_call 125; refine Calls.quiet_of_same (lessByte_any _ _ _)))
          go_wp2
          · have hl : (!ltInt (G a) (G i)) = true := by assumption
            go_roundw
            case rel =>
              refine ⟨i + 1, by congr 1, by omega, by omega, hide ((unhide HR).drewN nq), hide ?_⟩
              rw [← unhide HD]
              exact (scanUp_go hle (by simpa only [← unhide HG] using hl)).symm
            case measure => simp [intOf]; omega
          · rename (!ltInt (G a) (G i)) = false => hl
            have HI : Hid (scanUp (fun x => !ltInt dk[a]! x) dk j0 i0 = i) := hide (by rw [← unhide HD]; exact scanUp_stop (Or.inr (by simpa only [← unhide HG] using hl)))
            have HPI : Hid ((fun x => !ltInt dk[a]! x) dk[i]! = false) := hide (by simpa only [← unhide HG] using hl)
            have HR2 : Hid (URow w0 blk off dk (wr.drewN nq)) := hide ((unhide HR).drewN nq)
            clear HD HR hl hcw hfw HG
            generalize wr.drewN nq = wy at *
            go_loopw [10] (fun v wr => ∃ j : Nat, v = .int .i64 j ∧ i ≤ j + 1 ∧ j ≤ j0 ∧ Hid (URow w0 blk off dk wr) ∧ Hid (scanDown (fun x => ltInt dk[a]! x) dk i j = scanDown (fun x => ltInt dk[a]! x) dk i j0)) (fun v _ => (intOf v).toNat)
            case atStart => exact ⟨j0, rfl, by omega, Nat.le_refl _, HR2, hide rfl⟩
            case round =>
              obtain ⟨j, rfl, hij, hjj, HR, HD⟩ := hrel
              obtain ⟨G, hG, hU⟩ := (unhide HR).cells
              rw [unhide HS] at hU
              have hcw := hU.c
              have hfw := hU.f
              have HG := hide hG
              clear hG hU
              go_wp2
              by_cases hle : i ≤ j
              · go_quiet (first | (go_at_call 125; refine Calls.quiet_of_same (lessByte_any _ _ _)))
                go_wp2
                · have hl : ltInt (G a) (G j) = true := by assumption
                  go_roundw
                  case rel =>
                    refine ⟨j - 1, by congr 1; omega, by omega, by omega, hide ((unhide HR).drewN nq), hide ?_⟩
                    rw [← unhide HD]
                    exact (scanDown_go (by omega) hle (by simpa only [← unhide HG] using hl)).symm
                  case measure => simp [intOf]; omega
                · rename ltInt (G a) (G j) = false => hl
                  have HJ : Hid (scanDown (fun x => ltInt dk[a]! x) dk i j0 = j) := hide (by rw [← unhide HD]; exact scanDown_stop (Or.inr (by simpa only [← unhide HG] using hl)))
                  have hlt : i < j := by
                    have h1 := unhide HPI
                    have h2 : (fun x => ltInt dk[a]! x) dk[j]! = false := by simpa only [← unhide HG] using hl
                    rcases Nat.lt_or_ge i j with h3 | h3
                    · exact h3
                    · obtain rfl : i = j := by omega
                      simp at h1 h2
                      simp [h1] at h2
                  have HR3 : Hid (URow w0 blk off dk (wr.drewN nq)) := hide ((unhide HR).drewN nq)
                  have hcx : ∀ t, t < n → (wr.drewN nq).cell? ⟨blk, off + t, none⟩ = some (.int .u8 (G t)) := hcw
                  have hfx : ∀ t, t < n → (wr.drewN nq).frozen? ⟨blk, off + t, none⟩ = false := hfw
                  clear hcw hfw HD HR hl
                  generalize wr.drewN nq = wz at *
                  go_wp2
                  go_region
                  all_goals go_wp2
                  go_roundw
                  case rel =>
                    refine ⟨i + 1, j - 1, swp dk i j, by congr 1, by congr 1; omega, by omega, by omega, by omega, hide (by rw [size_swp]; exact unhide HS), ?_, ?_⟩
                    · rw [unhide HG, unhide HG]
                      exact hide (((unhide HR3).drewN _).swap i j (by rw [unhide HS]; omega) (by rw [unhide HS]; omega))
                    · refine hide ?_
                      have he := unhide HK
                      rw [partEqLoop_eq, unhide HI, unhide HJ, if_neg (by omega)] at he
                      exact he
                  case measure => simp [intOf]; omega
              · go_quiet (first | (go_at_call 125; refine Calls.quiet_of_same (lessByte_any _ _ _)))
                go_wp2
                have HJ : Hid (scanDown (fun x => ltInt dk[a]! x) dk i j0 = j) := hide (by rw [← unhide HD]; exact scanDown_stop (Or.inl (by omega)))
                have HR3 : Hid (URow w0 blk off dk (wr.drewN nq)) := hide ((unhide HR).drewN nq)
                have hcx : ∀ t, t < n → (wr.drewN nq).cell? ⟨blk, off + t, none⟩ = some (.int .u8 (G t)) := hcw
                have hfx : ∀ t, t < n → (wr.drewN nq).frozen? ⟨blk, off + t, none⟩ = false := hfw
                clear hcw hfw HD HR
                generalize wr.drewN nq = wz at *
                go_wp2
                go_ret
                have he := unhide HK
                rw [partEqLoop_eq, unhide HI, unhide HJ, if_pos (by omega), ← unhide HE] at he
                rw [← he]
                exact ⟨rfl, unhide HR3⟩
        · go_quiet (first | (go_at_call 125; refine Calls.quiet_of_same (lessByte_any _ _ _)))
          go_wp2
          have HI : Hid (scanUp (fun x => !ltInt dk[a]! x) dk j0 i0 = i) := hide (by rw [← unhide HD]; exact scanUp_stop (Or.inl (by omega)))
          have HR2 : Hid (URow w0 blk off dk (wr.drewN nq)) := hide ((unhide HR).drewN nq)
          clear HD HR hcw hfw HG
          generalize wr.drewN nq = wy at *
          go_loopw [10] (fun v wr => v = .int .i64 j0 ∧ Hid (URow w0 blk off dk wr)) (fun v _ => 0)
          case atStart => exact ⟨rfl, HR2⟩
          case round =>
            obtain ⟨rfl, HR⟩ := hrel
            obtain ⟨G, hG, hU⟩ := (unhide HR).cells
            rw [unhide HS] at hU
            have hcw := hU.c
            have hfw := hU.f
            have HG := hide hG
            clear hG hU
            go_wp2
            go_quiet (first | (go_at_call 125; refine Calls.quiet_of_same (lessByte_any _ _ _)))
            go_wp2
            have HJ : Hid (scanDown (fun x => ltInt dk[a]! x) dk i j0 = j0) := hide (scanDown_stop (Or.inl (by omega)))
            obtain ⟨j, hj⟩ : ∃ j, j = j0 := ⟨_, rfl⟩
            have HR3 : Hid (URow w0 blk off dk (wr.drewN nq)) := hide ((unhide HR).drewN nq)
            have hcx : ∀ t, t < n → (wr.drewN nq).cell? ⟨blk, off + t, none⟩ = some (.int .u8 (G t)) := hcw
            have hfx : ∀ t, t < n → (wr.drewN nq).frozen? ⟨blk, off + t, none⟩ = false := hfw
            clear hcw hfw HR
            generalize wr.drewN nq = wz at *
            go_wp2
            go_ret
            have he := unhide HK
            rw [partEqLoop_eq, unhide HI, unhide HJ, if_pos (by omega), ← unhide HE] at he
            rw [← he]
            exact ⟨rfl, unhide HR3⟩

end Go.Proofs.YthbbhpbkoankhaaGreat
