import Derived.Test.YtfpohfifdfbpkaaUSortA
import Derived.Test.YtfpohfifdfbpkaaUSortD
namespace Go.Proofs.Ytfpohfifdfbpkaa
open Go.RowKit Go.Shelf Go.Lib Go.Sort


set_option maxHeartbeats 32000000 in
set_option maxRecDepth 100000 in
theorem uPart (w0 : World) (blk off cap a b p n : Nat) (d : Array Int) (w : World) (hn : d.size = n) (h : URow w0 blk off d w) (hap : a ≤ p) (hpb : p < b) (hb : b ≤ n) (hsz : n < 2305843009213693952) :
    Calls Try.prog 80 #[.slice (some ⟨blk, off, none⟩) n cap, .int .i64 a, .int .i64 b, .int .i64 p] w fun e w' => e = .returned (.tuple #[.int .i64 ((partition ltInt d a b p).1 : Nat), .bool (partition ltInt d a b p).2.1]) ∧ URow w0 blk off (partition ltInt d a b p).2.2 w' := by
  obtain ⟨j0, hb1⟩ : ∃ b1, b - 1 = b1 := ⟨_, rfl⟩
  have hbi : (b : Int) - 1 = (j0 : Int) := by omega
  obtain ⟨i0, hi1⟩ : ∃ b1, a + 1 = b1 := ⟨_, rfl⟩
  have hii1 : (a : Int) + 1 = (i0 : Int) := by omega
  have HE : Hid (∀ dk i j, swp d a p = dk → scanUp (fun x => ltInt x dk[a]!) dk j0 i0 = i → scanDown (fun x => !ltInt x dk[a]!) dk i j0 = j → (i > j → partition ltInt d a b p = (j, true, swp dk j a)) ∧ (¬ i > j → partition ltInt d a b p = ((partLoop ltInt a (i + 1) (j - 1) (swp dk i j)).1, false, swp (partLoop ltInt a (i + 1) (j - 1) (swp dk i j)).2 (partLoop ltInt a (i + 1) (j - 1) (swp dk i j)).1 a))) := hide (by
    intro dk i j h1 h2 h3
    subst h1 hi1 hb1 h2 h3
    constructor
    · intro hgt
      show (if _ then _ else _) = _
      exact if_pos hgt
    · intro hgt
      show (if _ then _ else _) = _
      exact if_neg hgt)
  have hj0 : j0 < n := by omega
  have hij0 : i0 ≤ j0 + 1 := by omega
  have hi0 : a < i0 := by omega
  have hpn : p < n := by omega
  have han : a < n := by omega
  obtain ⟨G, hG, hU⟩ := h.cells
  rw [hn] at hU
  have hcw := hU.c
  have hfw := hU.f
  have HG := hide hG
  have H := hide h
  have HN := hide hn
  clear hG hU h hn hb1 hi1
  go_enter Try.func80, Try.ntmps80
  go_wp2
  rcases Nat.eq_or_lt_of_le hap with hpa | hpa
  · subst hpa
    go_region
    go_wp2
    have HR0 : Hid (URow w0 blk off (swp d a a) (((w.setCell ⟨blk, off + a, none⟩ (.int .u8 (G a))).setCell ⟨blk, off + a, none⟩ (.int .u8 (G a))).drewN 1)) := hide (by
      rw [unhide HG]
      exact ((unhide H).swap a a (by rw [unhide HN]; omega) (by rw [unhide HN]; omega)).drewN 1)
    have HS : Hid ((swp d a a).size = n) := hide (by rw [size_swp]; exact unhide HN)
    clear H HN hcw hfw HG
    have HR0' : Hid (URow w0 blk off (swp d a a) ((w.setCell ⟨blk, off + a, none⟩ (.int .u8 (G a))).setCell ⟨blk, off + a, none⟩ (.int .u8 (G a))).drew) := HR0
    clear HR0
    have HR0 := HR0'
    clear HR0'
    generalize ((w.setCell ⟨blk, off + a, none⟩ (.int .u8 (G a))).setCell ⟨blk, off + a, none⟩ (.int .u8 (G a))).drew = wx at *
    obtain ⟨dk, hdk⟩ : ∃ dk, swp d a a = dk := ⟨_, rfl⟩
    have HDK := hide hdk
    rw [hdk] at HR0 HS
    have HE1 := hide (unhide HE dk)
    clear hdk HE
    go_loopw [10] (fun v wr => ∃ i : Nat, v = .int .i64 i ∧ i0 ≤ i ∧ i ≤ j0 + 1 ∧ Hid (URow w0 blk off dk wr) ∧ Hid (scanUp (fun x => ltInt x dk[a]!) dk j0 i = scanUp (fun x => ltInt x dk[a]!) dk j0 i0)) (fun v _ => j0 + 1 - (intOf v).toNat)
    case atStart => exact ⟨i0, rfl, Nat.le_refl _, hij0, HR0, hide rfl⟩
    case round =>
      obtain ⟨i, rfl, hii, hij1, HR, HD⟩ := hrel
      obtain ⟨G, hG, hU⟩ := (unhide HR).cells
      rw [unhide HS] at hU
      have hcw := hU.c
      have hfw := hU.f
      have HG := hide hG
      clear hG hU
      go_wp2
      by_cases hle : i ≤ j0
      · go_quiet (first | (go_at_call 78; refine Calls.quiet_of_same (lessByte_any _ _ _)))
        go_wp2
        · have hl : ltInt (G i) (G a) = true := by assumption
          go_roundw
          case rel =>
            refine ⟨i + 1, by congr 1, by omega, by omega, hide ((unhide HR).drewN nq), hide ?_⟩
            rw [← unhide HD]
            exact (scanUp_go hle (by simpa only [← unhide HG] using hl)).symm
          case measure => simp [intOf]; omega
        · rename ltInt (G i) (G a) = false => hl
          have HI : Hid (scanUp (fun x => ltInt x dk[a]!) dk j0 i0 = i) := hide (by rw [← unhide HD]; exact scanUp_stop (Or.inr (by simpa only [← unhide HG] using hl)))
          have HPI : Hid ((fun x => ltInt x dk[a]!) dk[i]! = false) := hide (by simpa only [← unhide HG] using hl)
          have HR2 : Hid (URow w0 blk off dk (wr.drewN nq)) := hide ((unhide HR).drewN nq)
          clear HD HR hl hcw hfw HG
          generalize wr.drewN nq = wy at *
          go_loopw [11] (fun v wr => ∃ j : Nat, v = .int .i64 j ∧ i ≤ j + 1 ∧ j ≤ j0 ∧ Hid (URow w0 blk off dk wr) ∧ Hid (scanDown (fun x => !ltInt x dk[a]!) dk i j = scanDown (fun x => !ltInt x dk[a]!) dk i j0)) (fun v _ => (intOf v).toNat)
          case atStart => exact ⟨j0, rfl, by omega, Nat.le_refl _, HR2, hide rfl⟩
          case round =>
            obtain ⟨j, rfl, hij, hjj, HR, HD⟩ := hrel
            obtain ⟨G, hG, hU⟩ := (unhide HR).cells
            rw [unhide HS] at hU
            have hcw := hU.c
            have hfw := hU.f
            have HG := hide hG
            clear hG hU
            go_wp2
            by_cases hle : i ≤ j
            · go_quiet (first | (go_at_call 78; refine Calls.quiet_of_same (lessByte_any _ _ _)))
              go_wp2
              · have hl : (!ltInt (G j) (G a)) = true := by assumption
                go_roundw
                case rel =>
                  refine ⟨j - 1, by congr 1; omega, by omega, by omega, hide ((unhide HR).drewN nq), hide ?_⟩
                  rw [← unhide HD]
                  exact (scanDown_go (by omega) hle (by simpa only [← unhide HG] using hl)).symm
                case measure => simp [intOf]; omega
              · rename (!ltInt (G j) (G a)) = false => hl
                have HJ : Hid (scanDown (fun x => !ltInt x dk[a]!) dk i j0 = j) := hide (by rw [← unhide HD]; exact scanDown_stop (Or.inr (by simpa only [← unhide HG] using hl)))
                have hlt : i < j := by
                  have h1 := unhide HPI
                  have h2 : (fun x => !ltInt x dk[a]!) dk[j]! = false := by simpa only [← unhide HG] using hl
                  rcases Nat.lt_or_ge i j with h3 | h3
                  · exact h3
                  · obtain rfl : i = j := by omega
                    simp at h1 h2
                    simp [h1] at h2
                have HR3 : Hid (URow w0 blk off dk (wr.drewN nq)) := hide ((unhide HR).drewN nq)
                have hcx : ∀ t, t < n → (wr.drewN nq).cell? ⟨blk, off + t, none⟩ = some (.int .u8 (G t)) := hcw
                have hfx : ∀ t, t < n → (wr.drewN nq).frozen? ⟨blk, off + t, none⟩ = false := hfw
                clear hcw hfw HD HR hl
                generalize wr.drewN nq = wz at *
                go_wp2
                go_region
                all_goals go_wp2
                generalize decide (j < i) = bq
                obtain ⟨r0, hr0⟩ : ∃ r0, partLoop ltInt a (i + 1) (j - 1) (swp dk i j) = r0 := ⟨_, rfl⟩
                have HE2 : Hid (partition ltInt d a b a = (r0.1, false, swp r0.2 r0.1 a)) := hide (by rw [← hr0]; exact (unhide HE1 i j (unhide HDK) (unhide HI) (unhide HJ)).2 (by omega))
                have HR0 : Hid (∀ q, URow w0 blk off (swp dk i j) (((wz.drewN q).setCell ⟨blk, off + i, none⟩ (.int .u8 (G j))).setCell ⟨blk, off + j, none⟩ (.int .u8 (G i)))) := hide fun q => by
                  rw [unhide HG, unhide HG]
                  exact ((unhide HR3).drewN q).swap i j (by rw [unhide HS]; omega) (by rw [unhide HS]; omega)
                go_loopw [10, 11] (fun vi vj wr => ∃ (i0 j0 : Nat) (dk : Array Int), vi = .int .i64 i0 ∧ vj = .int .i64 j0 ∧ a < i0 ∧ i0 ≤ j0 + 1 ∧ j0 < n ∧ Hid (dk.size = n) ∧ Hid (URow w0 blk off dk wr) ∧ Hid (partLoop ltInt a i0 j0 dk = r0)) (fun vi vj _ => (intOf vj).toNat + 1 - (intOf vi).toNat)
                case atStart => exact ⟨i + 1, j - 1, _, by congr 1, by congr 1; omega, by omega, by omega, by omega, hide (by rw [size_swp]; exact unhide HS), hide (unhide HR0 1), hide hr0⟩
                case round =>
                  clear HR0 HG HS HR3 HE1 HDK HI HJ hr0 hcx hfx HPI
                  obtain ⟨i0, j0, dk, rfl, rfl, hi0, hij0, hj0, HS, HR0, HK⟩ := hrel
                  go_wp2
                  go_loopw [10] (fun v wr => ∃ i : Nat, v = .int .i64 i ∧ i0 ≤ i ∧ i ≤ j0 + 1 ∧ Hid (URow w0 blk off dk wr) ∧ Hid (scanUp (fun x => ltInt x dk[a]!) dk j0 i = scanUp (fun x => ltInt x dk[a]!) dk j0 i0)) (fun v _ => j0 + 1 - (intOf v).toNat)
                  case atStart => exact ⟨i0, rfl, Nat.le_refl _, hij0, HR0, hide rfl⟩
                  case round =>
                    obtain ⟨i, rfl, hii, hij1, HR, HD⟩ := hrel
                    obtain ⟨G, hG, hU⟩ := (unhide HR).cells
                    rw [unhide HS] at hU
                    have hcw := hU.c
                    have hfw := hU.f
                    have HG := hide hG
                    clear hG hU
                    go_wp2
                    by_cases hle : i ≤ j0
                    · go_quiet (first | (go_at_call 78; refine Calls.quiet_of_same (lessByte_any _ _ _)))
                      go_wp2
                      · have hl : ltInt (G i) (G a) = true := by assumption
                        go_roundw
                        case rel =>
                          refine ⟨i + 1, by congr 1, by omega, by omega, hide ((unhide HR).drewN nq), hide ?_⟩
                          rw [← unhide HD]
                          exact (scanUp_go hle (by simpa only [← unhide HG] using hl)).symm
                        case measure => simp [intOf]; omega
                      · rename ltInt (G i) (G a) = false => hl
                        have HI : Hid (scanUp (fun x => ltInt x dk[a]!) dk j0 i0 = i) := hide (by rw [← unhide HD]; exact scanUp_stop (Or.inr (by simpa only [← unhide HG] using hl)))
                        have HPI : Hid ((fun x => ltInt x dk[a]!) dk[i]! = false) := hide (by simpa only [← unhide HG] using hl)
                        have HR2 : Hid (URow w0 blk off dk (wr.drewN nq)) := hide ((unhide HR).drewN nq)
                        clear HD HR hl hcw hfw HG
                        generalize wr.drewN nq = wy at *
                        go_loopw [11] (fun v wr => ∃ j : Nat, v = .int .i64 j ∧ i ≤ j + 1 ∧ j ≤ j0 ∧ Hid (URow w0 blk off dk wr) ∧ Hid (scanDown (fun x => !ltInt x dk[a]!) dk i j = scanDown (fun x => !ltInt x dk[a]!) dk i j0)) (fun v _ => (intOf v).toNat)
                        case atStart => exact ⟨j0, rfl, by omega, Nat.le_refl _, HR2, hide rfl⟩
                        case round =>
                          obtain ⟨j, rfl, hij, hjj, HR, HD⟩ := hrel
                          obtain ⟨G, hG, hU⟩ := (unhide HR).cells
                          rw [unhide HS] at hU
                          have hcw := hU.c
                          have hfw := hU.f
                          have HG := hide hG
                          clear hG hU
                          go_wp2
                          by_cases hle : i ≤ j
                          · go_quiet (first | (go_at_call 78; refine Calls.quiet_of_same (lessByte_any _ _ _)))
                            go_wp2
                            · have hl : (!ltInt (G j) (G a)) = true := by assumption
                              go_roundw
                              case rel =>
                                refine ⟨j - 1, by congr 1; omega, by omega, by omega, hide ((unhide HR).drewN nq), hide ?_⟩
                                rw [← unhide HD]
                                exact (scanDown_go (by omega) hle (by simpa only [← unhide HG] using hl)).symm
                              case measure => simp [intOf]; omega
                            · rename (!ltInt (G j) (G a)) = false => hl
                              have HJ : Hid (scanDown (fun x => !ltInt x dk[a]!) dk i j0 = j) := hide (by rw [← unhide HD]; exact scanDown_stop (Or.inr (by simpa only [← unhide HG] using hl)))
                              have hlt : i < j := by
                                have h1 := unhide HPI
                                have h2 : (fun x => !ltInt x dk[a]!) dk[j]! = false := by simpa only [← unhide HG] using hl
                                rcases Nat.lt_or_ge i j with h3 | h3
                                · exact h3
                                · obtain rfl : i = j := by omega
                                  simp at h1 h2
                                  simp [h1] at h2
                              have HR3 : Hid (URow w0 blk off dk (wr.drewN nq)) := hide ((unhide HR).drewN nq)
                              have hcx : ∀ t, t < n → (wr.drewN nq).cell? ⟨blk, off + t, none⟩ = some (.int .u8 (G t)) := hcw
                              have hfx : ∀ t, t < n → (wr.drewN nq).frozen? ⟨blk, off + t, none⟩ = false := hfw
                              clear hcw hfw HD HR hl
                              generalize wr.drewN nq = wz at *
                              go_wp2
                              go_region
                              all_goals go_wp2
                              go_roundw
                              case rel =>
                                refine ⟨i + 1, j - 1, swp dk i j, by congr 1, by congr 1; omega, by omega, by omega, by omega, hide (by rw [size_swp]; exact unhide HS), ?_, ?_⟩
                                · rw [unhide HG, unhide HG]
                                  exact hide (((unhide HR3).drewN _).swap i j (by rw [unhide HS]; omega) (by rw [unhide HS]; omega))
                                · refine hide ?_
                                  have he := unhide HK
                                  rw [partLoop_eq, unhide HI, unhide HJ, if_neg (by omega)] at he
                                  exact he
                              case measure => simp [intOf]; omega
                          · go_quiet (first | (go_at_call 78; refine Calls.quiet_of_same (lessByte_any _ _ _)))
                            go_wp2
                            have HJ : Hid (scanDown (fun x => !ltInt x dk[a]!) dk i j0 = j) := hide (by rw [← unhide HD]; exact scanDown_stop (Or.inl (by omega)))
                            have HR3 : Hid (URow w0 blk off dk (wr.drewN nq)) := hide ((unhide HR).drewN nq)
                            have hcx : ∀ t, t < n → (wr.drewN nq).cell? ⟨blk, off + t, none⟩ = some (.int .u8 (G t)) := hcw
                            have hfx : ∀ t, t < n → (wr.drewN nq).frozen? ⟨blk, off + t, none⟩ = false := hfw
                            clear hcw hfw HD HR
                            generalize wr.drewN nq = wz at *
                            have haj : a ≤ j := by omega
                            go_wp2
                            rcases Nat.eq_or_lt_of_le haj with hja | hja
                            · have hja2 : j = a := hja.symm
                              rw [hja2]
                              have HJA := hide hja2
                              clear hja hja2
                              go_region
                              go_wp2
                              go_ret2
                              have he := unhide HK
                              rw [partLoop_eq, unhide HI, unhide HJ, if_pos (by omega)] at he
                              have hf := unhide HE2
                              rw [← he] at hf
                              rw [hf, unhide HJA]
                              refine ⟨rfl, ?_⟩
                              rw [unhide HG]
                              exact ((unhide HR3).drewN 1).swap a a (by rw [unhide HS]; omega) (by rw [unhide HS]; omega)
                            · go_region
                              go_wp2
                              go_ret2
                              have he := unhide HK
                              rw [partLoop_eq, unhide HI, unhide HJ, if_pos (by omega)] at he
                              have hf := unhide HE2
                              rw [← he] at hf
                              rw [hf]
                              refine ⟨rfl, ?_⟩
                              rw [unhide HG, unhide HG]
                              exact ((unhide HR3).drewN 1).swap j a (by rw [unhide HS]; omega) (by rw [unhide HS]; omega)
                    · go_quiet (first | (go_at_call 78; refine Calls.quiet_of_same (lessByte_any _ _ _)))
                      go_wp2
                      have HI : Hid (scanUp (fun x => ltInt x dk[a]!) dk j0 i0 = i) := hide (by rw [← unhide HD]; exact scanUp_stop (Or.inl (by omega)))
                      have HR2 : Hid (URow w0 blk off dk (wr.drewN nq)) := hide ((unhide HR).drewN nq)
                      clear HD HR hcw hfw HG
                      generalize wr.drewN nq = wy at *
                      go_loopw [11] (fun v wr => v = .int .i64 j0 ∧ Hid (URow w0 blk off dk wr)) (fun v _ => 0)
                      case atStart => exact ⟨rfl, HR2⟩
                      case round =>
                        obtain ⟨rfl, HR⟩ := hrel
                        obtain ⟨G, hG, hU⟩ := (unhide HR).cells
                        rw [unhide HS] at hU
                        have hcw := hU.c
                        have hfw := hU.f
                        have HG := hide hG
                        clear hG hU
                        go_wp2
                        go_quiet (first | (go_at_call 78; refine Calls.quiet_of_same (lessByte_any _ _ _)))
                        go_wp2
                        have HJ : Hid (scanDown (fun x => !ltInt x dk[a]!) dk i j0 = j0) := hide (scanDown_stop (Or.inl (by omega)))
                        obtain ⟨j, hj⟩ : ∃ j, j = j0 := ⟨_, rfl⟩
                        have HR3 : Hid (URow w0 blk off dk (wr.drewN nq)) := hide ((unhide HR).drewN nq)
                        have hcx : ∀ t, t < n → (wr.drewN nq).cell? ⟨blk, off + t, none⟩ = some (.int .u8 (G t)) := hcw
                        have hfx : ∀ t, t < n → (wr.drewN nq).frozen? ⟨blk, off + t, none⟩ = false := hfw
                        clear hcw hfw HR
                        generalize wr.drewN nq = wz at *
                        have haj : a ≤ j0 := by omega
                        go_wp2
                        rcases Nat.eq_or_lt_of_le haj with hja | hja
                        · have hja2 : j0 = a := hja.symm
                          rw [hja2]
                          have HJA := hide hja2
                          clear hja hja2
                          go_region
                          go_wp2
                          go_ret2
                          have he := unhide HK
                          rw [partLoop_eq, unhide HI, unhide HJ, if_pos (by omega)] at he
                          have hf := unhide HE2
                          rw [← he] at hf
                          rw [hf, unhide HJA]
                          refine ⟨rfl, ?_⟩
                          rw [unhide HG]
                          exact ((unhide HR3).drewN 1).swap a a (by rw [unhide HS]; omega) (by rw [unhide HS]; omega)
                        · go_region
                          go_wp2
                          go_ret2
                          have he := unhide HK
                          rw [partLoop_eq, unhide HI, unhide HJ, if_pos (by omega)] at he
                          have hf := unhide HE2
                          rw [← he] at hf
                          rw [hf]
                          refine ⟨rfl, ?_⟩
                          rw [unhide HG, unhide HG]
                          exact ((unhide HR3).drewN 1).swap j0 a (by rw [unhide HS]; omega) (by rw [unhide HS]; omega)
            · go_quiet (first | (go_at_call 78; refine Calls.quiet_of_same (lessByte_any _ _ _)))
              go_wp2
              have HJ : Hid (scanDown (fun x => !ltInt x dk[a]!) dk i j0 = j) := hide (by rw [← unhide HD]; exact scanDown_stop (Or.inl (by omega)))
              have HR3 : Hid (URow w0 blk off dk (wr.drewN nq)) := hide ((unhide HR).drewN nq)
              have hcx : ∀ t, t < n → (wr.drewN nq).cell? ⟨blk, off + t, none⟩ = some (.int .u8 (G t)) := hcw
              have hfx : ∀ t, t < n → (wr.drewN nq).frozen? ⟨blk, off + t, none⟩ = false := hfw
              clear hcw hfw HD HR
              generalize wr.drewN nq = wz at *
              have haj : a ≤ j := by omega
              go_wp2
              rcases Nat.eq_or_lt_of_le haj with hja | hja
              · have hja2 : j = a := hja.symm
                rw [hja2]
                have HJA := hide hja2
                clear hja hja2
                go_region
                go_wp2
                go_ret2
                have he := (unhide HE1 i j (unhide HDK) (unhide HI) (unhide HJ)).1 (by omega)
                rw [he, unhide HJA]
                refine ⟨rfl, ?_⟩
                rw [unhide HG]
                exact ((unhide HR3).drewN 1).swap a a (by rw [unhide HS]; omega) (by rw [unhide HS]; omega)
              · go_region
                go_wp2
                go_ret2
                have he := (unhide HE1 i j (unhide HDK) (unhide HI) (unhide HJ)).1 (by omega)
                rw [he]
                refine ⟨rfl, ?_⟩
                rw [unhide HG, unhide HG]
                exact ((unhide HR3).drewN 1).swap j a (by rw [unhide HS]; omega) (by rw [unhide HS]; omega)
      · go_quiet (first | (go_at_call 78; refine Calls.quiet_of_same (lessByte_any _ _ _)))
        go_wp2
        have HI : Hid (scanUp (fun x => ltInt x dk[a]!) dk j0 i0 = i) := hide (by rw [← unhide HD]; exact scanUp_stop (Or.inl (by omega)))
        have HR2 : Hid (URow w0 blk off dk (wr.drewN nq)) := hide ((unhide HR).drewN nq)
        clear HD HR hcw hfw HG
        generalize wr.drewN nq = wy at *
        go_loopw [11] (fun v wr => v = .int .i64 j0 ∧ Hid (URow w0 blk off dk wr)) (fun v _ => 0)
        case atStart => exact ⟨rfl, HR2⟩
        case round =>
          obtain ⟨rfl, HR⟩ := hrel
          obtain ⟨G, hG, hU⟩ := (unhide HR).cells
          rw [unhide HS] at hU
          have hcw := hU.c
          have hfw := hU.f
          have HG := hide hG
          clear hG hU
          go_wp2
          go_quiet (first | (go_at_call 78; refine Calls.quiet_of_same (lessByte_any _ _ _)))
          go_wp2
          have HJ : Hid (scanDown (fun x => !ltInt x dk[a]!) dk i j0 = j0) := hide (scanDown_stop (Or.inl (by omega)))
          obtain ⟨j, hj⟩ : ∃ j, j = j0 := ⟨_, rfl⟩
          have HR3 : Hid (URow w0 blk off dk (wr.drewN nq)) := hide ((unhide HR).drewN nq)
          have hcx : ∀ t, t < n → (wr.drewN nq).cell? ⟨blk, off + t, none⟩ = some (.int .u8 (G t)) := hcw
          have hfx : ∀ t, t < n → (wr.drewN nq).frozen? ⟨blk, off + t, none⟩ = false := hfw
          clear hcw hfw HR
          generalize wr.drewN nq = wz at *
          have haj : a ≤ j0 := by omega
          go_wp2
          rcases Nat.eq_or_lt_of_le haj with hja | hja
          · have hja2 : j0 = a := hja.symm
            rw [hja2]
            have HJA := hide hja2
            clear hja hja2
            go_region
            go_wp2
            go_ret2
            have he := (unhide HE1 i j0 (unhide HDK) (unhide HI) (unhide HJ)).1 (by omega)
            rw [he, unhide HJA]
            refine ⟨rfl, ?_⟩
            rw [unhide HG]
            exact ((unhide HR3).drewN 1).swap a a (by rw [unhide HS]; omega) (by rw [unhide HS]; omega)
          · go_region
            go_wp2
            go_ret2
            have he := (unhide HE1 i j0 (unhide HDK) (unhide HI) (unhide HJ)).1 (by omega)
            rw [he]
            refine ⟨rfl, ?_⟩
            rw [unhide HG, unhide HG]
            exact ((unhide HR3).drewN 1).swap j0 a (by rw [unhide HS]; omega) (by rw [unhide HS]; omega)
  · skip
    go_region
    go_wp2
    have HR0 : Hid (URow w0 blk off (swp d a p) (((w.setCell ⟨blk, off + a, none⟩ (.int .u8 (G p))).setCell ⟨blk, off + p, none⟩ (.int .u8 (G a))).drewN 1)) := hide (by
      rw [unhide HG, unhide HG]
      exact ((unhide H).swap a p (by rw [unhide HN]; omega) (by rw [unhide HN]; omega)).drewN 1)
    have HS : Hid ((swp d a p).size = n) := hide (by rw [size_swp]; exact unhide HN)
    clear H HN hcw hfw HG
    have HR0' : Hid (URow w0 blk off (swp d a p) ((w.setCell ⟨blk, off + a, none⟩ (.int .u8 (G p))).setCell ⟨blk, off + p, none⟩ (.int .u8 (G a))).drew) := HR0
    clear HR0
    have HR0 := HR0'
    clear HR0'
    generalize ((w.setCell ⟨blk, off + a, none⟩ (.int .u8 (G p))).setCell ⟨blk, off + p, none⟩ (.int .u8 (G a))).drew = wx at *
    obtain ⟨dk, hdk⟩ : ∃ dk, swp d a p = dk := ⟨_, rfl⟩
    have HDK := hide hdk
    rw [hdk] at HR0 HS
    have HE1 := hide (unhide HE dk)
    clear hdk HE
    go_loopw [10] (fun v wr => ∃ i : Nat, v = .int .i64 i ∧ i0 ≤ i ∧ i ≤ j0 + 1 ∧ Hid (URow w0 blk off dk wr) ∧ Hid (scanUp (fun x => ltInt x dk[a]!) dk j0 i = scanUp (fun x => ltInt x dk[a]!) dk j0 i0)) (fun v _ => j0 + 1 - (intOf v).toNat)
    case atStart => exact ⟨i0, rfl, Nat.le_refl _, hij0, HR0, hide rfl⟩
    case round =>
      obtain ⟨i, rfl, hii, hij1, HR, HD⟩ := hrel
      obtain ⟨G, hG, hU⟩ := (unhide HR).cells
      rw [unhide HS] at hU
      have hcw := hU.c
      have hfw := hU.f
      have HG := hide hG
      clear hG hU
      go_wp2
      by_cases hle : i ≤ j0
      · go_quiet (first | (go_at_call 78; refine Calls.quiet_of_same (lessByte_any _ _ _)))
        go_wp2
        · have hl : ltInt (G i) (G a) = true := by assumption
          go_roundw
          case rel =>
            refine ⟨i + 1, by congr 1, by omega, by omega, hide ((unhide HR).drewN nq), hide ?_⟩
            rw [← unhide HD]
            exact (scanUp_go hle (by simpa only [← unhide HG] using hl)).symm
          case measure => simp [intOf]; omega
        · rename ltInt (G i) (G a) = false => hl
          have HI : Hid (scanUp (fun x => ltInt x dk[a]!) dk j0 i0 = i) := hide (by rw [← unhide HD]; exact scanUp_stop (Or.inr (by simpa only [← unhide HG] using hl)))
          have HPI : Hid ((fun x => ltInt x dk[a]!) dk[i]! = false) := hide (by simpa only [← unhide HG] using hl)
          have HR2 : Hid (URow w0 blk off dk (wr.drewN nq)) := hide ((unhide HR).drewN nq)
          clear HD HR hl hcw hfw HG
          generalize wr.drewN nq = wy at *
          go_loopw [11] (fun v wr => ∃ j : Nat, v = .int .i64 j ∧ i ≤ j + 1 ∧ j ≤ j0 ∧ Hid (URow w0 blk off dk wr) ∧ Hid (scanDown (fun x => !ltInt x dk[a]!) dk i j = scanDown (fun x => !ltInt x dk[a]!) dk i j0)) (fun v _ => (intOf v).toNat)
          case atStart => exact ⟨j0, rfl, by omega, Nat.le_refl _, HR2, hide rfl⟩
          case round =>
            obtain ⟨j, rfl, hij, hjj, HR, HD⟩ := hrel
            obtain ⟨G, hG, hU⟩ := (unhide HR).cells
            rw [unhide HS] at hU
            have hcw := hU.c
            have hfw := hU.f
            have HG := hide hG
            clear hG hU
            go_wp2
            by_cases hle : i ≤ j
            · go_quiet (first | (go_at_call 78; refine Calls.quiet_of_same (lessByte_any _ _ _)))
              go_wp2
              · have hl : (!ltInt (G j) (G a)) = true := by assumption
                go_roundw
                case rel =>
                  refine ⟨j - 1, by congr 1; omega, by omega, by omega, hide ((unhide HR).drewN nq), hide ?_⟩
                  rw [← unhide HD]
                  exact (scanDown_go (by omega) hle (by simpa only [← unhide HG] using hl)).symm
                case measure => simp [intOf]; omega
              · rename (!ltInt (G j) (G a)) = false => hl
                have HJ : Hid (scanDown (fun x => !ltInt x dk[a]!) dk i j0 = j) := hide (by rw [← unhide HD]; exact scanDown_stop (Or.inr (by simpa only [← unhide HG] using hl)))
                have hlt : i < j := by
                  have h1 := unhide HPI
                  have h2 : (fun x => !ltInt x dk[a]!) dk[j]! = false := by simpa only [← unhide HG] using hl
                  rcases Nat.lt_or_ge i j with h3 | h3
                  · exact h3
                  · obtain rfl : i = j := by omega
                    simp at h1 h2
                    simp [h1] at h2
                have HR3 : Hid (URow w0 blk off dk (wr.drewN nq)) := hide ((unhide HR).drewN nq)
                have hcx : ∀ t, t < n → (wr.drewN nq).cell? ⟨blk, off + t, none⟩ = some (.int .u8 (G t)) := hcw
                have hfx : ∀ t, t < n → (wr.drewN nq).frozen? ⟨blk, off + t, none⟩ = false := hfw
                clear hcw hfw HD HR hl
                generalize wr.drewN nq = wz at *
                go_wp2
                go_region
                all_goals go_wp2
                generalize decide (j < i) = bq
                obtain ⟨r0, hr0⟩ : ∃ r0, partLoop ltInt a (i + 1) (j - 1) (swp dk i j) = r0 := ⟨_, rfl⟩
                have HE2 : Hid (partition ltInt d a b p = (r0.1, false, swp r0.2 r0.1 a)) := hide (by rw [← hr0]; exact (unhide HE1 i j (unhide HDK) (unhide HI) (unhide HJ)).2 (by omega))
                have HR0 : Hid (∀ q, URow w0 blk off (swp dk i j) (((wz.drewN q).setCell ⟨blk, off + i, none⟩ (.int .u8 (G j))).setCell ⟨blk, off + j, none⟩ (.int .u8 (G i)))) := hide fun q => by
                  rw [unhide HG, unhide HG]
                  exact ((unhide HR3).drewN q).swap i j (by rw [unhide HS]; omega) (by rw [unhide HS]; omega)
                go_loopw [10, 11] (fun vi vj wr => ∃ (i0 j0 : Nat) (dk : Array Int), vi = .int .i64 i0 ∧ vj = .int .i64 j0 ∧ a < i0 ∧ i0 ≤ j0 + 1 ∧ j0 < n ∧ Hid (dk.size = n) ∧ Hid (URow w0 blk off dk wr) ∧ Hid (partLoop ltInt a i0 j0 dk = r0)) (fun vi vj _ => (intOf vj).toNat + 1 - (intOf vi).toNat)
                case atStart => exact ⟨i + 1, j - 1, _, by congr 1, by congr 1; omega, by omega, by omega, by omega, hide (by rw [size_swp]; exact unhide HS), hide (unhide HR0 1), hide hr0⟩
                case round =>
                  clear HR0 HG HS HR3 HE1 HDK HI HJ hr0 hcx hfx HPI
                  obtain ⟨i0, j0, dk, rfl, rfl, hi0, hij0, hj0, HS, HR0, HK⟩ := hrel
                  go_wp2
                  go_loopw [10] (fun v wr => ∃ i : Nat, v = .int .i64 i ∧ i0 ≤ i ∧ i ≤ j0 + 1 ∧ Hid (URow w0 blk off dk wr) ∧ Hid (scanUp (fun x => ltInt x dk[a]!) dk j0 i = scanUp (fun x => ltInt x dk[a]!) dk j0 i0)) (fun v _ => j0 + 1 - (intOf v).toNat)
                  case atStart => exact ⟨i0, rfl, Nat.le_refl _, hij0, HR0, hide rfl⟩
                  case round =>
                    obtain ⟨i, rfl, hii, hij1, HR, HD⟩ := hrel
                    obtain ⟨G, hG, hU⟩ := (unhide HR).cells
                    rw [unhide HS] at hU
                    have hcw := hU.c
                    have hfw := hU.f
                    have HG := hide hG
                    clear hG hU
                    go_wp2
                    by_cases hle : i ≤ j0
                    · go_quiet (first | (go_at_call 78; refine Calls.quiet_of_same (lessByte_any _ _ _)))
                      go_wp2
                      · have hl : ltInt (G i) (G a) = true := by assumption
                        go_roundw
                        case rel =>
                          refine ⟨i + 1, by congr 1, by omega, by omega, hide ((unhide HR).drewN nq), hide ?_⟩
                          rw [← unhide HD]
                          exact (scanUp_go hle (by simpa only [← unhide HG] using hl)).symm
                        case measure => simp [intOf]; omega
                      · rename ltInt (G i) (G a) = false => hl
                        have HI : Hid (scanUp (fun x => ltInt x dk[a]!) dk j0 i0 = i) := hide (by rw [← unhide HD]; exact scanUp_stop (Or.inr (by simpa only [← unhide HG] using hl)))
                        have HPI : Hid ((fun x => ltInt x dk[a]!) dk[i]! = false) := hide (by simpa only [← unhide HG] using hl)
                        have HR2 : Hid (URow w0 blk off dk (wr.drewN nq)) := hide ((unhide HR).drewN nq)
                        clear HD HR hl hcw hfw HG
                        generalize wr.drewN nq = wy at *
                        go_loopw [11] (fun v wr => ∃ j : Nat, v = .int .i64 j ∧ i ≤ j + 1 ∧ j ≤ j0 ∧ Hid (URow w0 blk off dk wr) ∧ Hid (scanDown (fun x => !ltInt x dk[a]!) dk i j = scanDown (fun x => !ltInt x dk[a]!) dk i j0)) (fun v _ => (intOf v).toNat)
                        case atStart => exact ⟨j0, rfl, by omega, Nat.le_refl _, HR2, hide rfl⟩
                        case round =>
                          obtain ⟨j, rfl, hij, hjj, HR, HD⟩ := hrel
                          obtain ⟨G, hG, hU⟩ := (unhide HR).cells
                          rw [unhide HS] at hU
                          have hcw := hU.c
                          have hfw := hU.f
                          have HG := hide hG
                          clear hG hU
                          go_wp2
                          by_cases hle : i ≤ j
                          · go_quiet (first | (go_at_call 78; refine Calls.quiet_of_same (lessByte_any _ _ _)))
                            go_wp2
                            · have hl : (!ltInt (G j) (G a)) = true := by assumption
                              go_roundw
                              case rel =>
                                refine ⟨j - 1, by congr 1; omega, by omega, by omega, hide ((unhide HR).drewN nq), hide ?_⟩
                                rw [← unhide HD]
                                exact (scanDown_go (by omega) hle (by simpa only [← unhide HG] using hl)).symm
                              case measure => simp [intOf]; omega
                            · rename (!ltInt (G j) (G a)) = false => hl
                              have HJ : Hid (scanDown (fun x => !ltInt x dk[a]!) dk i j0 = j) := hide (by rw [← unhide HD]; exact scanDown_stop (Or.inr (by simpa only [← unhide HG] using hl)))
                              have hlt : i < j := by
                                have h1 := unhide HPI
                                have h2 : (fun x => !ltInt x dk[a]!) dk[j]! = false := by simpa only [← unhide HG] using hl
                                rcases Nat.lt_or_ge i j with h3 | h3
                                · exact h3
                                · obtain rfl : i = j := by omega
                                  simp at h1 h2
                                  simp [h1] at h2
                              have HR3 : Hid (URow w0 blk off dk (wr.drewN nq)) := hide ((unhide HR).drewN nq)
                              have hcx : ∀ t, t < n → (wr.drewN nq).cell? ⟨blk, off + t, none⟩ = some (.int .u8 (G t)) := hcw
                              have hfx : ∀ t, t < n → (wr.drewN nq).frozen? ⟨blk, off + t, none⟩ = false := hfw
                              clear hcw hfw HD HR hl
                              generalize wr.drewN nq = wz at *
                              go_wp2
                              go_region
                              all_goals go_wp2
                              go_roundw
                              case rel =>
                                refine ⟨i + 1, j - 1, swp dk i j, by congr 1, by congr 1; omega, by omega, by omega, by omega, hide (by rw [size_swp]; exact unhide HS), ?_, ?_⟩
                                · rw [unhide HG, unhide HG]
                                  exact hide (((unhide HR3).drewN _).swap i j (by rw [unhide HS]; omega) (by rw [unhide HS]; omega))
                                · refine hide ?_
                                  have he := unhide HK
                                  rw [partLoop_eq, unhide HI, unhide HJ, if_neg (by omega)] at he
                                  exact he
                              case measure => simp [intOf]; omega
                          · go_quiet (first | (go_at_call 78; refine Calls.quiet_of_same (lessByte_any _ _ _)))
                            go_wp2
                            have HJ : Hid (scanDown (fun x => !ltInt x dk[a]!) dk i j0 = j) := hide (by rw [← unhide HD]; exact scanDown_stop (Or.inl (by omega)))
                            have HR3 : Hid (URow w0 blk off dk (wr.drewN nq)) := hide ((unhide HR).drewN nq)
                            have hcx : ∀ t, t < n → (wr.drewN nq).cell? ⟨blk, off + t, none⟩ = some (.int .u8 (G t)) := hcw
                            have hfx : ∀ t, t < n → (wr.drewN nq).frozen? ⟨blk, off + t, none⟩ = false := hfw
                            clear hcw hfw HD HR
                            generalize wr.drewN nq = wz at *
                            have haj : a ≤ j := by omega
                            go_wp2
                            rcases Nat.eq_or_lt_of_le haj with hja | hja
                            · have hja2 : j = a := hja.symm
                              rw [hja2]
                              have HJA := hide hja2
                              clear hja hja2
                              go_region
                              go_wp2
                              go_ret2
                              have he := unhide HK
                              rw [partLoop_eq, unhide HI, unhide HJ, if_pos (by omega)] at he
                              have hf := unhide HE2
                              rw [← he] at hf
                              rw [hf, unhide HJA]
                              refine ⟨rfl, ?_⟩
                              rw [unhide HG]
                              exact ((unhide HR3).drewN 1).swap a a (by rw [unhide HS]; omega) (by rw [unhide HS]; omega)
                            · go_region
                              go_wp2
                              go_ret2
                              have he := unhide HK
                              rw [partLoop_eq, unhide HI, unhide HJ, if_pos (by omega)] at he
                              have hf := unhide HE2
                              rw [← he] at hf
                              rw [hf]
                              refine ⟨rfl, ?_⟩
                              rw [unhide HG, unhide HG]
                              exact ((unhide HR3).drewN 1).swap j a (by rw [unhide HS]; omega) (by rw [unhide HS]; omega)
                    · go_quiet (first | (go_at_call 78; refine Calls.quiet_of_same (lessByte_any _ _ _)))
                      go_wp2
                      have HI : Hid (scanUp (fun x => ltInt x dk[a]!) dk j0 i0 = i) := hide (by rw [← unhide HD]; exact scanUp_stop (Or.inl (by omega)))
                      have HR2 : Hid (URow w0 blk off dk (wr.drewN nq)) := hide ((unhide HR).drewN nq)
                      clear HD HR hcw hfw HG
                      generalize wr.drewN nq = wy at *
                      go_loopw [11] (fun v wr => v = .int .i64 j0 ∧ Hid (URow w0 blk off dk wr)) (fun v _ => 0)
                      case atStart => exact ⟨rfl, HR2⟩
                      case round =>
                        obtain ⟨rfl, HR⟩ := hrel
                        obtain ⟨G, hG, hU⟩ := (unhide HR).cells
                        rw [unhide HS] at hU
                        have hcw := hU.c
                        have hfw := hU.f
                        have HG := hide hG
                        clear hG hU
                        go_wp2
                        go_quiet (first | (go_at_call 78; refine Calls.quiet_of_same (lessByte_any _ _ _)))
                        go_wp2
                        have HJ : Hid (scanDown (fun x => !ltInt x dk[a]!) dk i j0 = j0) := hide (scanDown_stop (Or.inl (by omega)))
                        obtain ⟨j, hj⟩ : ∃ j, j = j0 := ⟨_, rfl⟩
                        have HR3 : Hid (URow w0 blk off dk (wr.drewN nq)) := hide ((unhide HR).drewN nq)
                        have hcx : ∀ t, t < n → (wr.drewN nq).cell? ⟨blk, off + t, none⟩ = some (.int .u8 (G t)) := hcw
                        have hfx : ∀ t, t < n → (wr.drewN nq).frozen? ⟨blk, off + t, none⟩ = false := hfw
                        clear hcw hfw HR
                        generalize wr.drewN nq = wz at *
                        have haj : a ≤ j0 := by omega
                        go_wp2
                        rcases Nat.eq_or_lt_of_le haj with hja | hja
                        · have hja2 : j0 = a := hja.symm
                          rw [hja2]
                          have HJA := hide hja2
                          clear hja hja2
                          go_region
                          go_wp2
                          go_ret2
                          have he := unhide HK
                          rw [partLoop_eq, unhide HI, unhide HJ, if_pos (by omega)] at he
                          have hf := unhide HE2
                          rw [← he] at hf
                          rw [hf, unhide HJA]
                          refine ⟨rfl, ?_⟩
                          rw [unhide HG]
                          exact ((unhide HR3).drewN 1).swap a a (by rw [unhide HS]; omega) (by rw [unhide HS]; omega)
                        · go_region
                          go_wp2
                          go_ret2
                          have he := unhide HK
                          rw [partLoop_eq, unhide HI, unhide HJ, if_pos (by omega)] at he
                          have hf := unhide HE2
                          rw [← he] at hf
                          rw [hf]
                          refine ⟨rfl, ?_⟩
                          rw [unhide HG, unhide HG]
                          exact ((unhide HR3).drewN 1).swap j0 a (by rw [unhide HS]; omega) (by rw [unhide HS]; omega)
            · go_quiet (first | (go_at_call 78; refine Calls.quiet_of_same (lessByte_any _ _ _)))
              go_wp2
              have HJ : Hid (scanDown (fun x => !ltInt x dk[a]!) dk i j0 = j) := hide (by rw [← unhide HD]; exact scanDown_stop (Or.inl (by omega)))
              have HR3 : Hid (URow w0 blk off dk (wr.drewN nq)) := hide ((unhide HR).drewN nq)
              have hcx : ∀ t, t < n → (wr.drewN nq).cell? ⟨blk, off + t, none⟩ = some (.int .u8 (G t)) := hcw
              have hfx : ∀ t, t < n → (wr.drewN nq).frozen? ⟨blk, off + t, none⟩ = false := hfw
              clear hcw hfw HD HR
              generalize wr.drewN nq = wz at *
              have haj : a ≤ j := by omega
              go_wp2
              rcases Nat.eq_or_lt_of_le haj with hja | hja
              · have hja2 : j = a := hja.symm
                rw [hja2]
                have HJA := hide hja2
                clear hja hja2
                go_region
                go_wp2
                go_ret2
                have he := (unhide HE1 i j (unhide HDK) (unhide HI) (unhide HJ)).1 (by omega)
                rw [he, unhide HJA]
                refine ⟨rfl, ?_⟩
                rw [unhide HG]
                exact ((unhide HR3).drewN 1).swap a a (by rw [unhide HS]; omega) (by rw [unhide HS]; omega)
              · go_region
                go_wp2
                go_ret2
                have he := (unhide HE1 i j (unhide HDK) (unhide HI) (unhide HJ)).1 (by omega)
                rw [he]
                refine ⟨rfl, ?_⟩
                rw [unhide HG, unhide HG]
                exact ((unhide HR3).drewN 1).swap j a (by rw [unhide HS]; omega) (by rw [unhide HS]; omega)
      · go_quiet (first | (go_at_call 78; refine Calls.quiet_of_same (lessByte_any _ _ _)))
        go_wp2
        have HI : Hid (scanUp (fun x => ltInt x dk[a]!) dk j0 i0 = i) := hide (by rw [← unhide HD]; exact scanUp_stop (Or.inl (by omega)))
        have HR2 : Hid (URow w0 blk off dk (wr.drewN nq)) := hide ((unhide HR).drewN nq)
        clear HD HR hcw hfw HG
        generalize wr.drewN nq = wy at *
        go_loopw [11] (fun v wr => v = .int .i64 j0 ∧ Hid (URow w0 blk off dk wr)) (fun v _ => 0)
        case atStart => exact ⟨rfl, HR2⟩
        case round =>
          obtain ⟨rfl, HR⟩ := hrel
          obtain ⟨G, hG, hU⟩ := (unhide HR).cells
          rw [unhide HS] at hU
          have hcw := hU.c
          have hfw := hU.f
          have HG := hide hG
          clear hG hU
          go_wp2
          go_quiet (first | (go_at_call 78; refine Calls.quiet_of_same (lessByte_any _ _ _)))
          go_wp2
          have HJ : Hid (scanDown (fun x => !ltInt x dk[a]!) dk i j0 = j0) := hide (scanDown_stop (Or.inl (by omega)))
          obtain ⟨j, hj⟩ : ∃ j, j = j0 := ⟨_, rfl⟩
          have HR3 : Hid (URow w0 blk off dk (wr.drewN nq)) := hide ((unhide HR).drewN nq)
          have hcx : ∀ t, t < n → (wr.drewN nq).cell? ⟨blk, off + t, none⟩ = some (.int .u8 (G t)) := hcw
          have hfx : ∀ t, t < n → (wr.drewN nq).frozen? ⟨blk, off + t, none⟩ = false := hfw
          clear hcw hfw HR
          generalize wr.drewN nq = wz at *
          have haj : a ≤ j0 := by omega
          go_wp2
          rcases Nat.eq_or_lt_of_le haj with hja | hja
          · have hja2 : j0 = a := hja.symm
            rw [hja2]
            have HJA := hide hja2
            clear hja hja2
            go_region
            go_wp2
            go_ret2
            have he := (unhide HE1 i j0 (unhide HDK) (unhide HI) (unhide HJ)).1 (by omega)
            rw [he, unhide HJA]
            refine ⟨rfl, ?_⟩
            rw [unhide HG]
            exact ((unhide HR3).drewN 1).swap a a (by rw [unhide HS]; omega) (by rw [unhide HS]; omega)
          · go_region
            go_wp2
            go_ret2
            have he := (unhide HE1 i j0 (unhide HDK) (unhide HI) (unhide HJ)).1 (by omega)
            rw [he]
            refine ⟨rfl, ?_⟩
            rw [unhide HG, unhide HG]
            exact ((unhide HR3).drewN 1).swap j0 a (by rw [unhide HS]; omega) (by rw [unhide HS]; omega)

end Go.Proofs.Ytfpohfifdfbpkaa

namespace Go.Proofs.Ytfpohfifdfbpkaa
open Go.RowKit Go.Shelf Go.Lib Go.Sort

set_option maxHeartbeats 32000000 in
set_option maxRecDepth 100000 in
theorem uPartial (w0 : World) (blk off cap a b n : Nat) (d : Array Int) (w : World) (hn : d.size = n) (h : URow w0 blk off d w) (hab : a < b) (hb : b ≤ n) (hsz : n < 2305843009213693952) :
    Calls Try.prog 77 #[.slice (some ⟨blk, off, none⟩) n cap, .int .i64 a, .int .i64 b] w fun e w' => e = .returned (.bool (partialInsertionSort ltInt d a b).2) ∧ URow w0 blk off (partialInsertionSort ltInt d a b).1 w' := by
  have H := hide h
  have HN := hide hn
  have HE : Hid (partialIns ltInt a b (5 - 0) (a + 1) d = partialInsertionSort ltInt d a b) := hide rfl
  generalize partialInsertionSort ltInt d a b = res at *
  obtain ⟨e, he⟩ : ∃ e, e = b - a := ⟨_, rfl⟩
  have hei : (b : Int) - (a : Int) = (e : Int) := by omega
  clear h hn
  go_enter Try.func77, Try.ntmps77
  go_wp2
  go_loopw [7, 8] (fun v7 v8 wr => ∃ (k i : Nat) (dk : Array Int), v7 = .int .i64 i ∧ v8 = .int .i64 k ∧ k ≤ 5 ∧ a < i ∧ i ≤ b ∧ Hid (dk.size = n) ∧ Hid (URow w0 blk off dk wr) ∧ Hid (partialIns ltInt a b (5 - k) i dk = res)) (fun _ v8 _ => 5 - (intOf v8).toNat)
  case atStart => exact ⟨0, a + 1, d, by go_num, rfl, by omega, by omega, by omega, HN, H, HE⟩
  case round =>
    clear H HN HE
    obtain ⟨k, i0, dk, rfl, rfl, hk, hai, hib, HS, HR0, HK⟩ := hrel
    by_cases hk5 : k < 5
    · go_wp2
      go_loopw [7] (fun v wr => ∃ i : Nat, v = .int .i64 i ∧ i0 ≤ i ∧ i ≤ b ∧ Hid (URow w0 blk off dk wr) ∧ Hid (scanSorted ltInt dk b i = scanSorted ltInt dk b i0)) (fun v _ => b - (intOf v).toNat)
      case atStart => exact ⟨i0, rfl, Nat.le_refl _, hib, HR0, hide rfl⟩
      case round =>
        clear HR0
        obtain ⟨i, rfl, hii, hib2, HR, HD⟩ := hrel
        obtain ⟨G, hG, hU⟩ := (unhide HR).cells
        rw [unhide HS] at hU
        have hcw := hU.c
        have hfw := hU.f
        have HG := hide hG
        clear hG hU
        go_wp2
        by_cases hlt : i < b
        · by_cases h50 : e < 50
          · skip
            go_quiet (first | (go_at_call 78; refine Calls.quiet_of_same (lessByte_any _ _ _)))
            go_wp2
            · rename (!ltInt (G i) (G (i - 1))) = true => hl
              go_roundw
              case rel =>
                refine ⟨i + 1, by congr 1, by omega, by omega, hide ((unhide HR).drewN nq), hide ?_⟩
                rw [← unhide HD]
                conv => rhs; rw [scanSorted, if_pos (by simp only [unhide HG] at hl; simp [hlt]; simpa using hl)]
              case measure => simp [intOf]; omega
            · rename (!ltInt (G i) (G (i - 1))) = false => hl
              have HI : Hid (scanSorted ltInt dk b i0 = i) := hide (by rw [← unhide HD, scanSorted, if_neg (by simp only [unhide HG] at hl; simp [hl])])
              clear hl HD
              go_ret
              have hq := unhide HK
              rw [show 5 - k = (5 - (k + 1)) + 1 by omega, partialIns_succ, unhide HI, if_neg (by omega), if_pos (by omega)] at hq
              rw [← hq]
              exact ⟨rfl, (unhide HR).drewN _⟩
          · skip
            go_quiet (first | (go_at_call 78; refine Calls.quiet_of_same (lessByte_any _ _ _)))
            go_wp2
            · rename (!ltInt (G i) (G (i - 1))) = true => hl
              go_roundw
              case rel =>
                refine ⟨i + 1, by congr 1, by omega, by omega, hide ((unhide HR).drewN nq), hide ?_⟩
                rw [← unhide HD]
                conv => rhs; rw [scanSorted, if_pos (by simp only [unhide HG] at hl; simp [hlt]; simpa using hl)]
              case measure => simp [intOf]; omega
            · rename (!ltInt (G i) (G (i - 1))) = false => hl
              have HI : Hid (scanSorted ltInt dk b i0 = i) := hide (by rw [← unhide HD, scanSorted, if_neg (by simp only [unhide HG] at hl; simp [hl])])
              clear hl HD
              obtain ⟨f, hf⟩ : ∃ f, f = i - a := ⟨_, rfl⟩
              have hfi : (i : Int) - (a : Int) = (f : Int) := by omega
              obtain ⟨g, hg⟩ : ∃ g, g = b - i := ⟨_, rfl⟩
              have hgi : (b : Int) - (i : Int) = (g : Int) := by omega
              by_cases h2 : 2 ≤ f
              · by_cases h3 : 2 ≤ g
                · skip
                  go_region
                  all_goals go_wp2
                  try generalize decide (2 ≤ f) = bq1
                  try generalize decide (2 ≤ g) = bq2
                  have HZ : Hid (URow w0 blk off (swp dk i (i - 1)) (((wr.drewN (nq + 1)).setCell ⟨blk, off + i, none⟩ (.int .u8 (G (i - 1)))).setCell ⟨blk, off + (i - 1), none⟩ (.int .u8 (G i)))) := hide (by
                    rw [unhide HG, unhide HG]
                    exact ((unhide HR).drewN (nq + 1)).swap i (i - 1) (by rw [unhide HS]; omega) (by rw [unhide HS]; omega))
                  clear HR hcw hfw HG
                  generalize (((wr.drewN (nq + 1)).setCell ⟨blk, off + i, none⟩ (.int .u8 (G (i - 1)))).setCell ⟨blk, off + (i - 1), none⟩ (.int .u8 (G i))) = wz at *
                  go_loopw [9] (fun v wr => ∃ (j : Nat) (dj : Array Int), v = .int .i64 j ∧ j < i ∧ Hid (dj.size = n) ∧ Hid (URow w0 blk off dj wr) ∧ Hid (shiftDown ltInt j dj = shiftDown ltInt (i - 1) (swp dk i (i - 1)))) (fun v _ => (intOf v).toNat)
                  case atStart => exact ⟨i - 1, _, by congr 1; omega, by omega, hide (by rw [size_swp]; exact unhide HS), HZ, hide rfl⟩
                  case round =>
                    clear HZ
                    obtain ⟨j, dl, rfl, hj1, HSL, HR, HD⟩ := hrel
                    obtain ⟨G, hG, hU⟩ := (unhide HR).cells
                    rw [unhide HSL] at hU
                    have hcw := hU.c
                    have hfw := hU.f
                    have HG := hide hG
                    clear hG hU
                    by_cases hj0 : 1 ≤ j
                    · go_wp2
                      go_quiet (first | (go_at_call 78; refine Calls.quiet_of_same (lessByte_any _ _ _)))
                      go_wp2
                      · rename (!ltInt (G j) (G (j - 1))) = true => hl
                        have HF : Hid (fixDown ltInt a i (swp dk i (i - 1)) = dl) := hide (by
                          rw [fixDown, if_pos (by omega), ← unhide HD]
                          obtain ⟨q, rfl⟩ : ∃ q, j = q + 1 := ⟨j - 1, by omega⟩
                          have hl2 : (!ltInt (G (q + 1)) (G q)) = true := hl
                          rw [shiftDown, if_pos (by simpa only [← unhide HG] using hl2)])
                        have HR2 : Hid (URow w0 blk off dl (wr.drewN nq)) := hide ((unhide HR).drewN nq)
                        clear hl HR HD HG hcw hfw
                        generalize wr.drewN nq = wz2 at *
                        go_loopw [10] (fun v wr => ∃ (j : Nat) (dj : Array Int), v = .int .i64 j ∧ i + 1 ≤ j ∧ j ≤ b ∧ Hid (dj.size = n) ∧ Hid (URow w0 blk off dj wr) ∧ Hid (shiftUp ltInt b j dj = shiftUp ltInt b (i + 1) dl)) (fun v _ => b - (intOf v).toNat)
                        case atStart => exact ⟨i + 1, dl, by go_num, Nat.le_refl _, by omega, HSL, HR2, hide rfl⟩
                        case round =>
                          obtain ⟨j, dj, rfl, hj1, hj2, HSJ, HR, HD⟩ := hrel
                          obtain ⟨G, hG, hU⟩ := (unhide HR).cells
                          rw [unhide HSJ] at hU
                          have hcw := hU.c
                          have hfw := hU.f
                          have HG := hide hG
                          clear hG hU
                          by_cases hjb : j < b
                          · go_wp2
                            go_quiet (first | (go_at_call 78; refine Calls.quiet_of_same (lessByte_any _ _ _)))
                            go_wp2
                            · rename (!ltInt (G j) (G (j - 1))) = true => hl
                              have HQ : Hid (shiftUp ltInt b (i + 1) dl = dj) := hide (by rw [← unhide HD, shiftUp, if_pos hjb, if_pos (by simpa only [← unhide HG] using hl)])
                              go_roundw
                              case rel =>
                                refine ⟨k + 1, i, dj, rfl, by congr 1, by omega, by omega, by omega, HSJ, hide ((unhide HR).drewN _), hide ?_⟩
                                have he := unhide HK
                                rw [show 5 - k = (5 - (k + 1)) + 1 by omega, partialIns_succ, unhide HI, if_neg (by omega), if_neg (by omega)] at he
                                rw [← he, unhide HF, fixUp, if_pos (by omega), unhide HQ]
                              case measure => simp [intOf]; omega
                            · rename (!ltInt (G j) (G (j - 1))) = false => hl
                              have HL := hide hl
                              clear hl
                              go_region
                              all_goals go_wp2
                              go_roundw
                              case rel =>
                                refine ⟨j + 1, swp dj j (j - 1), by congr 1, by omega, by omega, hide (by rw [size_swp]; exact unhide HSJ), ?_, hide ?_⟩
                                · rw [unhide HG, unhide HG]
                                  exact hide (((unhide HR).drewN _).swap j (j - 1) (by rw [unhide HSJ]; omega) (by rw [unhide HSJ]; omega))
                                · rw [← unhide HD]
                                  conv => rhs; rw [shiftUp, if_pos hjb, if_neg (by have := unhide HL; simp only [unhide HG] at this; simp [this])]
                              case measure => simp [intOf]; omega
                          · go_wp2
                            have HQ : Hid (shiftUp ltInt b (i + 1) dl = dj) := hide (by rw [← unhide HD, shiftUp, if_neg hjb])
                            go_roundw
                            case rel =>
                              refine ⟨k + 1, i, dj, rfl, by congr 1, by omega, by omega, by omega, HSJ, HR, hide ?_⟩
                              have he := unhide HK
                              rw [show 5 - k = (5 - (k + 1)) + 1 by omega, partialIns_succ, unhide HI, if_neg (by omega), if_neg (by omega)] at he
                              rw [← he, unhide HF, fixUp, if_pos (by omega), unhide HQ]
                            case measure => simp [intOf]; omega
                      · rename (!ltInt (G j) (G (j - 1))) = false => hl
                        have HL := hide hl
                        clear hl
                        go_region
                        all_goals go_wp2
                        go_roundw
                        case rel =>
                          refine ⟨j - 1, swp dl j (j - 1), by congr 1; omega, by omega, hide (by rw [size_swp]; exact unhide HSL), ?_, hide ?_⟩
                          · rw [unhide HG, unhide HG]
                            exact hide (((unhide HR).drewN _).swap j (j - 1) (by rw [unhide HSL]; omega) (by rw [unhide HSL]; omega))
                          · rw [← unhide HD]
                            obtain ⟨q, rfl⟩ : ∃ q, j = q + 1 := ⟨j - 1, by omega⟩
                            conv => rhs; rw [shiftDown, if_neg (by have := unhide HL; simp only [unhide HG] at this; simpa using this)]
                            rfl
                        case measure => simp [intOf]; omega
                    · go_wp2
                      have HF : Hid (fixDown ltInt a i (swp dk i (i - 1)) = dl) := hide (by
                          rw [fixDown, if_pos (by omega), ← unhide HD]
                          obtain rfl : j = 0 := by omega
                          rw [shiftDown])
                      have HR2 := HR
                      clear HR HD HG hcw hfw
                      go_loopw [10] (fun v wr => ∃ (j : Nat) (dj : Array Int), v = .int .i64 j ∧ i + 1 ≤ j ∧ j ≤ b ∧ Hid (dj.size = n) ∧ Hid (URow w0 blk off dj wr) ∧ Hid (shiftUp ltInt b j dj = shiftUp ltInt b (i + 1) dl)) (fun v _ => b - (intOf v).toNat)
                      case atStart => exact ⟨i + 1, dl, by go_num, Nat.le_refl _, by omega, HSL, HR2, hide rfl⟩
                      case round =>
                        obtain ⟨j, dj, rfl, hj1, hj2, HSJ, HR, HD⟩ := hrel
                        obtain ⟨G, hG, hU⟩ := (unhide HR).cells
                        rw [unhide HSJ] at hU
                        have hcw := hU.c
                        have hfw := hU.f
                        have HG := hide hG
                        clear hG hU
                        by_cases hjb : j < b
                        · go_wp2
                          go_quiet (first | (go_at_call 78; refine Calls.quiet_of_same (lessByte_any _ _ _)))
                          go_wp2
                          · rename (!ltInt (G j) (G (j - 1))) = true => hl
                            have HQ : Hid (shiftUp ltInt b (i + 1) dl = dj) := hide (by rw [← unhide HD, shiftUp, if_pos hjb, if_pos (by simpa only [← unhide HG] using hl)])
                            go_roundw
                            case rel =>
                              refine ⟨k + 1, i, dj, rfl, by congr 1, by omega, by omega, by omega, HSJ, hide ((unhide HR).drewN _), hide ?_⟩
                              have he := unhide HK
                              rw [show 5 - k = (5 - (k + 1)) + 1 by omega, partialIns_succ, unhide HI, if_neg (by omega), if_neg (by omega)] at he
                              rw [← he, unhide HF, fixUp, if_pos (by omega), unhide HQ]
                            case measure => simp [intOf]; omega
                          · rename (!ltInt (G j) (G (j - 1))) = false => hl
                            have HL := hide hl
                            clear hl
                            go_region
                            all_goals go_wp2
                            go_roundw
                            case rel =>
                              refine ⟨j + 1, swp dj j (j - 1), by congr 1, by omega, by omega, hide (by rw [size_swp]; exact unhide HSJ), ?_, hide ?_⟩
                              · rw [unhide HG, unhide HG]
                                exact hide (((unhide HR).drewN _).swap j (j - 1) (by rw [unhide HSJ]; omega) (by rw [unhide HSJ]; omega))
                              · rw [← unhide HD]
                                conv => rhs; rw [shiftUp, if_pos hjb, if_neg (by have := unhide HL; simp only [unhide HG] at this; simp [this])]
                            case measure => simp [intOf]; omega
                        · go_wp2
                          have HQ : Hid (shiftUp ltInt b (i + 1) dl = dj) := hide (by rw [← unhide HD, shiftUp, if_neg hjb])
                          go_roundw
                          case rel =>
                            refine ⟨k + 1, i, dj, rfl, by congr 1, by omega, by omega, by omega, HSJ, HR, hide ?_⟩
                            have he := unhide HK
                            rw [show 5 - k = (5 - (k + 1)) + 1 by omega, partialIns_succ, unhide HI, if_neg (by omega), if_neg (by omega)] at he
                            rw [← he, unhide HF, fixUp, if_pos (by omega), unhide HQ]
                          case measure => simp [intOf]; omega
                · skip
                  go_region
                  all_goals go_wp2
                  try generalize decide (2 ≤ f) = bq1
                  try generalize decide (2 ≤ g) = bq2
                  have HZ : Hid (URow w0 blk off (swp dk i (i - 1)) (((wr.drewN (nq + 1)).setCell ⟨blk, off + i, none⟩ (.int .u8 (G (i - 1)))).setCell ⟨blk, off + (i - 1), none⟩ (.int .u8 (G i)))) := hide (by
                    rw [unhide HG, unhide HG]
                    exact ((unhide HR).drewN (nq + 1)).swap i (i - 1) (by rw [unhide HS]; omega) (by rw [unhide HS]; omega))
                  clear HR hcw hfw HG
                  generalize (((wr.drewN (nq + 1)).setCell ⟨blk, off + i, none⟩ (.int .u8 (G (i - 1)))).setCell ⟨blk, off + (i - 1), none⟩ (.int .u8 (G i))) = wz at *
                  go_loopw [9] (fun v wr => ∃ (j : Nat) (dj : Array Int), v = .int .i64 j ∧ j < i ∧ Hid (dj.size = n) ∧ Hid (URow w0 blk off dj wr) ∧ Hid (shiftDown ltInt j dj = shiftDown ltInt (i - 1) (swp dk i (i - 1)))) (fun v _ => (intOf v).toNat)
                  case atStart => exact ⟨i - 1, _, by congr 1; omega, by omega, hide (by rw [size_swp]; exact unhide HS), HZ, hide rfl⟩
                  case round =>
                    clear HZ
                    obtain ⟨j, dl, rfl, hj1, HSL, HR, HD⟩ := hrel
                    obtain ⟨G, hG, hU⟩ := (unhide HR).cells
                    rw [unhide HSL] at hU
                    have hcw := hU.c
                    have hfw := hU.f
                    have HG := hide hG
                    clear hG hU
                    by_cases hj0 : 1 ≤ j
                    · go_wp2
                      go_quiet (first | (go_at_call 78; refine Calls.quiet_of_same (lessByte_any _ _ _)))
                      go_wp2
                      · rename (!ltInt (G j) (G (j - 1))) = true => hl
                        have HF : Hid (fixDown ltInt a i (swp dk i (i - 1)) = dl) := hide (by
                          rw [fixDown, if_pos (by omega), ← unhide HD]
                          obtain ⟨q, rfl⟩ : ∃ q, j = q + 1 := ⟨j - 1, by omega⟩
                          have hl2 : (!ltInt (G (q + 1)) (G q)) = true := hl
                          rw [shiftDown, if_pos (by simpa only [← unhide HG] using hl2)])
                        have HR2 : Hid (URow w0 blk off dl (wr.drewN nq)) := hide ((unhide HR).drewN nq)
                        clear hl HR HD HG hcw hfw
                        generalize wr.drewN nq = wz2 at *
                        go_roundw
                        case rel =>
                          refine ⟨k + 1, i, dl, rfl, by congr 1, by omega, by omega, by omega, HSL, HR2, hide ?_⟩
                          have he := unhide HK
                          rw [show 5 - k = (5 - (k + 1)) + 1 by omega, partialIns_succ, unhide HI, if_neg (by omega), if_neg (by omega)] at he
                          rw [← he, unhide HF, fixUp, if_neg (by omega)]
                        case measure => simp [intOf]; omega
                      · rename (!ltInt (G j) (G (j - 1))) = false => hl
                        have HL := hide hl
                        clear hl
                        go_region
                        all_goals go_wp2
                        go_roundw
                        case rel =>
                          refine ⟨j - 1, swp dl j (j - 1), by congr 1; omega, by omega, hide (by rw [size_swp]; exact unhide HSL), ?_, hide ?_⟩
                          · rw [unhide HG, unhide HG]
                            exact hide (((unhide HR).drewN _).swap j (j - 1) (by rw [unhide HSL]; omega) (by rw [unhide HSL]; omega))
                          · rw [← unhide HD]
                            obtain ⟨q, rfl⟩ : ∃ q, j = q + 1 := ⟨j - 1, by omega⟩
                            conv => rhs; rw [shiftDown, if_neg (by have := unhide HL; simp only [unhide HG] at this; simpa using this)]
                            rfl
                        case measure => simp [intOf]; omega
                    · go_wp2
                      have HF : Hid (fixDown ltInt a i (swp dk i (i - 1)) = dl) := hide (by
                          rw [fixDown, if_pos (by omega), ← unhide HD]
                          obtain rfl : j = 0 := by omega
                          rw [shiftDown])
                      have HR2 := HR
                      clear HR HD HG hcw hfw
                      go_roundw
                      case rel =>
                        refine ⟨k + 1, i, dl, rfl, by congr 1, by omega, by omega, by omega, HSL, HR2, hide ?_⟩
                        have he := unhide HK
                        rw [show 5 - k = (5 - (k + 1)) + 1 by omega, partialIns_succ, unhide HI, if_neg (by omega), if_neg (by omega)] at he
                        rw [← he, unhide HF, fixUp, if_neg (by omega)]
                      case measure => simp [intOf]; omega
              · by_cases h3 : 2 ≤ g
                · skip
                  go_region
                  all_goals go_wp2
                  try generalize decide (2 ≤ f) = bq1
                  try generalize decide (2 ≤ g) = bq2
                  have HZ : Hid (URow w0 blk off (swp dk i (i - 1)) (((wr.drewN (nq + 1)).setCell ⟨blk, off + i, none⟩ (.int .u8 (G (i - 1)))).setCell ⟨blk, off + (i - 1), none⟩ (.int .u8 (G i)))) := hide (by
                    rw [unhide HG, unhide HG]
                    exact ((unhide HR).drewN (nq + 1)).swap i (i - 1) (by rw [unhide HS]; omega) (by rw [unhide HS]; omega))
                  clear HR hcw hfw HG
                  generalize (((wr.drewN (nq + 1)).setCell ⟨blk, off + i, none⟩ (.int .u8 (G (i - 1)))).setCell ⟨blk, off + (i - 1), none⟩ (.int .u8 (G i))) = wz at *
                  have HF : Hid (fixDown ltInt a i (swp dk i (i - 1)) = swp dk i (i - 1)) := hide (by rw [fixDown, if_neg (by omega)])
                  go_loopw [10] (fun v wr => ∃ (j : Nat) (dj : Array Int), v = .int .i64 j ∧ i + 1 ≤ j ∧ j ≤ b ∧ Hid (dj.size = n) ∧ Hid (URow w0 blk off dj wr) ∧ Hid (shiftUp ltInt b j dj = shiftUp ltInt b (i + 1) (swp dk i (i - 1)))) (fun v _ => b - (intOf v).toNat)
                  case atStart => exact ⟨i + 1, (swp dk i (i - 1)), by go_num, Nat.le_refl _, by omega, (hide (by rw [size_swp]; exact unhide HS)), HZ, hide rfl⟩
                  case round =>
                    obtain ⟨j, dj, rfl, hj1, hj2, HSJ, HR, HD⟩ := hrel
                    obtain ⟨G, hG, hU⟩ := (unhide HR).cells
                    rw [unhide HSJ] at hU
                    have hcw := hU.c
                    have hfw := hU.f
                    have HG := hide hG
                    clear hG hU
                    by_cases hjb : j < b
                    · go_wp2
                      go_quiet (first | (go_at_call 78; refine Calls.quiet_of_same (lessByte_any _ _ _)))
                      go_wp2
                      · rename (!ltInt (G j) (G (j - 1))) = true => hl
                        have HQ : Hid (shiftUp ltInt b (i + 1) (swp dk i (i - 1)) = dj) := hide (by rw [← unhide HD, shiftUp, if_pos hjb, if_pos (by simpa only [← unhide HG] using hl)])
                        go_roundw
                        case rel =>
                          refine ⟨k + 1, i, dj, rfl, by congr 1, by omega, by omega, by omega, HSJ, hide ((unhide HR).drewN _), hide ?_⟩
                          have he := unhide HK
                          rw [show 5 - k = (5 - (k + 1)) + 1 by omega, partialIns_succ, unhide HI, if_neg (by omega), if_neg (by omega)] at he
                          rw [← he, unhide HF, fixUp, if_pos (by omega), unhide HQ]
                        case measure => simp [intOf]; omega
                      · rename (!ltInt (G j) (G (j - 1))) = false => hl
                        have HL := hide hl
                        clear hl
                        go_region
                        all_goals go_wp2
                        go_roundw
                        case rel =>
                          refine ⟨j + 1, swp dj j (j - 1), by congr 1, by omega, by omega, hide (by rw [size_swp]; exact unhide HSJ), ?_, hide ?_⟩
                          · rw [unhide HG, unhide HG]
                            exact hide (((unhide HR).drewN _).swap j (j - 1) (by rw [unhide HSJ]; omega) (by rw [unhide HSJ]; omega))
                          · rw [← unhide HD]
                            conv => rhs; rw [shiftUp, if_pos hjb, if_neg (by have := unhide HL; simp only [unhide HG] at this; simp [this])]
                        case measure => simp [intOf]; omega
                    · go_wp2
                      have HQ : Hid (shiftUp ltInt b (i + 1) (swp dk i (i - 1)) = dj) := hide (by rw [← unhide HD, shiftUp, if_neg hjb])
                      go_roundw
                      case rel =>
                        refine ⟨k + 1, i, dj, rfl, by congr 1, by omega, by omega, by omega, HSJ, HR, hide ?_⟩
                        have he := unhide HK
                        rw [show 5 - k = (5 - (k + 1)) + 1 by omega, partialIns_succ, unhide HI, if_neg (by omega), if_neg (by omega)] at he
                        rw [← he, unhide HF, fixUp, if_pos (by omega), unhide HQ]
                      case measure => simp [intOf]; omega
                · skip
                  omega
        · have hbe : i = b := by omega
          have HI : Hid (scanSorted ltInt dk b i0 = b) := hide (by rw [← unhide HD, hbe, scanSorted, if_neg (by simp)])
          go_quiet (first | (go_at_call 78; refine Calls.quiet_of_same (lessByte_any _ _ _)))
          have hbi : (i : Int) = (b : Int) := by omega
          go_wp2
          go_ret
          have hq := unhide HK
          rw [show 5 - k = (5 - (k + 1)) + 1 by omega, partialIns_succ, unhide HI, if_pos rfl] at hq
          rw [← hq]
          exact ⟨rfl, (unhide HR).drewN _⟩
    · go_wp2
      go_ret
      have hq := unhide HK
      rw [show 5 - k = 0 by omega, partialIns] at hq
      rw [← hq]
      exact ⟨rfl, unhide HR0⟩
end Go.Proofs.Ytfpohfifdfbpkaa
