import Derived.Test.YthbbhpbkoankhaaGreatUSortA
import Derived.Test.YthbbhpbkoankhaaGreatUSortF
namespace Go.Proofs.YthbbhpbkoankhaaGreat
open Go.RowKit Go.Shelf Go.Lib Go.Sort


set_option maxHeartbeats 32000000 in
set_option maxRecDepth 100000 in
theorem uPart (w0 : World) (blk off cap a b p n : Nat) (d : Array Int) (w : World) (hn : d.size = n) (h : URow w0 blk off d w) (hap : a ≤ p) (hpb : p < b) (hb : b ≤ n) (hsz : n < 2305843009213693952) :
    Calls Tryz.prog 127 #[.slice (some ⟨blk, off, none⟩) n cap, .int .i64 a, .int .i64 b, .int .i64 p] w fun e w' => e = .returned (.tuple #[.int .i64 ((partition ltInt d a b p).1 : Nat), .bool (partition ltInt d a b p).2.1]) ∧ URow w0 blk off (partition ltInt d a b p).2.2 w' := by
  obtain ⟨j0, hb1⟩ : ∃ b1, b - 1 = b1 := ⟨_, rfl⟩
  have hbi : (b : Int) - 1 = (j0 : Int) := by omega
  obtain ⟨i0, hi1⟩ : ∃ b1, a + 1 = b1 := ⟨_, rfl⟩
  have hii1 : (a : Int) + 1 = (i0 : Int) := by omega
  have HE : Hid (∀ dk i j, swp d a p = dk → scanUp (fun x => ltInt x dk[a]!) dk j0 i0 = i → scanDown (fun x => !ltInt x dk[a]!) dk i j0 = j → (i > j → partition ltInt d a b p = (j, true, swp dk j a)) ∧ (¬ i > j → partition ltInt d a b p = ((partLoop ltInt a (i + 1) (j - 1) (swp dk i j)).1, false, swp (partLoop ltInt a (i + 1) (j - 1) (swp dk i j)).2 (partLoop ltInt a (i + 1) (j - 1) (swp dk i j)).1 a))) := hide (by
    intro dk i j h1 h2 h3
    subst h1 hi1 hb1 h2 h3
    constructor
    · intro hgt
      show (if _ then _ else _) = _
      exact if_pos hgt
    · intro hgt
      show (if _ then _ else _) = _
      exact if_neg hgt)
  have hj0 : j0 < n := by omega
  have hij0 : i0 ≤ j0 + 1 := by omega
  have hi0 : a < i0 := by omega
  have hpn : p < n := by omega
  have han : a < n := by omega
  obtain ⟨G, hG, hU⟩ := h.cells
  rw [hn] at hU
  have hcw := hU.c
  have hfw := hU.f
  have HG := hide hG
  have H := hide h
  have HN := hide hn
  clear hG hU h hn hb1 hi1
  go_enter Tryz.func127, Tryz.ntmps127
  go_wp2
  rcases Nat.eq_or_lt_of_le hap with hpa | hpa
  · subst hpa
    go_region
    go_wp2
    have HR0 : Hid (URow w0 blk off (swp d a a) (((w.setCell ⟨blk, off + a, none⟩ (.int .u8 (G a))).setCell ⟨blk, off + a, none⟩ (.int .u8 (G a))).drewN 1)) := hide (by
      rw [unhide HG]
      exact ((unhide H).swap a a (by rw [unhide HN]; omega) (by rw [unhide HN]; omega)).drewN 1)
    have HS : Hid ((swp d a a).size = n) := hide (by rw [size_swp]; exact unhide HN)
    clear H HN hcw hfw HG
    have HR0' : Hid (URow w0 blk off (swp d a a) ((w.setCell ⟨blk, off + a, none⟩ (.int .u8 (G a))).setCell ⟨blk, off + a, none⟩ (.int .u8 (G a))).drew) := HR0
    clear HR0
    have HR0 := HR0'
    clear HR0'
    generalize ((w.setCell ⟨blk, off + a, none⟩ (.int .u8 (G a))).setCell ⟨blk, off + a, none⟩ (.int .u8 (G a))).drew = wx at *
    obtain ⟨dk, hdk⟩ : ∃ dk, swp d a a = dk := ⟨_, rfl⟩
    have HDK := hide hdk
    rw [hdk] at HR0 HS
    have HE1 := hide (unhide HE dk)
    clear hdk HE
    go_loopw [10] (fun v wr => ∃ i : Nat, v = .int .i64 i ∧ i0 ≤ i ∧ i ≤ j0 + 1 ∧ Hid (URow w0 blk off dk wr) ∧ Hid (scanUp (fun x => ltInt x dk[a]!) dk j0 i = scanUp (fun x => ltInt x dk[a]!) dk j0 i0)) (fun v _ => j0 + 1 - (intOf v).toNat)
    case atStart => exact ⟨i0, rfl, Nat.le_refl _, hij0, HR0, hide rfl⟩
    case round =>
      obtain ⟨i, rfl, hii, hij1, HR, HD⟩ := hrel
      obtain ⟨G, hG, hU⟩ := (unhide HR).cells
      rw [unhide HS] at hU
      have hcw := hU.c
      have hfw := hU.f
      have HG := hide hG
      clear hG hU
      go_wp2
      by_cases hle : i ≤ j0
      · go_quiet (first | (go_at_call 125; refine Calls.quiet_of_same (lessByte_any _ _ _)))
        go_wp2
        · have hl : ltInt (G i) (G a) = true := by assumption
          go_roundw
          case rel =>
            refine ⟨i + 1, by congr 1, by omega, by omega, hide ((unhide HR).drewN nq), hide ?_⟩
            rw [← unhide HD]
            exact (scanUp_go hle (by simpa only [← unhide HG] using hl)).symm
          case measure => simp [intOf]; omega
        · rename ltInt (G i) (G a) = false => hl
          have HI : Hid (scanUp (fun x => ltInt x dk[a]!) dk j0 i0 = i) := hide (by rw [← unhide HD]; exact scanUp_stop (Or.inr (by simpa only [← unhide HG] using hl)))
          have HPI : Hid ((fun x => ltInt x dk[a]!) dk[i]! = false) := hide (by simpa only [← unhide HG] using hl)
          have HR2 : Hid (URow w0 blk off dk (wr.drewN nq)) := hide ((unhide HR).drewN nq)
          clear HD HR hl hcw hfw HG
          generalize wr.drewN nq = wy at *
          go_loopw [11] (fun v wr => ∃ j : Nat, v = .int .i64 j ∧ i ≤ j + 1 ∧ j ≤ j0 ∧ Hid (URow w0 blk off dk wr) ∧ Hid (scanDown (fun x => !ltInt x dk[a]!) dk i j = scanDown (fun x => !ltInt x dk[a]!) dk i j0)) (fun v _ => (intOf v).toNat)
          case atStart => exact ⟨j0, rfl, by omega, Nat.le_refl _, HR2, hide rfl⟩
          case round =>
            obtain ⟨j, rfl, hij, hjj, HR, HD⟩ := hrel
            obtain ⟨G, hG, hU⟩ := (unhide HR).cells
            rw [unhide HS] at hU
            have hcw := hU.c
            have hfw := hU.f
            have HG := hide hG
            clear hG hU
            go_wp2
            by_cases hle : i ≤ j
            · go_quiet (first | (go_at_call 125; refine Calls.quiet_of_same (lessByte_any _ _ _)))
              go_wp2
              · have hl : (!ltInt (G j) (G a)) = true := by assumption
                go_roundw
                case rel =>
                  refine ⟨j - 1, by congr 1; omega, by omega, by omega, hide ((unhide HR).drewN nq), hide ?_⟩
                  rw [← unhide HD]
                  exact (scanDown_go (by omega) hle (by simpa only [← unhide HG] using hl)).symm
                case measure => simp [intOf]; omega
              · rename (!ltInt (G j) (G a)) = false => hl
                have HJ : Hid (scanDown (fun x => !ltInt x dk[a]!) dk i j0 = j) := hide (by rw [← unhide HD]; exact scanDown_stop (Or.inr (by simpa only [← unhide HG] using hl)))
                have hlt : i < j := by
                  have h1 := unhide HPI
                  have h2 : (fun x => !ltInt x dk[a]!) dk[j]! = false := by simpa only [← unhide HG] using hl
                  rcases Nat.lt_or_ge i j with h3 | h3
                  · exact h3
                  · obtain rfl : i = j := by omega
                    simp at h1 h2
                    simp [h1] at h2
                have HR3 : Hid (URow w0 blk off dk (wr.drewN nq)) := hide ((unhide HR).drewN nq)
                have hcx : ∀ t, t < n → (wr.drewN nq).cell? ⟨blk, off + t, none⟩ = some (.int .u8 (G t)) := hcw
                have hfx : ∀ t, t < n → (wr.drewN nq).frozen? ⟨blk, off + t, none⟩ = false := hfw
                clear hcw hfw HD HR hl
                generalize wr.drewN nq = wz at *
                go_wp2
                go_region
                all_goals go_wp2
                generalize decide (j < i) = bq
                obtain ⟨r0, hr0⟩ : ∃ r0, partLoop ltInt a (i + 1) (j - 1) (swp dk i j) = r0 := ⟨_, rfl⟩
                have HE2 : Hid (partition ltInt d a b a = (r0.1, false, swp r0.2 r0.1 a)) := hide (by rw [← hr0]; exact (unhide HE1 i j (unhide HDK) (unhide HI) (unhide HJ)).2 (by omega))
                have HR0 : Hid (∀ q, URow w0 blk off (swp dk i j) (((wz.drewN q).setCell ⟨blk, off + i, none⟩ (.int .u8 (G j))).setCell ⟨blk, off + j, none⟩ (.int .u8 (G i)))) := hide fun q => by
                  rw [unhide HG, unhide HG]
                  exact ((unhide HR3).drewN q).swap i j (by rw [unhide HS]; omega) (by rw [unhide HS]; omega)
                go_loopw [10, 11] (fun vi vj wr => ∃ (i0 j0 : Nat) (dk : Array Int), vi = .int .i64 i0 ∧ vj = .int .i64 j0 ∧ a < i0 ∧ i0 ≤ j0 + 1 ∧ j0 < n ∧ Hid (dk.size = n) ∧ Hid (URow w0 blk off dk wr) ∧ Hid (partLoop ltInt a i0 j0 dk = r0)) (fun vi vj _ => (intOf vj).toNat + 1 - (intOf vi).toNat)
                case atStart => exact ⟨i + 1, j - 1, _, by congr 1, by congr 1; omega, by omega, by omega, by omega, hide (by rw [size_swp]; exact unhide HS), hide (unhide HR0 1), hide hr0⟩
                case round =>
                  clear HR0 HG HS HR3 HE1 HDK HI HJ hr0 hcx hfx HPI
                  obtain ⟨i0, j0, dk, rfl, rfl, hi0, hij0, hj0, HS, HR0, HK⟩ := hrel
                  go_wp2
                  go_loopw [10] (fun v wr => ∃ i : Nat, v = .int .i64 i ∧ i0 ≤ i ∧ i ≤ j0 + 1 ∧ Hid (URow w0 blk off dk wr) ∧ Hid (scanUp (fun x => ltInt x dk[a]!) dk j0 i = scanUp (fun x => ltInt x dk[a]!) dk j0 i0)) (fun v _ => j0 + 1 - (intOf v).toNat)
                  case atStart => exact ⟨i0, rfl, Nat.le_refl _, hij0, HR0, hide rfl⟩
                  case round =>
                    obtain ⟨i, rfl, hii, hij1, HR, HD⟩ := hrel
                    obtain ⟨G, hG, hU⟩ := (unhide HR).cells
                    rw [unhide HS] at hU
                    have hcw := hU.c
                    have hfw := hU.f
                    have HG := hide hG
                    clear hG hU
                    go_wp2
                    by_cases hle : i ≤ j0
                    · go_quiet (first | (go_at_call 125; refine Calls.quiet_of_same (lessByte_any _ _ _)))
                      go_wp2
                      · have hl : ltInt (G i) (G a) = true := by assumption
                        go_roundw
                        case rel =>
                          refine ⟨i + 1, by congr 1, by omega, by omega, hide ((unhide HR).drewN nq), hide ?_⟩
                          rw [← unhide HD]
                          exact (scanUp_go hle (by simpa only [← unhide HG] using hl)).symm
                        case measure => simp [intOf]; omega
                      · rename ltInt (G i) (G a) = false => hl
                        have HI : Hid (scanUp (fun x => ltInt x dk[a]!) dk j0 i0 = i) := hide (by rw [← unhide HD]; exact scanUp_stop (Or.inr (by simpa only [← unhide HG] using hl)))
                        have HPI : Hid ((fun x => ltInt x dk[a]!) dk[i]! = false) := hide (by simpa only [← unhide HG] using hl)
                        have HR2 : Hid (URow w0 blk off dk (wr.drewN nq)) := hide ((unhide HR).drewN nq)
                        clear HD HR hl hcw hfw HG
                        generalize wr.drewN nq = wy at *
                        go_loopw [11] (fun v wr => ∃ j : Nat, v = .int .i64 j ∧ i ≤ j + 1 ∧ j ≤ j0 ∧ Hid (URow w0 blk off dk wr) ∧ Hid (scanDown (fun x => !ltInt x dk[a]!) dk i j = scanDown (fun x => !ltInt x dk[a]!) dk i j0)) (fun v _ => (intOf v).toNat)
                        case atStart => exact ⟨j0, rfl, by omega, Nat.le_refl _, HR2, hide rfl⟩
                        case round =>
                          obtain ⟨j, rfl, hij, hjj, HR, HD⟩ := hrel
                          obtain ⟨G, hG, hU⟩ := (unhide HR).cells
                          rw [unhide HS] at hU
                          have hcw := hU.c
                          have hfw := hU.f
                          have HG := hide hG
                          clear hG hU
                          go_wp2
                          by_cases hle : i ≤ j
                          · go_quiet (first | (go_at_call 125; refine Calls.quiet_of_same (lessByte_any _ _ _)))
                            go_wp2
                            · have hl : (!ltInt (G j) (G a)) = true := by assumption
                              go_roundw
                              case rel =>
                                refine ⟨j - 1, by congr 1; omega, by omega, by omega, hide ((unhide HR).drewN nq), hide ?_⟩
                                rw [← unhide HD]
                                exact (scanDown_go (by omega) hle (by simpa only [← unhide HG] using hl)).symm
                              case measure => simp [intOf]; omega
                            · rename (!ltInt (G j) (G a)) = false => hl
                              have HJ : Hid (scanDown (fun x => !ltInt x dk[a]!) dk i j0 = j) := hide (by rw [← unhide HD]; exact scanDown_stop (Or.inr (by simpa only [← unhide HG] using hl)))
                              have hlt : i < j := by
                                have h1 := unhide HPI
                                have h2 : (fun x => !ltInt x dk[a]!) dk[j]! = false := by simpa only [← unhide HG] using hl
                                rcases Nat.lt_or_ge i j with h3 | h3
                                · exact h3
                                · obtain rfl : i = j := by omega
                                  simp at h1 h2
                                  simp [h1] at h2
                              have HR3 : Hid (URow w0 blk off dk (wr.drewN nq)) := hide ((unhide HR).drewN nq)
                              have hcx : ∀ t, t < n → (wr.drewN nq).cell? ⟨blk, off + t, none⟩ = some (.int .u8 (G t)) := hcw
                              have hfx : ∀ t, t < n → (wr.drewN nq).frozen? ⟨blk, off + t, none⟩ = false := hfw
                              clear hcw hfw HD HR hl
                              generalize wr.drewN nq = wz at *
                              go_wp2
                              go_region
                              all_goals go_wp2
                              go_roundw
                              case rel =>
                                refine ⟨i + 1, j - 1, swp dk i j, by congr 1, by congr 1; omega, by omega, by omega, by omega, hide (by rw [size_swp]; exact unhide HS), ?_, ?_⟩
                                · rw [unhide HG, unhide HG]
                                  exact hide (((unhide HR3).drewN _).swap i j (by rw [unhide HS]; omega) (by rw [unhide HS]; omega))
                                · refine hide ?_
                                  have he := unhide HK
                                  rw [partLoop_eq, unhide HI, unhide HJ, if_neg (by omega)] at he
                                  exact he
                              case measure => simp [intOf]; omega
                          · go_quiet (first | (go_at_call 125; refine Calls.quiet_of_same (lessByte_any _ _ _)))
                            go_wp2
                            have HJ : Hid (scanDown (fun x => !ltInt x dk[a]!) dk i j0 = j) := hide (by rw [← unhide HD]; exact scanDown_stop (Or.inl (by omega)))
                            have HR3 : Hid (URow w0 blk off dk (wr.drewN nq)) := hide ((unhide HR).drewN nq)
                            have hcx : ∀ t, t < n → (wr.drewN nq).cell? ⟨blk, off + t, none⟩ = some (.int .u8 (G t)) := hcw
                            have hfx : ∀ t, t < n → (wr.drewN nq).frozen? ⟨blk, off + t, none⟩ = false := hfw
                            clear hcw hfw HD HR
                            generalize wr.drewN nq = wz at *
                            have haj : a ≤ j := by omega
                            go_wp2
                            rcases Nat.eq_or_lt_of_le haj with hja | hja
                            · have hja2 : j = a := hja.symm
                              rw [hja2]
                              have HJA := hide hja2
                              clear hja hja2
                              go_region
                              go_wp2
                              go_ret2
                              have he := unhide HK
                              rw [partLoop_eq, unhide HI, unhide HJ, if_pos (by omega)] at he
                              have hf := unhide HE2
                              rw [← he] at hf
                              rw [hf, unhide HJA]
                              refine ⟨rfl, ?_⟩
                              rw [unhide HG]
                              exact ((unhide HR3).drewN 1).swap a a (by rw [unhide HS]; omega) (by rw [unhide HS]; omega)
                            · go_region
                              go_wp2
                              go_ret2
                              have he := unhide HK
                              rw [partLoop_eq, unhide HI, unhide HJ, if_pos (by omega)] at he
                              have hf := unhide HE2
                              rw [← he] at hf
                              rw [hf]
                              refine ⟨rfl, ?_⟩
                              rw [unhide HG, unhide HG]
                              exact ((unhide HR3).drewN 1).swap j a (by rw [unhide HS]; omega) (by rw [unhide HS]; omega)
                    · go_quiet (first | (go_at_call 125; refine Calls.quiet_of_same (lessByte_any _ _ _)))
                      go_wp2
                      have HI : Hid (scanUp (fun x => ltInt x dk[a]!) dk j0 i0 = i) := hide (by rw [← unhide HD]; exact scanUp_stop (Or.inl (by omega)))
                      have HR2 : Hid (URow w0 blk off dk (wr.drewN nq)) := hide ((unhide HR).drewN nq)
                      clear HD HR hcw hfw HG
                      generalize wr.drewN nq = wy at *
                      go_loopw [11] (fun v wr => v = .int .i64 j0 ∧ Hid (URow w0 blk off dk wr)) (fun v _ => 0)
                      case atStart => exact ⟨rfl, HR2⟩
                      case round =>
                        obtain ⟨rfl, HR⟩ := hrel
                        obtain ⟨G, hG, hU⟩ := (unhide HR).cells
                        rw [unhide HS] at hU
                        have hcw := hU.c
                        have hfw := hU.f
                        have HG := hide hG
                        clear hG hU
                        go_wp2
                        go_quiet (first | (go_at_call 125; refine Calls.quiet_of_same (lessByte_any _ _ _)))
                        go_wp2
                        have HJ : Hid (scanDown (fun x => !ltInt x dk[a]!) dk i j0 = j0) := hide (scanDown_stop (Or.inl (by omega)))
                        obtain ⟨j, hj⟩ : ∃ j, j = j0 := ⟨_, rfl⟩
                        have HR3 : Hid (URow w0 blk off dk (wr.drewN nq)) := hide ((unhide HR).drewN nq)
                        have hcx : ∀ t, t < n → (wr.drewN nq).cell? ⟨blk, off + t, none⟩ = some (.int .u8 (G t)) := hcw
                        have hfx : ∀ t, t < n → (wr.drewN nq).frozen? ⟨blk, off + t, none⟩ = false := hfw
                        clear hcw hfw HR
                        generalize wr.drewN nq = wz at *
                        have haj : a ≤ j0 := by omega
                        go_wp2
                        rcases Nat.eq_or_lt_of_le haj with hja | hja
                        · have hja2 : j0 = a := hja.symm
                          rw [hja2]
                          have HJA := hide hja2
                          clear hja hja2
                          go_region
                          go_wp2
                          go_ret2
                          have he := unhide HK
                          rw [partLoop_eq, unhide HI, unhide HJ, if_pos (by omega)] at he
                          have hf := unhide HE2
                          rw [← he] at hf
                          rw [hf, unhide HJA]
                          refine ⟨rfl, ?_⟩
                          rw [unhide HG]
                          exact ((unhide HR3).drewN 1).swap a a (by rw [unhide HS]; omega) (by rw [unhide HS]; omega)
                        · go_region
                          go_wp2
                          go_ret2
                          have he := unhide HK
                          rw [partLoop_eq, unhide HI, unhide HJ, if_pos (by omega)] at he
                          have hf := unhide HE2
                          rw [← he] at hf
                          rw [hf]
                          refine ⟨rfl, ?_⟩
                          rw [unhide HG, unhide HG]
                          exact ((unhide HR3).drewN 1).swap j0 a (by rw [unhide HS]; omega) (by rw [unhide HS]; omega)
            · go_quiet (first | (go_at_call 125; refine Calls.quiet_of_same (lessByte_any _ _ _)))
              go_wp2
              have HJ : Hid (scanDown (fun x => !ltInt x dk[a]!) dk i j0 = j) := hide (by rw [← unhide HD]; exact scanDown_stop (Or.inl (by omega)))
              have HR3 : Hid (URow w0 blk off dk (wr.drewN nq)) := hide ((unhide HR).drewN nq)
              have hcx : ∀ t, t < n → (wr.drewN nq).cell? ⟨blk, off + t, none⟩ = some (.int .u8 (G t)) := hcw
              have hfx : ∀ t, t < n → (wr.drewN nq).frozen? ⟨blk, off + t, none⟩ = false := hfw
              clear hcw hfw HD HR
              generalize wr.drewN nq = wz at *
              have haj : a ≤ j := by omega
              go_wp2
              rcases Nat.eq_or_lt_of_le haj with hja | hja
              · have hja2 : j = a := hja.symm
                rw [hja2]
                have HJA := hide hja2
                clear hja hja2
                go_region
                go_wp2
                go_ret2
                have he := (unhide HE1 i j (unhide HDK) (unhide HI) (unhide HJ)).1 (by omega)
                rw [he, unhide HJA]
                refine ⟨rfl, ?_⟩
                rw [unhide HG]
                exact ((unhide HR3).drewN 1).swap a a (by rw [unhide HS]; omega) (by rw [unhide HS]; omega)
              · go_region
                go_wp2
                go_ret2
                have he := (unhide HE1 i j (unhide HDK) (unhide HI) (unhide HJ)).1 (by omega)
                rw [he]
                refine ⟨rfl, ?_⟩
                rw [unhide HG, unhide HG]
                exact ((unhide HR3).drewN 1).swap j a (by rw [unhide HS]; omega) (by rw [unhide HS]; omega)
      · go_quiet (first | (go_at_call 125; refine Calls.quiet_of_same (lessByte_any _ _ _)))
        go_wp2
        have HI : Hid (scanUp (fun x => ltInt x dk[a]!) dk j0 i0 = i) := hide (by rw [← unhide HD]; exact scanUp_stop (Or.inl (by omega)))
        have HR2 : Hid (URow w0 blk off dk (wr.drewN nq)) := hide ((unhide HR).drewN nq)
        clear HD HR hcw hfw HG
        generalize wr.drewN nq = wy at *
        go_loopw [11] (fun v wr => v = .int .i64 j0 ∧ Hid (URow w0 blk off dk wr)) (fun v _ => 0)
        case atStart => exact ⟨rfl, HR2⟩
        case round =>
          obtain ⟨rfl, HR⟩ := hrel
          obtain ⟨G, hG, hU⟩ := (unhide HR).cells
          rw [unhide HS] at hU
          have hcw := hU.c
          have hfw := hU.f
          have HG := hide hG
          clear hG hU
          go_wp2
          go_quiet (first | (go_at_call 125; refine Calls.quiet_of_same (lessByte_any _ _ _)))
          go_wp2
          have HJ : Hid (scanDown (fun x => !ltInt x dk[a]!) dk i j0 = j0) := hide (scanDown_stop (Or.inl (by omega)))
          obtain ⟨j, hj⟩ : ∃ j, j = j0 := ⟨_, rfl⟩
          have HR3 : Hid (URow w0 blk off dk (wr.drewN nq)) := hide ((unhide HR).drewN nq)
          have hcx : ∀ t, t < n → (wr.drewN nq).cell? ⟨blk, off + t, none⟩ = some (.int .u8 (G t)) := hcw
          have hfx : ∀ t, t < n → (wr.drewN nq).frozen? ⟨blk, off + t, none⟩ = false := hfw
          clear hcw hfw HR
          generalize wr.drewN nq = wz at *
          have haj : a ≤ j0 := by omega
          go_wp2
          rcases Nat.eq_or_lt_of_le haj with hja | hja
          · have hja2 : j0 = a := hja.symm
            rw [hja2]
            have HJA := hide hja2
            clear hja hja2
            go_region
            go_wp2
            go_ret2
            have he := (unhide HE1 i j0 (unhide HDK) (unhide HI) (unhide HJ)).1 (by omega)
            rw [he, unhide HJA]
            refine ⟨rfl, ?_⟩
            rw [unhide HG]
            exact ((unhide HR3).drewN 1).swap a a (by rw [unhide HS]; omega) (by rw [unhide HS]; omega)
          · go_region
            go_wp2
            go_ret2
            have he := (unhide HE1 i j0 (unhide HDK) (unhide HI) (unhide HJ)).1 (by omega)
            rw [he]
            refine ⟨rfl, ?_⟩
            rw [unhide HG, unhide HG]
            exact ((unhide HR3).drewN 1).swap j0 a (by rw [unhide HS]; omega) (by rw [unhide HS]; omega)
  · skip
    go_region
    go_wp2
    have HR0 : Hid (URow w0 blk off (swp d a p) (((w.setCell ⟨blk, off + a, none⟩ (.int .u8 (G p))).setCell ⟨blk, off + p, none⟩ (.int .u8 (G a))).drewN 1)) := hide (by
      rw [unhide HG, unhide HG]
      exact ((unhide H).swap a p (by rw [unhide HN]; omega) (by rw [unhide HN]; omega)).drewN 1)
    have HS : Hid ((swp d a p).size = n) := hide (by rw [size_swp]; exact unhide HN)
    clear H HN hcw hfw HG
    have HR0' : Hid (URow w0 blk off (swp d a p) ((w.setCell ⟨blk, off + a, none⟩ (.int .u8 (G p))).setCell ⟨blk, off + p, none⟩ (.int .u8 (G a))).drew) := HR0
    clear HR0
    have HR0 := HR0'
    clear HR0'
    generalize ((w.setCell ⟨blk, off + a, none⟩ (.int .u8 (G p))).setCell ⟨blk, off + p, none⟩ (.int .u8 (G a))).drew = wx at *
    obtain ⟨dk, hdk⟩ : ∃ dk, swp d a p = dk := ⟨_, rfl⟩
    have HDK := hide hdk
    rw [hdk] at HR0 HS
    have HE1 := hide (unhide HE dk)
    clear hdk HE
    go_loopw [10] (fun v wr => ∃ i : Nat, v = .int .i64 i ∧ i0 ≤ i ∧ i ≤ j0 + 1 ∧ Hid (URow w0 blk off dk wr) ∧ Hid (scanUp (fun x => ltInt x dk[a]!) dk j0 i = scanUp (fun x => ltInt x dk[a]!) dk j0 i0)) (fun v _ => j0 + 1 - (intOf v).toNat)
    case atStart => exact ⟨i0, rfl, Nat.le_refl _, hij0, HR0, hide rfl⟩
    case round =>
      obtain ⟨i, rfl, hii, hij1, HR, HD⟩ := hrel
      obtain ⟨G, hG, hU⟩ := (unhide HR).cells
      rw [unhide HS] at hU
      have hcw := hU.c
      have hfw := hU.f
      have HG := hide hG
      clear hG hU
      go_wp2
      by_cases hle : i ≤ j0
      · go_quiet (first | (go_at_call 125; refine Calls.quiet_of_same (lessByte_any _ _ _)))
        go_wp2
        · have hl : ltInt (G i) (G a) = true := by assumption
          go_roundw
          case rel =>
            refine ⟨i + 1, by congr 1, by omega, by omega, hide ((unhide HR).drewN nq), hide ?_⟩
            rw [← unhide HD]
            exact (scanUp_go hle (by simpa only [← unhide HG] using hl)).symm
          case measure => simp [intOf]; omega
        · rename ltInt (G i) (G a) = false => hl
          have HI : Hid (scanUp (fun x => ltInt x dk[a]!) dk j0 i0 = i) := hide (by rw [← unhide HD]; exact scanUp_stop (Or.inr (by simpa only [← unhide HG] using hl)))
          have HPI : Hid ((fun x => ltInt x dk[a]!) dk[i]! = false) := hide (by simpa only [← unhide HG] using hl)
          have HR2 : Hid (URow w0 blk off dk (wr.drewN nq)) := hide ((unhide HR).drewN nq)
          clear HD HR hl hcw hfw HG
          generalize wr.drewN nq = wy at *
          go_loopw [11] (fun v wr => ∃ j : Nat, v = .int .i64 j ∧ i ≤ j + 1 ∧ j ≤ j0 ∧ Hid (URow w0 blk off dk wr) ∧ Hid (scanDown (fun x => !ltInt x dk[a]!) dk i j = scanDown (fun x => !ltInt x dk[a]!) dk i j0)) (fun v _ => (intOf v).toNat)
          case atStart => exact ⟨j0, rfl, by omega, Nat.le_refl _, HR2, hide rfl⟩
          case round =>
            obtain ⟨j, rfl, hij, hjj, HR, HD⟩ := hrel
            obtain ⟨G, hG, hU⟩ := (unhide HR).cells
            rw [unhide HS] at hU
            have hcw := hU.c
            have hfw := hU.f
            have HG := hide hG
            clear hG hU
            go_wp2
            by_cases hle : i ≤ j
            · go_quiet (first | (go_at_call 125; refine Calls.quiet_of_same (lessByte_any _ _ _)))
              go_wp2
              · have hl : (!ltInt (G j) (G a)) = true := by assumption
                go_roundw
                case rel =>
                  refine ⟨j - 1, by congr 1; omega, by omega, by omega, hide ((unhide HR).drewN nq), hide ?_⟩
                  rw [← unhide HD]
                  exact (scanDown_go (by omega) hle (by simpa only [← unhide HG] using hl)).symm
                case measure => simp [intOf]; omega
              · rename (!ltInt (G j) (G a)) = false => hl
                have HJ : Hid (scanDown (fun x => !ltInt x dk[a]!) dk i j0 = j) := hide (by rw [← unhide HD]; exact scanDown_stop (Or.inr (by simpa only [← unhide HG] using hl)))
                have hlt : i < j := by
                  have h1 := unhide HPI
                  have h2 : (fun x => !ltInt x dk[a]!) dk[j]! = false := by simpa only [← unhide HG] using hl
                  rcases Nat.lt_or_ge i j with h3 | h3
                  · exact h3
                  · obtain rfl : i = j := by omega
                    simp at h1 h2
                    simp [h1] at h2
                have HR3 : Hid (URow w0 blk off dk (wr.drewN nq)) := hide ((unhide HR).drewN nq)
                have hcx : ∀ t, t < n → (wr.drewN nq).cell? ⟨blk, off + t, none⟩ = some (.int .u8 (G t)) := hcw
                have hfx : ∀ t, t < n → (wr.drewN nq).frozen? ⟨blk, off + t, none⟩ = false := hfw
                clear hcw hfw HD HR hl
                generalize wr.drewN nq = wz at *
                go_wp2
                go_region
                all_goals go_wp2
                generalize decide (j < i) = bq
                obtain ⟨r0, hr0⟩ : ∃ r0, partLoop ltInt a (i + 1) (j - 1) (swp dk i j) = r0 := ⟨_, rfl⟩
                have HE2 : Hid (partition ltInt d a b p = (r0.1, false, swp r0.2 r0.1 a)) := hide (by rw [← hr0]; exact (unhide HE1 i j (unhide HDK) (unhide HI) (unhide HJ)).2 (by omega))
                have HR0 : Hid (∀ q, URow w0 blk off (swp dk i j) (((wz.drewN q).setCell ⟨blk, off + i, none⟩ (.int .u8 (G j))).setCell ⟨blk, off + j, none⟩ (.int .u8 (G i)))) := hide fun q => by
                  rw [unhide HG, unhide HG]
                  exact ((unhide HR3).drewN q).swap i j (by rw [unhide HS]; omega) (by rw [unhide HS]; omega)
                go_loopw [10, 11] (fun vi vj wr => ∃ (i0 j0 : Nat) (dk : Array Int), vi = .int .i64 i0 ∧ vj = .int .i64 j0 ∧ a < i0 ∧ i0 ≤ j0 + 1 ∧ j0 < n ∧ Hid (dk.size = n) ∧ Hid (URow w0 blk off dk wr) ∧ Hid (partLoop ltInt a i0 j0 dk = r0)) (fun vi vj _ => (intOf vj).toNat + 1 - (intOf vi).toNat)
                case atStart => exact ⟨i + 1, j - 1, _, by congr 1, by congr 1; omega, by omega, by omega, by omega, hide (by rw [size_swp]; exact unhide HS), hide (unhide HR0 1), hide hr0⟩
                case round =>
                  clear HR0 HG HS HR3 HE1 HDK HI HJ hr0 hcx hfx HPI
                  obtain ⟨i0, j0, dk, rfl, rfl, hi0, hij0, hj0, HS, HR0, HK⟩ := hrel
                  go_wp2
                  go_loopw [10] (fun v wr => ∃ i : Nat, v = .int .i64 i ∧ i0 ≤ i ∧ i ≤ j0 + 1 ∧ Hid (URow w0 blk off dk wr) ∧ Hid (scanUp (fun x => ltInt x dk[a]!) dk j0 i = scanUp (fun x => ltInt x dk[a]!) dk j0 i0)) (fun v _ => j0 + 1 - (intOf v).toNat)
                  case atStart => exact ⟨i0, rfl, Nat.le_refl _, hij0, HR0, hide rfl⟩
                  case round =>
                    obtain ⟨i, rfl, hii, hij1, HR, HD⟩ := hrel
                    obtain ⟨G, hG, hU⟩ := (unhide HR).cells
                    rw [unhide HS] at hU
                    have hcw := hU.c
                    have hfw := hU.f
                    have HG := hide hG
                    clear hG hU
                    go_wp2
                    by_cases hle : i ≤ j0
                    · go_quiet (first | (go_at_call 125; refine Calls.quiet_of_same (lessByte_any _ _ _)))
                      go_wp2
                      · have hl : ltInt (G i) (G a) = true := by assumption
                        go_roundw
                        case rel =>
                          refine ⟨i + 1, by congr 1, by omega, by omega, hide ((unhide HR).drewN nq), hide ?_⟩
                          rw [← unhide HD]
                          exact (scanUp_go hle (by simpa only [← unhide HG] using hl)).symm
                        case measure => simp [intOf]; omega
                      · rename ltInt (G i) (G a) = false => hl
                        have HI : Hid (scanUp (fun x => ltInt x dk[a]!) dk j0 i0 = i) := hide (by rw [← unhide HD]; exact scanUp_stop (Or.inr (by simpa only [← unhide HG] using hl)))
                        have HPI : Hid ((fun x => ltInt x dk[a]!) dk[i]! = false) := hide (by simpa only [← unhide HG] using hl)
                        have HR2 : Hid (URow w0 blk off dk (wr.drewN nq)) := hide ((unhide HR).drewN nq)
                        clear HD HR hl hcw hfw HG
                        generalize wr.drewN nq = wy at *
                        go_loopw [11] (fun v wr => ∃ j : Nat, v = .int .i64 j ∧ i ≤ j + 1 ∧ j ≤ j0 ∧ Hid (URow w0 blk off dk wr) ∧ Hid (scanDown (fun x => !ltInt x dk[a]!) dk i j = scanDown (fun x => !ltInt x dk[a]!) dk i j0)) (fun v _ => (intOf v).toNat)
                        case atStart => exact ⟨j0, rfl, by omega, Nat.le_refl _, HR2, hide rfl⟩
                        case round =>
                          obtain ⟨j, rfl, hij, hjj, HR, HD⟩ := hrel
                          obtain ⟨G, hG, hU⟩ := (unhide HR).cells
                          rw [unhide HS] at hU
                          have hcw := hU.c
                          have hfw := hU.f
                          have HG := hide hG
                          clear hG hU
                          go_wp2
                          by_cases hle : i ≤ j
                          · go_quiet (first | (go_at_call 125; refine Calls.quiet_of_same (lessByte_any _ _ _)))
                            go_wp2
                            · have hl : (!ltInt (G j) (G a)) = true := by assumption
                              go_roundw
                              case rel =>
                                refine ⟨j - 1, by congr 1; omega, by omega, by omega, hide ((unhide HR).drewN nq), hide ?_⟩
                                rw [← unhide HD]
                                exact (scanDown_go (by omega) hle (by simpa only [← unhide HG] using hl)).symm
                              case measure => simp [intOf]; omega
                            · rename (!ltInt (G j) (G a)) = false => hl
                              have HJ : Hid (scanDown (fun x => !ltInt x dk[a]!) dk i j0 = j) := hide (by rw [← unhide HD]; exact scanDown_stop (Or.inr (by simpa only [← unhide HG] using hl)))
                              have hlt : i < j := by
                                have h1 := unhide HPI
                                have h2 : (fun x => !ltInt x dk[a]!) dk[j]! = false := by simpa only [← unhide HG] using hl
                                rcases Nat.lt_or_ge i j with h3 | h3
                                · exact h3
                                · obtain rfl : i = j := by omega
                                  simp at h1 h2
                                  simp [h1] at h2
                              have HR3 : Hid (URow w0 blk off dk (wr.drewN nq)) := hide ((unhide HR).drewN nq)
                              have hcx : ∀ t, t < n → (wr.drewN nq).cell? ⟨blk, off + t, none⟩ = some (.int .u8 (G t)) := hcw
                              have hfx : ∀ t, t < n → (wr.drewN nq).frozen? ⟨blk, off + t, none⟩ = false := hfw
                              clear hcw hfw HD HR hl
                              generalize wr.drewN nq = wz at *
                              go_wp2
                              go_region
                              all_goals go_wp2
                              go_roundw
                              case rel =>
                                refine ⟨i + 1, j - 1, swp dk i j, by congr 1, by congr 1; omega, by omega, by omega, by omega, hide (by rw [size_swp]; exact unhide HS), ?_, ?_⟩
                                · rw [unhide HG, unhide HG]
                                  exact hide (((unhide HR3).drewN _).swap i j (by rw [unhide HS]; omega) (by rw [unhide HS]; omega))
                                · refine hide ?_
                                  have he := unhide HK
                                  rw [partLoop_eq, unhide HI, unhide HJ, if_neg (by omega)] at he
                                  exact he
                              case measure => simp [intOf]; omega
                          · go_quiet (first | (go_at_call 125; refine Calls.quiet_of_same (lessByte_any _ _ _)))
                            go_wp2
                            have HJ : Hid (scanDown (fun x => !ltInt x dk[a]!) dk i j0 = j) := hide (by rw [← unhide HD]; exact scanDown_stop (Or.inl (by omega)))
                            have HR3 : Hid (URow w0 blk off dk (wr.drewN nq)) := hide ((unhide HR).drewN nq)
                            have hcx : ∀ t, t < n → (wr.drewN nq).cell? ⟨blk, off + t, none⟩ = some (.int .u8 (G t)) := hcw
                            have hfx : ∀ t, t < n → (wr.drewN nq).frozen? ⟨blk, off + t, none⟩ = false := hfw
                            clear hcw hfw HD HR
                            generalize wr.drewN nq = wz at *
                            have haj : a ≤ j := by omega
                            go_wp2
                            rcases Nat.eq_or_lt_of_le haj with hja | hja
                            · have hja2 : j = a := hja.symm
                              rw [hja2]
                              have HJA := hide hja2
                              clear hja hja2
                              go_region
                              go_wp2
                              go_ret2
                              have he := unhide HK
                              rw [partLoop_eq, unhide HI, unhide HJ, if_pos (by omega)] at he
                              have hf := unhide HE2
                              rw [← he] at hf
                              rw [hf, unhide HJA]
                              refine ⟨rfl, ?_⟩
                              rw [unhide HG]
                              exact ((unhide HR3).drewN 1).swap a a (by rw [unhide HS]; omega) (by rw [unhide HS]; omega)
                            · go_region
                              go_wp2
                              go_ret2
                              have he := unhide HK
                              rw [partLoop_eq, unhide HI, unhide HJ, if_pos (by omega)] at he
                              have hf := unhide HE2
                              rw [← he] at hf
                              rw [hf]
                              refine ⟨rfl, ?_⟩
                              rw [unhide HG, unhide HG]
                              exact ((unhide HR3).drewN 1).swap j a (by rw [unhide HS]; omega) (by rw [unhide HS]; omega)
                    · go_quiet (first | (go_at_call 125; refine Calls.quiet_of_same (lessByte_any _ _ _)))
                      go_wp2
                      have HI : Hid (scanUp (fun x => ltInt x dk[a]!) dk j0 i0 = i) := hide (by rw [← unhide HD]; exact scanUp_stop (Or.inl (by omega)))
                      have HR2 : Hid (URow w0 blk off dk (wr.drewN nq)) := hide ((unhide HR).drewN nq)
                      clear HD HR hcw hfw HG
                      generalize wr.drewN nq = wy at *
                      go_loopw [11] (fun v wr => v = .int .i64 j0 ∧ Hid (URow w0 blk off dk wr)) (fun v _ => 0)
                      case atStart => exact ⟨rfl, HR2⟩
                      case round =>
                        obtain ⟨rfl, HR⟩ := hrel
                        obtain ⟨G, hG, hU⟩ := (unhide HR).cells
                        rw [unhide HS] at hU
                        have hcw := hU.c
                        have hfw := hU.f
                        have HG := hide hG
                        clear hG hU
                        go_wp2
                        go_quiet (first | (go_at_call 125; refine Calls.quiet_of_same (lessByte_any _ _ _)))
                        go_wp2
                        have HJ : Hid (scanDown (fun x => !ltInt x dk[a]!) dk i j0 = j0) := hide (scanDown_stop (Or.inl (by omega)))
                        obtain ⟨j, hj⟩ : ∃ j, j = j0 := ⟨_, rfl⟩
                        have HR3 : Hid (URow w0 blk off dk (wr.drewN nq)) := hide ((unhide HR).drewN nq)
                        have hcx : ∀ t, t < n → (wr.drewN nq).cell? ⟨blk, off + t, none⟩ = some (.int .u8 (G t)) := hcw
                        have hfx : ∀ t, t < n → (wr.drewN nq).frozen? ⟨blk, off + t, none⟩ = false := hfw
                        clear hcw hfw HR
                        generalize wr.drewN nq = wz at *
                        have haj : a ≤ j0 := by omega
                        go_wp2
                        rcases Nat.eq_or_lt_of_le haj with hja | hja
                        · have hja2 : j0 = a := hja.symm
                          rw [hja2]
                          have HJA := hide hja2
                          clear hja hja2
                          go_region
                          go_wp2
                          go_ret2
                          have he := unhide HK
                          rw [partLoop_eq, unhide HI, unhide HJ, if_pos (by omega)] at he
                          have hf := unhide HE2
                          rw [← he] at hf
                          rw [hf, unhide HJA]
                          refine ⟨rfl, ?_⟩
                          rw [unhide HG]
                          exact ((unhide HR3).drewN 1).swap a a (by rw [unhide HS]; omega) (by rw [unhide HS]; omega)
                        · go_region
                          go_wp2
                          go_ret2
                          have he := unhide HK
                          rw [partLoop_eq, unhide HI, unhide HJ, if_pos (by omega)] at he
                          have hf := unhide HE2
                          rw [← he] at hf
                          rw [hf]
                          refine ⟨rfl, ?_⟩
                          rw [unhide HG, unhide HG]
                          exact ((unhide HR3).drewN 1).swap j0 a (by rw [unhide HS]; omega) (by rw [unhide HS]; omega)
            · go_quiet (first | (go_at_call 125; refine Calls.quiet_of_same (lessByte_any _ _ _)))
              go_wp2
              have HJ : Hid (scanDown (fun x => !ltInt x dk[a]!) dk i j0 = j) := hide (by rw [← unhide HD]; exact scanDown_stop (Or.inl (by omega)))
              have HR3 : Hid (URow w0 blk off dk (wr.drewN nq)) := hide ((unhide HR).drewN nq)
              have hcx : ∀ t, t < n → (wr.drewN nq).cell? ⟨blk, off + t, none⟩ = some (.int .u8 (G t)) := hcw
              have hfx : ∀ t, t < n → (wr.drewN nq).frozen? ⟨blk, off + t, none⟩ = false := hfw
              clear hcw hfw HD HR
              generalize wr.drewN nq = wz at *
              have haj : a ≤ j := by omega
              go_wp2
              rcases Nat.eq_or_lt_of_le haj with hja | hja
              · have hja2 : j = a := hja.symm
                rw [hja2]
                have HJA := hide hja2
                clear hja hja2
                go_region
                go_wp2
                go_ret2
                have he := (unhide HE1 i j (unhide HDK) (unhide HI) (unhide HJ)).1 (by omega)
                rw [he, unhide HJA]
                refine ⟨rfl, ?_⟩
                rw [unhide HG]
                exact ((unhide HR3).drewN 1).swap a a (by rw [unhide HS]; omega) (by rw [unhide HS]; omega)
              · go_region
                go_wp2
                go_ret2
                have he := (unhide HE1 i j (unhide HDK) (unhide HI) (unhide HJ)).1 (by omega)
                rw [he]
                refine ⟨rfl, ?_⟩
                rw [unhide HG, unhide HG]
                exact ((unhide HR3).drewN 1).swap j a (by rw [unhide HS]; omega) (by rw [unhide HS]; omega)
      · go_quiet (first | (go_at_call 125; refine Calls.quiet_of_same (lessByte_any _ _ _)))
        go_wp2
        have HI : Hid (scanUp (fun x => ltInt x dk[a]!) dk j0 i0 = i) := hide (by rw [← unhide HD]; exact scanUp_stop (Or.inl (by omega)))
        have HR2 : Hid (URow w0 blk off dk (wr.drewN nq)) := hide ((unhide HR).drewN nq)
        clear HD HR hcw hfw HG
        generalize wr.drewN nq = wy at *
        go_loopw [11] (fun v wr => v = .int .i64 j0 ∧ Hid (URow w0 blk off dk wr)) (fun v _ => 0)
        case atStart => exact ⟨rfl, HR2⟩
        case round =>
          obtain ⟨rfl, HR⟩ := hrel
          obtain ⟨G, hG, hU⟩ := (unhide HR).cells
          rw [unhide HS] at hU
          have hcw := hU.c
          have hfw := hU.f
          have HG := hide hG
          clear hG hU
          go_wp2
          go_quiet (first | (go_at_call 125; refine Calls.quiet_of_same (lessByte_any _ _ _)))
          go_wp2
          have HJ : Hid (scanDown (fun x => !ltInt x dk[a]!) dk i j0 = j0) := hide (scanDown_stop (Or.inl (by omega)))
          obtain ⟨j, hj⟩ : ∃ j, j = j0 := ⟨_, rfl⟩
          have HR3 : Hid (URow w0 blk off dk (wr.drewN nq)) := hide ((unhide HR).drewN nq)
          have hcx : ∀ t, t < n → (wr.drewN nq).cell? ⟨blk, off + t, none⟩ = some (.int .u8 (G t)) := hcw
          have hfx : ∀ t, t < n → (wr.drewN nq).frozen? ⟨blk, off + t, none⟩ = false := hfw
          clear hcw hfw HR
          generalize wr.drewN nq = wz at *
          have haj : a ≤ j0 := by omega
          go_wp2
          rcases Nat.eq_or_lt_of_le haj with hja | hja
          · have hja2 : j0 = a := hja.symm
            rw [hja2]
            have HJA := hide hja2
            clear hja hja2
            go_region
            go_wp2
            go_ret2
            have he := (unhide HE1 i j0 (unhide HDK) (unhide HI) (unhide HJ)).1 (by omega)
            rw [he, unhide HJA]
            refine ⟨rfl, ?_⟩
            rw [unhide HG]
            exact ((unhide HR3).drewN 1).swap a a (by rw [unhide HS]; omega) (by rw [unhide HS]; omega)
          · go_region
            go_wp2
            go_ret2
            have he := (unhide HE1 i j0 (unhide HDK) (unhide HI) (unhide HJ)).1 (by omega)
            rw [he]
            refine ⟨rfl, ?_⟩
            rw [unhide HG, unhide HG]
            exact ((unhide HR3).drewN 1).swap j0 a (by rw [unhide HS]; omega) (by rw [unhide HS]; omega)

end Go.Proofs.YthbbhpbkoankhaaGreat
