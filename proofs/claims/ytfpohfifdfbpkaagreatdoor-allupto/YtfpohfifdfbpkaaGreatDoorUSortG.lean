import Derived.Test.YtfpohfifdfbpkaaGreatDoorUSortA
import Derived.Test.YtfpohfifdfbpkaaGreatDoorUSortD
namespace Go.Proofs.YtfpohfifdfbpkaaGreatDoor
open Go.RowKit Go.Shelf Go.Lib Go.Sort
set_option maxHeartbeats 32000000 in
set_option maxRecDepth 100000 in
theorem uPart (w0 : World) (blk off cap a b p n : Nat) (d : Array Int) (w : World) (hn : d.size = n) (h : zR w0 blk off d w) (hap : a <= p) (hpb : p < b) (hb : b <= n) (hsz : n < 2305843009213693952) :
 Calls Tryz.prog 174 #[.slice (some ⟨blk, off, none⟩) n cap, .int .i64 a, .int .i64 b, .int .i64 p] w fun e w' => e = .returned (.tuple #[.int .i64 ((partition ltInt d a b p).1 : Nat), .bool (partition ltInt d a b p).2.1]) /\ zR w0 blk off (partition ltInt d a b p).2.2 w' := by
 obtain ⟨j0, hb1⟩ : ∃ b1, b - 1 = b1 := ⟨_, rfl⟩
 have hbi : (b : Int) - 1 = (j0 : Int) := by omega
 obtain ⟨i0, hi1⟩ : ∃ b1, a + 1 = b1 := ⟨_, rfl⟩
 have hii1 : (a : Int) + 1 = (i0 : Int) := by omega
 have HE : Hid (∀ dk i j, swp d a p = dk -> scanUp (fun x => ltInt x dk[a]!) dk j0 i0 = i -> scanDown (fun x => !ltInt x dk[a]!) dk i j0 = j -> (i > j -> partition ltInt d a b p = (j, true, swp dk j a)) /\ (¬ i > j -> partition ltInt d a b p = ((partLoop ltInt a (i + 1) (j - 1) (swp dk i j)).1, false, swp (partLoop ltInt a (i + 1) (j - 1) (swp dk i j)).2 (partLoop ltInt a (i + 1) (j - 1) (swp dk i j)).1 a))) := zB (by
  intro dk i j h1 h2 h3
  subst h1 hi1 hb1 h2 h3
  constructor
  ·intro hgt
   show (if _ then _ else _) = _
   exact if_pos hgt
  ·intro hgt
   show (if _ then _ else _) = _
   exact if_neg hgt)
 have hj0 : j0 < n := by omega
 have hij0 : i0 <= j0 + 1 := by omega
 have hi0 : a < i0 := by omega
 have hpn : p < n := by omega
 have han : a < n := by omega
 obtain ⟨G, hG, hU⟩ := h.cells
 rw [hn] at hU
 have hcw := hU.c
 have hfw := hU.f
 have HG := zB hG
 have H := zB h
 have HN := zB hn
 clear hG hU h hn hb1 hi1
 go_enter Tryz.func174, Tryz.ntmps174
 go_wp2
 rcases Nat.eq_or_lt_of_le hap with hpa | hpa
 ·subst hpa
  go_region
  go_wp2
  have HR0 : Hid (zR w0 blk off (swp d a a) (((w.setCell ⟨blk, off + a, none⟩ (.int .u8 (G a))).setCell ⟨blk, off + a, none⟩ (.int .u8 (G a))).drewN 1)) := zB (by
   rw [zA HG]
   exact ((zA H).swap a a (by rw [zA HN]; omega) (by rw [zA HN]; omega)).drewN 1)
  have HS : Hid ((swp d a a).size = n) := zB (by rw [size_swp]; exact zA HN)
  clear H HN hcw hfw HG
  have HR0' : Hid (zR w0 blk off (swp d a a) ((w.setCell ⟨blk, off + a, none⟩ (.int .u8 (G a))).setCell ⟨blk, off + a, none⟩ (.int .u8 (G a))).drew) := HR0
  clear HR0
  have HR0 := HR0'
  clear HR0'
  generalize ((w.setCell ⟨blk, off + a, none⟩ (.int .u8 (G a))).setCell ⟨blk, off + a, none⟩ (.int .u8 (G a))).drew = wx at *
  obtain ⟨dk, hdk⟩ : ∃ dk, swp d a a = dk := ⟨_, rfl⟩
  have HDK := zB hdk
  rw [hdk] at HR0 HS
  have HE1 := zB (zA HE dk)
  clear hdk HE
  go_loopw [10] (fun v wr => ∃ i : Nat, v = .int .i64 i /\ i0 <= i /\ i <= j0 + 1 /\ Hid (zR w0 blk off dk wr) /\ Hid (scanUp (fun x => ltInt x dk[a]!) dk j0 i = scanUp (fun x => ltInt x dk[a]!) dk j0 i0)) (fun v _ => j0 + 1 - (intOf v).toNat)
  case atStart => exact ⟨i0, rfl, Nat.le_refl _, hij0, HR0, zB rfl⟩
  case round =>
   obtain ⟨i, rfl, hii, hij1, HR, HD⟩ := hrel
   obtain ⟨G, hG, hU⟩ := (zA HR).cells
   rw [zA HS] at hU
   have hcw := hU.c
   have hfw := hU.f
   have HG := zB hG
   clear hG hU
   go_wp2
   by_cases hle : i <= j0
   ·go_quiet (first | (go_at_call 172; refine Calls.quiet_of_same (zF _ _ _)))
    go_wp2
    ·have hl : ltInt (G i) (G a) = true := by assumption
     go_roundw
     case rel =>
      refine ⟨i + 1, by congr 1, by omega, by omega, zB ((zA HR).drewN nq), zB ?_⟩
      rw [← zA HD]
      exact (scanUp_go hle (by simpa only [← zA HG] using hl)).symm
     case measure => simp [intOf]; omega
    ·rename ltInt (G i) (G a) = false => hl
     have HI : Hid (scanUp (fun x => ltInt x dk[a]!) dk j0 i0 = i) := zB (by rw [← zA HD]; exact yL (Or.inr (by simpa only [← zA HG] using hl)))
     have HPI : Hid ((fun x => ltInt x dk[a]!) dk[i]! = false) := zB (by simpa only [← zA HG] using hl)
     have HR2 : Hid (zR w0 blk off dk (wr.drewN nq)) := zB ((zA HR).drewN nq)
     clear HD HR hl hcw hfw HG
     generalize wr.drewN nq = wy at *
     go_loopw [11] (fun v wr => ∃ j : Nat, v = .int .i64 j /\ i <= j + 1 /\ j <= j0 /\ Hid (zR w0 blk off dk wr) /\ Hid (scanDown (fun x => !ltInt x dk[a]!) dk i j = scanDown (fun x => !ltInt x dk[a]!) dk i j0)) (fun v _ => (intOf v).toNat)
     case atStart => exact ⟨j0, rfl, by omega, Nat.le_refl _, HR2, zB rfl⟩
     case round =>
      obtain ⟨j, rfl, hij, hjj, HR, HD⟩ := hrel
      obtain ⟨G, hG, hU⟩ := (zA HR).cells
      rw [zA HS] at hU
      have hcw := hU.c
      have hfw := hU.f
      have HG := zB hG
      clear hG hU
      go_wp2
      by_cases hle : i <= j
      ·go_quiet (first | (go_at_call 172; refine Calls.quiet_of_same (zF _ _ _)))
       go_wp2
       ·have hl : (!ltInt (G j) (G a)) = true := by assumption
        go_roundw
        case rel =>
         refine ⟨j - 1, by congr 1; omega, by omega, by omega, zB ((zA HR).drewN nq), zB ?_⟩
         rw [← zA HD]
         exact (scanDown_go (by omega) hle (by simpa only [← zA HG] using hl)).symm
        case measure => simp [intOf]; omega
       ·rename (!ltInt (G j) (G a)) = false => hl
        have HJ : Hid (scanDown (fun x => !ltInt x dk[a]!) dk i j0 = j) := zB (by rw [← zA HD]; exact zX (Or.inr (by simpa only [← zA HG] using hl)))
        have hlt : i < j := by
         have h1 := zA HPI
         have h2 : (fun x => !ltInt x dk[a]!) dk[j]! = false := by simpa only [← zA HG] using hl
         rcases Nat.lt_or_ge i j with h3 | h3
         ·exact h3
         ·obtain rfl : i = j := by omega
          simp at h1 h2
          simp [h1] at h2
        have HR3 : Hid (zR w0 blk off dk (wr.drewN nq)) := zB ((zA HR).drewN nq)
        have hcx : ∀ t, t < n -> (wr.drewN nq).cell? ⟨blk, off + t, none⟩ = some (.int .u8 (G t)) := hcw
        have hfx : ∀ t, t < n -> (wr.drewN nq).frozen? ⟨blk, off + t, none⟩ = false := hfw
        clear hcw hfw HD HR hl
        generalize wr.drewN nq = wz at *
        go_wp2
        go_region
        all_goals go_wp2
        generalize decide (j < i) = bq
        obtain ⟨r0, hr0⟩ : ∃ r0, partLoop ltInt a (i + 1) (j - 1) (swp dk i j) = r0 := ⟨_, rfl⟩
        have HE2 : Hid (partition ltInt d a b a = (r0.1, false, swp r0.2 r0.1 a)) := zB (by rw [← hr0]; exact (zA HE1 i j (zA HDK) (zA HI) (zA HJ)).2 (by omega))
        have HR0 : Hid (∀ q, zR w0 blk off (swp dk i j) (((wz.drewN q).setCell ⟨blk, off + i, none⟩ (.int .u8 (G j))).setCell ⟨blk, off + j, none⟩ (.int .u8 (G i)))) := zB fun q => by
         rw [zA HG, zA HG]
         exact ((zA HR3).drewN q).swap i j (by rw [zA HS]; omega) (by rw [zA HS]; omega)
        go_loopw [10, 11] (fun vi vj wr => ∃ (i0 j0 : Nat) (dk : Array Int), vi = .int .i64 i0 /\ vj = .int .i64 j0 /\ a < i0 /\ i0 <= j0 + 1 /\ j0 < n /\ Hid (dk.size = n) /\ Hid (zR w0 blk off dk wr) /\ Hid (partLoop ltInt a i0 j0 dk = r0)) (fun vi vj _ => (intOf vj).toNat + 1 - (intOf vi).toNat)
        case atStart => exact ⟨i + 1, j - 1, _, by congr 1, by congr 1; omega, by omega, by omega, by omega, zB (by rw [size_swp]; exact zA HS), zB (zA HR0 1), zB hr0⟩
        case round =>
         clear HR0 HG HS HR3 HE1 HDK HI HJ hr0 hcx hfx HPI
         obtain ⟨i0, j0, dk, rfl, rfl, hi0, hij0, hj0, HS, HR0, HK⟩ := hrel
         go_wp2
         go_loopw [10] (fun v wr => ∃ i : Nat, v = .int .i64 i /\ i0 <= i /\ i <= j0 + 1 /\ Hid (zR w0 blk off dk wr) /\ Hid (scanUp (fun x => ltInt x dk[a]!) dk j0 i = scanUp (fun x => ltInt x dk[a]!) dk j0 i0)) (fun v _ => j0 + 1 - (intOf v).toNat)
         case atStart => exact ⟨i0, rfl, Nat.le_refl _, hij0, HR0, zB rfl⟩
         case round =>
          obtain ⟨i, rfl, hii, hij1, HR, HD⟩ := hrel
          obtain ⟨G, hG, hU⟩ := (zA HR).cells
          rw [zA HS] at hU
          have hcw := hU.c
          have hfw := hU.f
          have HG := zB hG
          clear hG hU
          go_wp2
          by_cases hle : i <= j0
          ·go_quiet (first | (go_at_call 172; refine Calls.quiet_of_same (zF _ _ _)))
           go_wp2
           ·have hl : ltInt (G i) (G a) = true := by assumption
            go_roundw
            case rel =>
             refine ⟨i + 1, by congr 1, by omega, by omega, zB ((zA HR).drewN nq), zB ?_⟩
             rw [← zA HD]
             exact (scanUp_go hle (by simpa only [← zA HG] using hl)).symm
            case measure => simp [intOf]; omega
           ·rename ltInt (G i) (G a) = false => hl
            have HI : Hid (scanUp (fun x => ltInt x dk[a]!) dk j0 i0 = i) := zB (by rw [← zA HD]; exact yL (Or.inr (by simpa only [← zA HG] using hl)))
            have HPI : Hid ((fun x => ltInt x dk[a]!) dk[i]! = false) := zB (by simpa only [← zA HG] using hl)
            have HR2 : Hid (zR w0 blk off dk (wr.drewN nq)) := zB ((zA HR).drewN nq)
            clear HD HR hl hcw hfw HG
            generalize wr.drewN nq = wy at *
            go_loopw [11] (fun v wr => ∃ j : Nat, v = .int .i64 j /\ i <= j + 1 /\ j <= j0 /\ Hid (zR w0 blk off dk wr) /\ Hid (scanDown (fun x => !ltInt x dk[a]!) dk i j = scanDown (fun x => !ltInt x dk[a]!) dk i j0)) (fun v _ => (intOf v).toNat)
            case atStart => exact ⟨j0, rfl, by omega, Nat.le_refl _, HR2, zB rfl⟩
            case round =>
             obtain ⟨j, rfl, hij, hjj, HR, HD⟩ := hrel
             obtain ⟨G, hG, hU⟩ := (zA HR).cells
             rw [zA HS] at hU
             have hcw := hU.c
             have hfw := hU.f
             have HG := zB hG
             clear hG hU
             go_wp2
             by_cases hle : i <= j
             ·go_quiet (first | (go_at_call 172; refine Calls.quiet_of_same (zF _ _ _)))
              go_wp2
              ·have hl : (!ltInt (G j) (G a)) = true := by assumption
               go_roundw
               case rel =>
                refine ⟨j - 1, by congr 1; omega, by omega, by omega, zB ((zA HR).drewN nq), zB ?_⟩
                rw [← zA HD]
                exact (scanDown_go (by omega) hle (by simpa only [← zA HG] using hl)).symm
               case measure => simp [intOf]; omega
              ·rename (!ltInt (G j) (G a)) = false => hl
               have HJ : Hid (scanDown (fun x => !ltInt x dk[a]!) dk i j0 = j) := zB (by rw [← zA HD]; exact zX (Or.inr (by simpa only [← zA HG] using hl)))
               have hlt : i < j := by
                have h1 := zA HPI
                have h2 : (fun x => !ltInt x dk[a]!) dk[j]! = false := by simpa only [← zA HG] using hl
                rcases Nat.lt_or_ge i j with h3 | h3
                ·exact h3
                ·obtain rfl : i = j := by omega
                 simp at h1 h2
                 simp [h1] at h2
               have HR3 : Hid (zR w0 blk off dk (wr.drewN nq)) := zB ((zA HR).drewN nq)
               have hcx : ∀ t, t < n -> (wr.drewN nq).cell? ⟨blk, off + t, none⟩ = some (.int .u8 (G t)) := hcw
               have hfx : ∀ t, t < n -> (wr.drewN nq).frozen? ⟨blk, off + t, none⟩ = false := hfw
               clear hcw hfw HD HR hl
               generalize wr.drewN nq = wz at *
               go_wp2
               go_region
               all_goals go_wp2
               go_roundw
               case rel =>
                refine ⟨i + 1, j - 1, swp dk i j, by congr 1, by congr 1; omega, by omega, by omega, by omega, zB (by rw [size_swp]; exact zA HS), ?_, ?_⟩
                ·rw [zA HG, zA HG]
                 exact zB (((zA HR3).drewN _).swap i j (by rw [zA HS]; omega) (by rw [zA HS]; omega))
                ·refine zB ?_
                 have he := zA HK
                 rw [partLoop_eq, zA HI, zA HJ, if_neg (by omega)] at he
                 exact he
               case measure => simp [intOf]; omega
             ·go_quiet (first | (go_at_call 172; refine Calls.quiet_of_same (zF _ _ _)))
              go_wp2
              have HJ : Hid (scanDown (fun x => !ltInt x dk[a]!) dk i j0 = j) := zB (by rw [← zA HD]; exact zX (Or.inl (by omega)))
              have HR3 : Hid (zR w0 blk off dk (wr.drewN nq)) := zB ((zA HR).drewN nq)
              have hcx : ∀ t, t < n -> (wr.drewN nq).cell? ⟨blk, off + t, none⟩ = some (.int .u8 (G t)) := hcw
              have hfx : ∀ t, t < n -> (wr.drewN nq).frozen? ⟨blk, off + t, none⟩ = false := hfw
              clear hcw hfw HD HR
              generalize wr.drewN nq = wz at *
              have haj : a <= j := by omega
              go_wp2
              rcases Nat.eq_or_lt_of_le haj with hja | hja
              ·have hja2 : j = a := hja.symm
               rw [hja2]
               have HJA := zB hja2
               clear hja hja2
               go_region
               go_wp2
               go_ret2
               have he := zA HK
               rw [partLoop_eq, zA HI, zA HJ, if_pos (by omega)] at he
               have hf := zA HE2
               rw [← he] at hf
               rw [hf, zA HJA]
               refine ⟨rfl, ?_⟩
               rw [zA HG]
               exact ((zA HR3).drewN 1).swap a a (by rw [zA HS]; omega) (by rw [zA HS]; omega)
              ·go_region
               go_wp2
               go_ret2
               have he := zA HK
               rw [partLoop_eq, zA HI, zA HJ, if_pos (by omega)] at he
               have hf := zA HE2
               rw [← he] at hf
               rw [hf]
               refine ⟨rfl, ?_⟩
               rw [zA HG, zA HG]
               exact ((zA HR3).drewN 1).swap j a (by rw [zA HS]; omega) (by rw [zA HS]; omega)
          ·go_quiet (first | (go_at_call 172; refine Calls.quiet_of_same (zF _ _ _)))
           go_wp2
           have HI : Hid (scanUp (fun x => ltInt x dk[a]!) dk j0 i0 = i) := zB (by rw [← zA HD]; exact yL (Or.inl (by omega)))
           have HR2 : Hid (zR w0 blk off dk (wr.drewN nq)) := zB ((zA HR).drewN nq)
           clear HD HR hcw hfw HG
           generalize wr.drewN nq = wy at *
           go_loopw [11] (fun v wr => v = .int .i64 j0 /\ Hid (zR w0 blk off dk wr)) (fun v _ => 0)
           case atStart => exact ⟨rfl, HR2⟩
           case round =>
            obtain ⟨rfl, HR⟩ := hrel
            obtain ⟨G, hG, hU⟩ := (zA HR).cells
            rw [zA HS] at hU
            have hcw := hU.c
            have hfw := hU.f
            have HG := zB hG
            clear hG hU
            go_wp2
            go_quiet (first | (go_at_call 172; refine Calls.quiet_of_same (zF _ _ _)))
            go_wp2
            have HJ : Hid (scanDown (fun x => !ltInt x dk[a]!) dk i j0 = j0) := zB (zX (Or.inl (by omega)))
            obtain ⟨j, hj⟩ : ∃ j, j = j0 := ⟨_, rfl⟩
            have HR3 : Hid (zR w0 blk off dk (wr.drewN nq)) := zB ((zA HR).drewN nq)
            have hcx : ∀ t, t < n -> (wr.drewN nq).cell? ⟨blk, off + t, none⟩ = some (.int .u8 (G t)) := hcw
            have hfx : ∀ t, t < n -> (wr.drewN nq).frozen? ⟨blk, off + t, none⟩ = false := hfw
            clear hcw hfw HR
            generalize wr.drewN nq = wz at *
            have haj : a <= j0 := by omega
            go_wp2
            rcases Nat.eq_or_lt_of_le haj with hja | hja
            ·have hja2 : j0 = a := hja.symm
             rw [hja2]
             have HJA := zB hja2
             clear hja hja2
             go_region
             go_wp2
             go_ret2
             have he := zA HK
             rw [partLoop_eq, zA HI, zA HJ, if_pos (by omega)] at he
             have hf := zA HE2
             rw [← he] at hf
             rw [hf, zA HJA]
             refine ⟨rfl, ?_⟩
             rw [zA HG]
             exact ((zA HR3).drewN 1).swap a a (by rw [zA HS]; omega) (by rw [zA HS]; omega)
            ·go_region
             go_wp2
             go_ret2
             have he := zA HK
             rw [partLoop_eq, zA HI, zA HJ, if_pos (by omega)] at he
             have hf := zA HE2
             rw [← he] at hf
             rw [hf]
             refine ⟨rfl, ?_⟩
             rw [zA HG, zA HG]
             exact ((zA HR3).drewN 1).swap j0 a (by rw [zA HS]; omega) (by rw [zA HS]; omega)
      ·go_quiet (first | (go_at_call 172; refine Calls.quiet_of_same (zF _ _ _)))
       go_wp2
       have HJ : Hid (scanDown (fun x => !ltInt x dk[a]!) dk i j0 = j) := zB (by rw [← zA HD]; exact zX (Or.inl (by omega)))
       have HR3 : Hid (zR w0 blk off dk (wr.drewN nq)) := zB ((zA HR).drewN nq)
       have hcx : ∀ t, t < n -> (wr.drewN nq).cell? ⟨blk, off + t, none⟩ = some (.int .u8 (G t)) := hcw
       have hfx : ∀ t, t < n -> (wr.drewN nq).frozen? ⟨blk, off + t, none⟩ = false := hfw
       clear hcw hfw HD HR
       generalize wr.drewN nq = wz at *
       have haj : a <= j := by omega
       go_wp2
       rcases Nat.eq_or_lt_of_le haj with hja | hja
       ·have hja2 : j = a := hja.symm
        rw [hja2]
        have HJA := zB hja2
        clear hja hja2
        go_region
        go_wp2
        go_ret2
        have he := (zA HE1 i j (zA HDK) (zA HI) (zA HJ)).1 (by omega)
        rw [he, zA HJA]
        refine ⟨rfl, ?_⟩
        rw [zA HG]
        exact ((zA HR3).drewN 1).swap a a (by rw [zA HS]; omega) (by rw [zA HS]; omega)
       ·go_region
        go_wp2
        go_ret2
        have he := (zA HE1 i j (zA HDK) (zA HI) (zA HJ)).1 (by omega)
        rw [he]
        refine ⟨rfl, ?_⟩
        rw [zA HG, zA HG]
        exact ((zA HR3).drewN 1).swap j a (by rw [zA HS]; omega) (by rw [zA HS]; omega)
   ·go_quiet (first | (go_at_call 172; refine Calls.quiet_of_same (zF _ _ _)))
    go_wp2
    have HI : Hid (scanUp (fun x => ltInt x dk[a]!) dk j0 i0 = i) := zB (by rw [← zA HD]; exact yL (Or.inl (by omega)))
    have HR2 : Hid (zR w0 blk off dk (wr.drewN nq)) := zB ((zA HR).drewN nq)
    clear HD HR hcw hfw HG
    generalize wr.drewN nq = wy at *
    go_loopw [11] (fun v wr => v = .int .i64 j0 /\ Hid (zR w0 blk off dk wr)) (fun v _ => 0)
    case atStart => exact ⟨rfl, HR2⟩
    case round =>
     obtain ⟨rfl, HR⟩ := hrel
     obtain ⟨G, hG, hU⟩ := (zA HR).cells
     rw [zA HS] at hU
     have hcw := hU.c
     have hfw := hU.f
     have HG := zB hG
     clear hG hU
     go_wp2
     go_quiet (first | (go_at_call 172; refine Calls.quiet_of_same (zF _ _ _)))
     go_wp2
     have HJ : Hid (scanDown (fun x => !ltInt x dk[a]!) dk i j0 = j0) := zB (zX (Or.inl (by omega)))
     obtain ⟨j, hj⟩ : ∃ j, j = j0 := ⟨_, rfl⟩
     have HR3 : Hid (zR w0 blk off dk (wr.drewN nq)) := zB ((zA HR).drewN nq)
     have hcx : ∀ t, t < n -> (wr.drewN nq).cell? ⟨blk, off + t, none⟩ = some (.int .u8 (G t)) := hcw
     have hfx : ∀ t, t < n -> (wr.drewN nq).frozen? ⟨blk, off + t, none⟩ = false := hfw
     clear hcw hfw HR
     generalize wr.drewN nq = wz at *
     have haj : a <= j0 := by omega
     go_wp2
     rcases Nat.eq_or_lt_of_le haj with hja | hja
     ·have hja2 : j0 = a := hja.symm
      rw [hja2]
      have HJA := zB hja2
      clear hja hja2
      go_region
      go_wp2
      go_ret2
      have he := (zA HE1 i j0 (zA HDK) (zA HI) (zA HJ)).1 (by omega)
      rw [he, zA HJA]
      refine ⟨rfl, ?_⟩
      rw [zA HG]
      exact ((zA HR3).drewN 1).swap a a (by rw [zA HS]; omega) (by rw [zA HS]; omega)
     ·go_region
      go_wp2
      go_ret2
      have he := (zA HE1 i j0 (zA HDK) (zA HI) (zA HJ)).1 (by omega)
      rw [he]
      refine ⟨rfl, ?_⟩
      rw [zA HG, zA HG]
      exact ((zA HR3).drewN 1).swap j0 a (by rw [zA HS]; omega) (by rw [zA HS]; omega)
 ·skip
  go_region
  go_wp2
  have HR0 : Hid (zR w0 blk off (swp d a p) (((w.setCell ⟨blk, off + a, none⟩ (.int .u8 (G p))).setCell ⟨blk, off + p, none⟩ (.int .u8 (G a))).drewN 1)) := zB (by
   rw [zA HG, zA HG]
   exact ((zA H).swap a p (by rw [zA HN]; omega) (by rw [zA HN]; omega)).drewN 1)
  have HS : Hid ((swp d a p).size = n) := zB (by rw [size_swp]; exact zA HN)
  clear H HN hcw hfw HG
  have HR0' : Hid (zR w0 blk off (swp d a p) ((w.setCell ⟨blk, off + a, none⟩ (.int .u8 (G p))).setCell ⟨blk, off + p, none⟩ (.int .u8 (G a))).drew) := HR0
  clear HR0
  have HR0 := HR0'
  clear HR0'
  generalize ((w.setCell ⟨blk, off + a, none⟩ (.int .u8 (G p))).setCell ⟨blk, off + p, none⟩ (.int .u8 (G a))).drew = wx at *
  obtain ⟨dk, hdk⟩ : ∃ dk, swp d a p = dk := ⟨_, rfl⟩
  have HDK := zB hdk
  rw [hdk] at HR0 HS
  have HE1 := zB (zA HE dk)
  clear hdk HE
  go_loopw [10] (fun v wr => ∃ i : Nat, v = .int .i64 i /\ i0 <= i /\ i <= j0 + 1 /\ Hid (zR w0 blk off dk wr) /\ Hid (scanUp (fun x => ltInt x dk[a]!) dk j0 i = scanUp (fun x => ltInt x dk[a]!) dk j0 i0)) (fun v _ => j0 + 1 - (intOf v).toNat)
  case atStart => exact ⟨i0, rfl, Nat.le_refl _, hij0, HR0, zB rfl⟩
  case round =>
   obtain ⟨i, rfl, hii, hij1, HR, HD⟩ := hrel
   obtain ⟨G, hG, hU⟩ := (zA HR).cells
   rw [zA HS] at hU
   have hcw := hU.c
   have hfw := hU.f
   have HG := zB hG
   clear hG hU
   go_wp2
   by_cases hle : i <= j0
   ·go_quiet (first | (go_at_call 172; refine Calls.quiet_of_same (zF _ _ _)))
    go_wp2
    ·have hl : ltInt (G i) (G a) = true := by assumption
     go_roundw
     case rel =>
      refine ⟨i + 1, by congr 1, by omega, by omega, zB ((zA HR).drewN nq), zB ?_⟩
      rw [← zA HD]
      exact (scanUp_go hle (by simpa only [← zA HG] using hl)).symm
     case measure => simp [intOf]; omega
    ·rename ltInt (G i) (G a) = false => hl
     have HI : Hid (scanUp (fun x => ltInt x dk[a]!) dk j0 i0 = i) := zB (by rw [← zA HD]; exact yL (Or.inr (by simpa only [← zA HG] using hl)))
     have HPI : Hid ((fun x => ltInt x dk[a]!) dk[i]! = false) := zB (by simpa only [← zA HG] using hl)
     have HR2 : Hid (zR w0 blk off dk (wr.drewN nq)) := zB ((zA HR).drewN nq)
     clear HD HR hl hcw hfw HG
     generalize wr.drewN nq = wy at *
     go_loopw [11] (fun v wr => ∃ j : Nat, v = .int .i64 j /\ i <= j + 1 /\ j <= j0 /\ Hid (zR w0 blk off dk wr) /\ Hid (scanDown (fun x => !ltInt x dk[a]!) dk i j = scanDown (fun x => !ltInt x dk[a]!) dk i j0)) (fun v _ => (intOf v).toNat)
     case atStart => exact ⟨j0, rfl, by omega, Nat.le_refl _, HR2, zB rfl⟩
     case round =>
      obtain ⟨j, rfl, hij, hjj, HR, HD⟩ := hrel
      obtain ⟨G, hG, hU⟩ := (zA HR).cells
      rw [zA HS] at hU
      have hcw := hU.c
      have hfw := hU.f
      have HG := zB hG
      clear hG hU
      go_wp2
      by_cases hle : i <= j
      ·go_quiet (first | (go_at_call 172; refine Calls.quiet_of_same (zF _ _ _)))
       go_wp2
       ·have hl : (!ltInt (G j) (G a)) = true := by assumption
        go_roundw
        case rel =>
         refine ⟨j - 1, by congr 1; omega, by omega, by omega, zB ((zA HR).drewN nq), zB ?_⟩
         rw [← zA HD]
         exact (scanDown_go (by omega) hle (by simpa only [← zA HG] using hl)).symm
        case measure => simp [intOf]; omega
       ·rename (!ltInt (G j) (G a)) = false => hl
        have HJ : Hid (scanDown (fun x => !ltInt x dk[a]!) dk i j0 = j) := zB (by rw [← zA HD]; exact zX (Or.inr (by simpa only [← zA HG] using hl)))
        have hlt : i < j := by
         have h1 := zA HPI
         have h2 : (fun x => !ltInt x dk[a]!) dk[j]! = false := by simpa only [← zA HG] using hl
         rcases Nat.lt_or_ge i j with h3 | h3
         ·exact h3
         ·obtain rfl : i = j := by omega
          simp at h1 h2
          simp [h1] at h2
        have HR3 : Hid (zR w0 blk off dk (wr.drewN nq)) := zB ((zA HR).drewN nq)
        have hcx : ∀ t, t < n -> (wr.drewN nq).cell? ⟨blk, off + t, none⟩ = some (.int .u8 (G t)) := hcw
        have hfx : ∀ t, t < n -> (wr.drewN nq).frozen? ⟨blk, off + t, none⟩ = false := hfw
        clear hcw hfw HD HR hl
        generalize wr.drewN nq = wz at *
        go_wp2
        go_region
        all_goals go_wp2
        generalize decide (j < i) = bq
        obtain ⟨r0, hr0⟩ : ∃ r0, partLoop ltInt a (i + 1) (j - 1) (swp dk i j) = r0 := ⟨_, rfl⟩
        have HE2 : Hid (partition ltInt d a b p = (r0.1, false, swp r0.2 r0.1 a)) := zB (by rw [← hr0]; exact (zA HE1 i j (zA HDK) (zA HI) (zA HJ)).2 (by omega))
        have HR0 : Hid (∀ q, zR w0 blk off (swp dk i j) (((wz.drewN q).setCell ⟨blk, off + i, none⟩ (.int .u8 (G j))).setCell ⟨blk, off + j, none⟩ (.int .u8 (G i)))) := zB fun q => by
         rw [zA HG, zA HG]
         exact ((zA HR3).drewN q).swap i j (by rw [zA HS]; omega) (by rw [zA HS]; omega)
        go_loopw [10, 11] (fun vi vj wr => ∃ (i0 j0 : Nat) (dk : Array Int), vi = .int .i64 i0 /\ vj = .int .i64 j0 /\ a < i0 /\ i0 <= j0 + 1 /\ j0 < n /\ Hid (dk.size = n) /\ Hid (zR w0 blk off dk wr) /\ Hid (partLoop ltInt a i0 j0 dk = r0)) (fun vi vj _ => (intOf vj).toNat + 1 - (intOf vi).toNat)
        case atStart => exact ⟨i + 1, j - 1, _, by congr 1, by congr 1; omega, by omega, by omega, by omega, zB (by rw [size_swp]; exact zA HS), zB (zA HR0 1), zB hr0⟩
        case round =>
         clear HR0 HG HS HR3 HE1 HDK HI HJ hr0 hcx hfx HPI
         obtain ⟨i0, j0, dk, rfl, rfl, hi0, hij0, hj0, HS, HR0, HK⟩ := hrel
         go_wp2
         go_loopw [10] (fun v wr => ∃ i : Nat, v = .int .i64 i /\ i0 <= i /\ i <= j0 + 1 /\ Hid (zR w0 blk off dk wr) /\ Hid (scanUp (fun x => ltInt x dk[a]!) dk j0 i = scanUp (fun x => ltInt x dk[a]!) dk j0 i0)) (fun v _ => j0 + 1 - (intOf v).toNat)
         case atStart => exact ⟨i0, rfl, Nat.le_refl _, hij0, HR0, zB rfl⟩
         case round =>
          obtain ⟨i, rfl, hii, hij1, HR, HD⟩ := hrel
          obtain ⟨G, hG, hU⟩ := (zA HR).cells
          rw [zA HS] at hU
          have hcw := hU.c
          have hfw := hU.f
          have HG := zB hG
          clear hG hU
          go_wp2
          by_cases hle : i <= j0
          ·go_quiet (first | (go_at_call 172; refine Calls.quiet_of_same (zF _ _ _)))
           go_wp2
           ·have hl : ltInt (G i) (G a) = true := by assumption
            go_roundw
            case rel =>
             refine ⟨i + 1, by congr 1, by omega, by omega, zB ((zA HR).drewN nq), zB ?_⟩
             rw [← zA HD]
             exact (scanUp_go hle (by simpa only [← zA HG] using hl)).symm
            case measure => simp [intOf]; omega
           ·rename ltInt (G i) (G a) = false => hl
            have HI : Hid (scanUp (fun x => ltInt x dk[a]!) dk j0 i0 = i) := zB (by rw [← zA HD]; exact yL (Or.inr (by simpa only [← zA HG] using hl)))
            have HPI : Hid ((fun x => ltInt x dk[a]!) dk[i]! = false) := zB (by simpa only [← zA HG] using hl)
            have HR2 : Hid (zR w0 blk off dk (wr.drewN nq)) := zB ((zA HR).drewN nq)
            clear HD HR hl hcw hfw HG
            generalize wr.drewN nq = wy at *
            go_loopw [11] (fun v wr => ∃ j : Nat, v = .int .i64 j /\ i <= j + 1 /\ j <= j0 /\ Hid (zR w0 blk off dk wr) /\ Hid (scanDown (fun x => !ltInt x dk[a]!) dk i j = scanDown (fun x => !ltInt x dk[a]!) dk i j0)) (fun v _ => (intOf v).toNat)
            case atStart => exact ⟨j0, rfl, by omega, Nat.le_refl _, HR2, zB rfl⟩
            case round =>
             obtain ⟨j, rfl, hij, hjj, HR, HD⟩ := hrel
             obtain ⟨G, hG, hU⟩ := (zA HR).cells
             rw [zA HS] at hU
             have hcw := hU.c
             have hfw := hU.f
             have HG := zB hG
             clear hG hU
             go_wp2
             by_cases hle : i <= j
             ·go_quiet (first | (go_at_call 172; refine Calls.quiet_of_same (zF _ _ _)))
              go_wp2
              ·have hl : (!ltInt (G j) (G a)) = true := by assumption
               go_roundw
               case rel =>
                refine ⟨j - 1, by congr 1; omega, by omega, by omega, zB ((zA HR).drewN nq), zB ?_⟩
                rw [← zA HD]
                exact (scanDown_go (by omega) hle (by simpa only [← zA HG] using hl)).symm
               case measure => simp [intOf]; omega
              ·rename (!ltInt (G j) (G a)) = false => hl
               have HJ : Hid (scanDown (fun x => !ltInt x dk[a]!) dk i j0 = j) := zB (by rw [← zA HD]; exact zX (Or.inr (by simpa only [← zA HG] using hl)))
               have hlt : i < j := by
                have h1 := zA HPI
                have h2 : (fun x => !ltInt x dk[a]!) dk[j]! = false := by simpa only [← zA HG] using hl
                rcases Nat.lt_or_ge i j with h3 | h3
                ·exact h3
                ·obtain rfl : i = j := by omega
                 simp at h1 h2
                 simp [h1] at h2
               have HR3 : Hid (zR w0 blk off dk (wr.drewN nq)) := zB ((zA HR).drewN nq)
               have hcx : ∀ t, t < n -> (wr.drewN nq).cell? ⟨blk, off + t, none⟩ = some (.int .u8 (G t)) := hcw
               have hfx : ∀ t, t < n -> (wr.drewN nq).frozen? ⟨blk, off + t, none⟩ = false := hfw
               clear hcw hfw HD HR hl
               generalize wr.drewN nq = wz at *
               go_wp2
               go_region
               all_goals go_wp2
               go_roundw
               case rel =>
                refine ⟨i + 1, j - 1, swp dk i j, by congr 1, by congr 1; omega, by omega, by omega, by omega, zB (by rw [size_swp]; exact zA HS), ?_, ?_⟩
                ·rw [zA HG, zA HG]
                 exact zB (((zA HR3).drewN _).swap i j (by rw [zA HS]; omega) (by rw [zA HS]; omega))
                ·refine zB ?_
                 have he := zA HK
                 rw [partLoop_eq, zA HI, zA HJ, if_neg (by omega)] at he
                 exact he
               case measure => simp [intOf]; omega
             ·go_quiet (first | (go_at_call 172; refine Calls.quiet_of_same (zF _ _ _)))
              go_wp2
              have HJ : Hid (scanDown (fun x => !ltInt x dk[a]!) dk i j0 = j) := zB (by rw [← zA HD]; exact zX (Or.inl (by omega)))
              have HR3 : Hid (zR w0 blk off dk (wr.drewN nq)) := zB ((zA HR).drewN nq)
              have hcx : ∀ t, t < n -> (wr.drewN nq).cell? ⟨blk, off + t, none⟩ = some (.int .u8 (G t)) := hcw
              have hfx : ∀ t, t < n -> (wr.drewN nq).frozen? ⟨blk, off + t, none⟩ = false := hfw
              clear hcw hfw HD HR
              generalize wr.drewN nq = wz at *
              have haj : a <= j := by omega
              go_wp2
              rcases Nat.eq_or_lt_of_le haj with hja | hja
              ·have hja2 : j = a := hja.symm
               rw [hja2]
               have HJA := zB hja2
               clear hja hja2
               go_region
               go_wp2
               go_ret2
               have he := zA HK
               rw [partLoop_eq, zA HI, zA HJ, if_pos (by omega)] at he
               have hf := zA HE2
               rw [← he] at hf
               rw [hf, zA HJA]
               refine ⟨rfl, ?_⟩
               rw [zA HG]
               exact ((zA HR3).drewN 1).swap a a (by rw [zA HS]; omega) (by rw [zA HS]; omega)
              ·go_region
               go_wp2
               go_ret2
               have he := zA HK
               rw [partLoop_eq, zA HI, zA HJ, if_pos (by omega)] at he
               have hf := zA HE2
               rw [← he] at hf
               rw [hf]
               refine ⟨rfl, ?_⟩
               rw [zA HG, zA HG]
               exact ((zA HR3).drewN 1).swap j a (by rw [zA HS]; omega) (by rw [zA HS]; omega)
          ·go_quiet (first | (go_at_call 172; refine Calls.quiet_of_same (zF _ _ _)))
           go_wp2
           have HI : Hid (scanUp (fun x => ltInt x dk[a]!) dk j0 i0 = i) := zB (by rw [← zA HD]; exact yL (Or.inl (by omega)))
           have HR2 : Hid (zR w0 blk off dk (wr.drewN nq)) := zB ((zA HR).drewN nq)
           clear HD HR hcw hfw HG
           generalize wr.drewN nq = wy at *
           go_loopw [11] (fun v wr => v = .int .i64 j0 /\ Hid (zR w0 blk off dk wr)) (fun v _ => 0)
           case atStart => exact ⟨rfl, HR2⟩
           case round =>
            obtain ⟨rfl, HR⟩ := hrel
            obtain ⟨G, hG, hU⟩ := (zA HR).cells
            rw [zA HS] at hU
            have hcw := hU.c
            have hfw := hU.f
            have HG := zB hG
            clear hG hU
            go_wp2
            go_quiet (first | (go_at_call 172; refine Calls.quiet_of_same (zF _ _ _)))
            go_wp2
            have HJ : Hid (scanDown (fun x => !ltInt x dk[a]!) dk i j0 = j0) := zB (zX (Or.inl (by omega)))
            obtain ⟨j, hj⟩ : ∃ j, j = j0 := ⟨_, rfl⟩
            have HR3 : Hid (zR w0 blk off dk (wr.drewN nq)) := zB ((zA HR).drewN nq)
            have hcx : ∀ t, t < n -> (wr.drewN nq).cell? ⟨blk, off + t, none⟩ = some (.int .u8 (G t)) := hcw
            have hfx : ∀ t, t < n -> (wr.drewN nq).frozen? ⟨blk, off + t, none⟩ = false := hfw
            clear hcw hfw HR
            generalize wr.drewN nq = wz at *
            have haj : a <= j0 := by omega
            go_wp2
            rcases Nat.eq_or_lt_of_le haj with hja | hja
            ·have hja2 : j0 = a := hja.symm
             rw [hja2]
             have HJA := zB hja2
             clear hja hja2
             go_region
             go_wp2
             go_ret2
             have he := zA HK
             rw [partLoop_eq, zA HI, zA HJ, if_pos (by omega)] at he
             have hf := zA HE2
             rw [← he] at hf
             rw [hf, zA HJA]
             refine ⟨rfl, ?_⟩
             rw [zA HG]
             exact ((zA HR3).drewN 1).swap a a (by rw [zA HS]; omega) (by rw [zA HS]; omega)
            ·go_region
             go_wp2
             go_ret2
             have he := zA HK
             rw [partLoop_eq, zA HI, zA HJ, if_pos (by omega)] at he
             have hf := zA HE2
             rw [← he] at hf
             rw [hf]
             refine ⟨rfl, ?_⟩
             rw [zA HG, zA HG]
             exact ((zA HR3).drewN 1).swap j0 a (by rw [zA HS]; omega) (by rw [zA HS]; omega)
      ·go_quiet (first | (go_at_call 172; refine Calls.quiet_of_same (zF _ _ _)))
       go_wp2
       have HJ : Hid (scanDown (fun x => !ltInt x dk[a]!) dk i j0 = j) := zB (by rw [← zA HD]; exact zX (Or.inl (by omega)))
       have HR3 : Hid (zR w0 blk off dk (wr.drewN nq)) := zB ((zA HR).drewN nq)
       have hcx : ∀ t, t < n -> (wr.drewN nq).cell? ⟨blk, off + t, none⟩ = some (.int .u8 (G t)) := hcw
       have hfx : ∀ t, t < n -> (wr.drewN nq).frozen? ⟨blk, off + t, none⟩ = false := hfw
       clear hcw hfw HD HR
       generalize wr.drewN nq = wz at *
       have haj : a <= j := by omega
       go_wp2
       rcases Nat.eq_or_lt_of_le haj with hja | hja
       ·have hja2 : j = a := hja.symm
        rw [hja2]
        have HJA := zB hja2
        clear hja hja2
        go_region
        go_wp2
        go_ret2
        have he := (zA HE1 i j (zA HDK) (zA HI) (zA HJ)).1 (by omega)
        rw [he, zA HJA]
        refine ⟨rfl, ?_⟩
        rw [zA HG]
        exact ((zA HR3).drewN 1).swap a a (by rw [zA HS]; omega) (by rw [zA HS]; omega)
       ·go_region
        go_wp2
        go_ret2
        have he := (zA HE1 i j (zA HDK) (zA HI) (zA HJ)).1 (by omega)
        rw [he]
        refine ⟨rfl, ?_⟩
        rw [zA HG, zA HG]
        exact ((zA HR3).drewN 1).swap j a (by rw [zA HS]; omega) (by rw [zA HS]; omega)
   ·go_quiet (first | (go_at_call 172; refine Calls.quiet_of_same (zF _ _ _)))
    go_wp2
    have HI : Hid (scanUp (fun x => ltInt x dk[a]!) dk j0 i0 = i) := zB (by rw [← zA HD]; exact yL (Or.inl (by omega)))
    have HR2 : Hid (zR w0 blk off dk (wr.drewN nq)) := zB ((zA HR).drewN nq)
    clear HD HR hcw hfw HG
    generalize wr.drewN nq = wy at *
    go_loopw [11] (fun v wr => v = .int .i64 j0 /\ Hid (zR w0 blk off dk wr)) (fun v _ => 0)
    case atStart => exact ⟨rfl, HR2⟩
    case round =>
     obtain ⟨rfl, HR⟩ := hrel
     obtain ⟨G, hG, hU⟩ := (zA HR).cells
     rw [zA HS] at hU
     have hcw := hU.c
     have hfw := hU.f
     have HG := zB hG
     clear hG hU
     go_wp2
     go_quiet (first | (go_at_call 172; refine Calls.quiet_of_same (zF _ _ _)))
     go_wp2
     have HJ : Hid (scanDown (fun x => !ltInt x dk[a]!) dk i j0 = j0) := zB (zX (Or.inl (by omega)))
     obtain ⟨j, hj⟩ : ∃ j, j = j0 := ⟨_, rfl⟩
     have HR3 : Hid (zR w0 blk off dk (wr.drewN nq)) := zB ((zA HR).drewN nq)
     have hcx : ∀ t, t < n -> (wr.drewN nq).cell? ⟨blk, off + t, none⟩ = some (.int .u8 (G t)) := hcw
     have hfx : ∀ t, t < n -> (wr.drewN nq).frozen? ⟨blk, off + t, none⟩ = false := hfw
     clear hcw hfw HR
     generalize wr.drewN nq = wz at *
     have haj : a <= j0 := by omega
     go_wp2
     rcases Nat.eq_or_lt_of_le haj with hja | hja
     ·have hja2 : j0 = a := hja.symm
      rw [hja2]
      have HJA := zB hja2
      clear hja hja2
      go_region
      go_wp2
      go_ret2
      have he := (zA HE1 i j0 (zA HDK) (zA HI) (zA HJ)).1 (by omega)
      rw [he, zA HJA]
      refine ⟨rfl, ?_⟩
      rw [zA HG]
      exact ((zA HR3).drewN 1).swap a a (by rw [zA HS]; omega) (by rw [zA HS]; omega)
     ·go_region
      go_wp2
      go_ret2
      have he := (zA HE1 i j0 (zA HDK) (zA HI) (zA HJ)).1 (by omega)
      rw [he]
      refine ⟨rfl, ?_⟩
      rw [zA HG, zA HG]
      exact ((zA HR3).drewN 1).swap j0 a (by rw [zA HS]; omega) (by rw [zA HS]; omega)
end Go.Proofs.YtfpohfifdfbpkaaGreatDoor
namespace Go.Proofs.YtfpohfifdfbpkaaGreatDoor
open Go.RowKit Go.Shelf Go.Lib Go.Sort
set_option maxHeartbeats 32000000 in
set_option maxRecDepth 100000 in
theorem uPartial (w0 : World) (blk off cap a b n : Nat) (d : Array Int) (w : World) (hn : d.size = n) (h : zR w0 blk off d w) (hab : a < b) (hb : b <= n) (hsz : n < 2305843009213693952) :
 Calls Tryz.prog 171 #[.slice (some ⟨blk, off, none⟩) n cap, .int .i64 a, .int .i64 b] w fun e w' => e = .returned (.bool (partialInsertionSort ltInt d a b).2) /\ zR w0 blk off (partialInsertionSort ltInt d a b).1 w' := by
 have H := zB h
 have HN := zB hn
 have HE : Hid (partialIns ltInt a b (5 - 0) (a + 1) d = partialInsertionSort ltInt d a b) := zB rfl
 generalize partialInsertionSort ltInt d a b = res at *
 obtain ⟨e, he⟩ : ∃ e, e = b - a := ⟨_, rfl⟩
 have hei : (b : Int) - (a : Int) = (e : Int) := by omega
 clear h hn
 go_enter Tryz.func171, Tryz.ntmps171
 go_wp2
 go_loopw [7, 8] (fun v7 v8 wr => ∃ (k i : Nat) (dk : Array Int), v7 = .int .i64 i /\ v8 = .int .i64 k /\ k <= 5 /\ a < i /\ i <= b /\ Hid (dk.size = n) /\ Hid (zR w0 blk off dk wr) /\ Hid (partialIns ltInt a b (5 - k) i dk = res)) (fun _ v8 _ => 5 - (intOf v8).toNat)
 case atStart => exact ⟨0, a + 1, d, by go_num, rfl, by omega, by omega, by omega, HN, H, HE⟩
 case round =>
  clear H HN HE
  obtain ⟨k, i0, dk, rfl, rfl, hk, hai, hib, HS, HR0, HK⟩ := hrel
  by_cases hk5 : k < 5
  ·go_wp2
   go_loopw [7] (fun v wr => ∃ i : Nat, v = .int .i64 i /\ i0 <= i /\ i <= b /\ Hid (zR w0 blk off dk wr) /\ Hid (scanSorted ltInt dk b i = scanSorted ltInt dk b i0)) (fun v _ => b - (intOf v).toNat)
   case atStart => exact ⟨i0, rfl, Nat.le_refl _, hib, HR0, zB rfl⟩
   case round =>
    clear HR0
    obtain ⟨i, rfl, hii, hib2, HR, HD⟩ := hrel
    obtain ⟨G, hG, hU⟩ := (zA HR).cells
    rw [zA HS] at hU
    have hcw := hU.c
    have hfw := hU.f
    have HG := zB hG
    clear hG hU
    go_wp2
    by_cases hlt : i < b
    ·by_cases h50 : e < 50
     ·skip
      go_quiet (first | (go_at_call 172; refine Calls.quiet_of_same (zF _ _ _)))
      go_wp2
      ·rename (!ltInt (G i) (G (i - 1))) = true => hl
       go_roundw
       case rel =>
        refine ⟨i + 1, by congr 1, by omega, by omega, zB ((zA HR).drewN nq), zB ?_⟩
        rw [← zA HD]
        conv => rhs; rw [scanSorted, if_pos (by simp only [zA HG] at hl; simp [hlt]; simpa using hl)]
       case measure => simp [intOf]; omega
      ·rename (!ltInt (G i) (G (i - 1))) = false => hl
       have HI : Hid (scanSorted ltInt dk b i0 = i) := zB (by rw [← zA HD, scanSorted, if_neg (by simp only [zA HG] at hl; simp [hl])])
       clear hl HD
       go_ret
       have hq := zA HK
       rw [show 5 - k = (5 - (k + 1)) + 1 by omega, partialIns_succ, zA HI, if_neg (by omega), if_pos (by omega)] at hq
       rw [← hq]
       exact ⟨rfl, (zA HR).drewN _⟩
     ·skip
      go_quiet (first | (go_at_call 172; refine Calls.quiet_of_same (zF _ _ _)))
      go_wp2
      ·rename (!ltInt (G i) (G (i - 1))) = true => hl
       go_roundw
       case rel =>
        refine ⟨i + 1, by congr 1, by omega, by omega, zB ((zA HR).drewN nq), zB ?_⟩
        rw [← zA HD]
        conv => rhs; rw [scanSorted, if_pos (by simp only [zA HG] at hl; simp [hlt]; simpa using hl)]
       case measure => simp [intOf]; omega
      ·rename (!ltInt (G i) (G (i - 1))) = false => hl
       have HI : Hid (scanSorted ltInt dk b i0 = i) := zB (by rw [← zA HD, scanSorted, if_neg (by simp only [zA HG] at hl; simp [hl])])
       clear hl HD
       obtain ⟨f, hf⟩ : ∃ f, f = i - a := ⟨_, rfl⟩
       have hfi : (i : Int) - (a : Int) = (f : Int) := by omega
       obtain ⟨g, hg⟩ : ∃ g, g = b - i := ⟨_, rfl⟩
       have hgi : (b : Int) - (i : Int) = (g : Int) := by omega
       by_cases h2 : 2 <= f
       ·by_cases h3 : 2 <= g
        ·skip
         go_region
         all_goals go_wp2
         try generalize decide (2 <= f) = bq1
         try generalize decide (2 <= g) = bq2
         have HZ : Hid (zR w0 blk off (swp dk i (i - 1)) (((wr.drewN (nq + 1)).setCell ⟨blk, off + i, none⟩ (.int .u8 (G (i - 1)))).setCell ⟨blk, off + (i - 1), none⟩ (.int .u8 (G i)))) := zB (by
          rw [zA HG, zA HG]
          exact ((zA HR).drewN (nq + 1)).swap i (i - 1) (by rw [zA HS]; omega) (by rw [zA HS]; omega))
         clear HR hcw hfw HG
         generalize (((wr.drewN (nq + 1)).setCell ⟨blk, off + i, none⟩ (.int .u8 (G (i - 1)))).setCell ⟨blk, off + (i - 1), none⟩ (.int .u8 (G i))) = wz at *
         go_loopw [9] (fun v wr => ∃ (j : Nat) (dj : Array Int), v = .int .i64 j /\ j < i /\ Hid (dj.size = n) /\ Hid (zR w0 blk off dj wr) /\ Hid (shiftDown ltInt j dj = shiftDown ltInt (i - 1) (swp dk i (i - 1)))) (fun v _ => (intOf v).toNat)
         case atStart => exact ⟨i - 1, _, by congr 1; omega, by omega, zB (by rw [size_swp]; exact zA HS), HZ, zB rfl⟩
         case round =>
          clear HZ
          obtain ⟨j, dl, rfl, hj1, HSL, HR, HD⟩ := hrel
          obtain ⟨G, hG, hU⟩ := (zA HR).cells
          rw [zA HSL] at hU
          have hcw := hU.c
          have hfw := hU.f
          have HG := zB hG
          clear hG hU
          by_cases hj0 : 1 <= j
          ·go_wp2
           go_quiet (first | (go_at_call 172; refine Calls.quiet_of_same (zF _ _ _)))
           go_wp2
           ·rename (!ltInt (G j) (G (j - 1))) = true => hl
            have HF : Hid (fixDown ltInt a i (swp dk i (i - 1)) = dl) := zB (by
             rw [fixDown, if_pos (by omega), ← zA HD]
             obtain ⟨q, rfl⟩ : ∃ q, j = q + 1 := ⟨j - 1, by omega⟩
             have hl2 : (!ltInt (G (q + 1)) (G q)) = true := hl
             rw [shiftDown, if_pos (by simpa only [← zA HG] using hl2)])
            have HR2 : Hid (zR w0 blk off dl (wr.drewN nq)) := zB ((zA HR).drewN nq)
            clear hl HR HD HG hcw hfw
            generalize wr.drewN nq = wz2 at *
            go_loopw [10] (fun v wr => ∃ (j : Nat) (dj : Array Int), v = .int .i64 j /\ i + 1 <= j /\ j <= b /\ Hid (dj.size = n) /\ Hid (zR w0 blk off dj wr) /\ Hid (shiftUp ltInt b j dj = shiftUp ltInt b (i + 1) dl)) (fun v _ => b - (intOf v).toNat)
            case atStart => exact ⟨i + 1, dl, by go_num, Nat.le_refl _, by omega, HSL, HR2, zB rfl⟩
            case round =>
             obtain ⟨j, dj, rfl, hj1, hj2, HSJ, HR, HD⟩ := hrel
             obtain ⟨G, hG, hU⟩ := (zA HR).cells
             rw [zA HSJ] at hU
             have hcw := hU.c
             have hfw := hU.f
             have HG := zB hG
             clear hG hU
             by_cases hjb : j < b
             ·go_wp2
              go_quiet (first | (go_at_call 172; refine Calls.quiet_of_same (zF _ _ _)))
              go_wp2
              ·rename (!ltInt (G j) (G (j - 1))) = true => hl
               have HQ : Hid (shiftUp ltInt b (i + 1) dl = dj) := zB (by rw [← zA HD, shiftUp, if_pos hjb, if_pos (by simpa only [← zA HG] using hl)])
               go_roundw
               case rel =>
                refine ⟨k + 1, i, dj, rfl, by congr 1, by omega, by omega, by omega, HSJ, zB ((zA HR).drewN _), zB ?_⟩
                have he := zA HK
                rw [show 5 - k = (5 - (k + 1)) + 1 by omega, partialIns_succ, zA HI, if_neg (by omega), if_neg (by omega)] at he
                rw [← he, zA HF, fixUp, if_pos (by omega), zA HQ]
               case measure => simp [intOf]; omega
              ·rename (!ltInt (G j) (G (j - 1))) = false => hl
               have HL := zB hl
               clear hl
               go_region
               all_goals go_wp2
               go_roundw
               case rel =>
                refine ⟨j + 1, swp dj j (j - 1), by congr 1, by omega, by omega, zB (by rw [size_swp]; exact zA HSJ), ?_, zB ?_⟩
                ·rw [zA HG, zA HG]
                 exact zB (((zA HR).drewN _).swap j (j - 1) (by rw [zA HSJ]; omega) (by rw [zA HSJ]; omega))
                ·rw [← zA HD]
                 conv => rhs; rw [shiftUp, if_pos hjb, if_neg (by have := zA HL; simp only [zA HG] at this; simp [this])]
               case measure => simp [intOf]; omega
             ·go_wp2
              have HQ : Hid (shiftUp ltInt b (i + 1) dl = dj) := zB (by rw [← zA HD, shiftUp, if_neg hjb])
              go_roundw
              case rel =>
               refine ⟨k + 1, i, dj, rfl, by congr 1, by omega, by omega, by omega, HSJ, HR, zB ?_⟩
               have he := zA HK
               rw [show 5 - k = (5 - (k + 1)) + 1 by omega, partialIns_succ, zA HI, if_neg (by omega), if_neg (by omega)] at he
               rw [← he, zA HF, fixUp, if_pos (by omega), zA HQ]
              case measure => simp [intOf]; omega
           ·rename (!ltInt (G j) (G (j - 1))) = false => hl
            have HL := zB hl
            clear hl
            go_region
            all_goals go_wp2
            go_roundw
            case rel =>
             refine ⟨j - 1, swp dl j (j - 1), by congr 1; omega, by omega, zB (by rw [size_swp]; exact zA HSL), ?_, zB ?_⟩
             ·rw [zA HG, zA HG]
              exact zB (((zA HR).drewN _).swap j (j - 1) (by rw [zA HSL]; omega) (by rw [zA HSL]; omega))
             ·rw [← zA HD]
              obtain ⟨q, rfl⟩ : ∃ q, j = q + 1 := ⟨j - 1, by omega⟩
              conv => rhs; rw [shiftDown, if_neg (by have := zA HL; simp only [zA HG] at this; simpa using this)]
              rfl
            case measure => simp [intOf]; omega
          ·go_wp2
           have HF : Hid (fixDown ltInt a i (swp dk i (i - 1)) = dl) := zB (by
            rw [fixDown, if_pos (by omega), ← zA HD]
            obtain rfl : j = 0 := by omega
            rw [shiftDown])
           have HR2 := HR
           clear HR HD HG hcw hfw
           go_loopw [10] (fun v wr => ∃ (j : Nat) (dj : Array Int), v = .int .i64 j /\ i + 1 <= j /\ j <= b /\ Hid (dj.size = n) /\ Hid (zR w0 blk off dj wr) /\ Hid (shiftUp ltInt b j dj = shiftUp ltInt b (i + 1) dl)) (fun v _ => b - (intOf v).toNat)
           case atStart => exact ⟨i + 1, dl, by go_num, Nat.le_refl _, by omega, HSL, HR2, zB rfl⟩
           case round =>
            obtain ⟨j, dj, rfl, hj1, hj2, HSJ, HR, HD⟩ := hrel
            obtain ⟨G, hG, hU⟩ := (zA HR).cells
            rw [zA HSJ] at hU
            have hcw := hU.c
            have hfw := hU.f
            have HG := zB hG
            clear hG hU
            by_cases hjb : j < b
            ·go_wp2
             go_quiet (first | (go_at_call 172; refine Calls.quiet_of_same (zF _ _ _)))
             go_wp2
             ·rename (!ltInt (G j) (G (j - 1))) = true => hl
              have HQ : Hid (shiftUp ltInt b (i + 1) dl = dj) := zB (by rw [← zA HD, shiftUp, if_pos hjb, if_pos (by simpa only [← zA HG] using hl)])
              go_roundw
              case rel =>
               refine ⟨k + 1, i, dj, rfl, by congr 1, by omega, by omega, by omega, HSJ, zB ((zA HR).drewN _), zB ?_⟩
               have he := zA HK
               rw [show 5 - k = (5 - (k + 1)) + 1 by omega, partialIns_succ, zA HI, if_neg (by omega), if_neg (by omega)] at he
               rw [← he, zA HF, fixUp, if_pos (by omega), zA HQ]
              case measure => simp [intOf]; omega
             ·rename (!ltInt (G j) (G (j - 1))) = false => hl
              have HL := zB hl
              clear hl
              go_region
              all_goals go_wp2
              go_roundw
              case rel =>
               refine ⟨j + 1, swp dj j (j - 1), by congr 1, by omega, by omega, zB (by rw [size_swp]; exact zA HSJ), ?_, zB ?_⟩
               ·rw [zA HG, zA HG]
                exact zB (((zA HR).drewN _).swap j (j - 1) (by rw [zA HSJ]; omega) (by rw [zA HSJ]; omega))
               ·rw [← zA HD]
                conv => rhs; rw [shiftUp, if_pos hjb, if_neg (by have := zA HL; simp only [zA HG] at this; simp [this])]
              case measure => simp [intOf]; omega
            ·go_wp2
             have HQ : Hid (shiftUp ltInt b (i + 1) dl = dj) := zB (by rw [← zA HD, shiftUp, if_neg hjb])
             go_roundw
             case rel =>
              refine ⟨k + 1, i, dj, rfl, by congr 1, by omega, by omega, by omega, HSJ, HR, zB ?_⟩
              have he := zA HK
              rw [show 5 - k = (5 - (k + 1)) + 1 by omega, partialIns_succ, zA HI, if_neg (by omega), if_neg (by omega)] at he
              rw [← he, zA HF, fixUp, if_pos (by omega), zA HQ]
             case measure => simp [intOf]; omega
        ·skip
         go_region
         all_goals go_wp2
         try generalize decide (2 <= f) = bq1
         try generalize decide (2 <= g) = bq2
         have HZ : Hid (zR w0 blk off (swp dk i (i - 1)) (((wr.drewN (nq + 1)).setCell ⟨blk, off + i, none⟩ (.int .u8 (G (i - 1)))).setCell ⟨blk, off + (i - 1), none⟩ (.int .u8 (G i)))) := zB (by
          rw [zA HG, zA HG]
          exact ((zA HR).drewN (nq + 1)).swap i (i - 1) (by rw [zA HS]; omega) (by rw [zA HS]; omega))
         clear HR hcw hfw HG
         generalize (((wr.drewN (nq + 1)).setCell ⟨blk, off + i, none⟩ (.int .u8 (G (i - 1)))).setCell ⟨blk, off + (i - 1), none⟩ (.int .u8 (G i))) = wz at *
         go_loopw [9] (fun v wr => ∃ (j : Nat) (dj : Array Int), v = .int .i64 j /\ j < i /\ Hid (dj.size = n) /\ Hid (zR w0 blk off dj wr) /\ Hid (shiftDown ltInt j dj = shiftDown ltInt (i - 1) (swp dk i (i - 1)))) (fun v _ => (intOf v).toNat)
         case atStart => exact ⟨i - 1, _, by congr 1; omega, by omega, zB (by rw [size_swp]; exact zA HS), HZ, zB rfl⟩
         case round =>
          clear HZ
          obtain ⟨j, dl, rfl, hj1, HSL, HR, HD⟩ := hrel
          obtain ⟨G, hG, hU⟩ := (zA HR).cells
          rw [zA HSL] at hU
          have hcw := hU.c
          have hfw := hU.f
          have HG := zB hG
          clear hG hU
          by_cases hj0 : 1 <= j
          ·go_wp2
           go_quiet (first | (go_at_call 172; refine Calls.quiet_of_same (zF _ _ _)))
           go_wp2
           ·rename (!ltInt (G j) (G (j - 1))) = true => hl
            have HF : Hid (fixDown ltInt a i (swp dk i (i - 1)) = dl) := zB (by
             rw [fixDown, if_pos (by omega), ← zA HD]
             obtain ⟨q, rfl⟩ : ∃ q, j = q + 1 := ⟨j - 1, by omega⟩
             have hl2 : (!ltInt (G (q + 1)) (G q)) = true := hl
             rw [shiftDown, if_pos (by simpa only [← zA HG] using hl2)])
            have HR2 : Hid (zR w0 blk off dl (wr.drewN nq)) := zB ((zA HR).drewN nq)
            clear hl HR HD HG hcw hfw
            generalize wr.drewN nq = wz2 at *
            go_roundw
            case rel =>
             refine ⟨k + 1, i, dl, rfl, by congr 1, by omega, by omega, by omega, HSL, HR2, zB ?_⟩
             have he := zA HK
             rw [show 5 - k = (5 - (k + 1)) + 1 by omega, partialIns_succ, zA HI, if_neg (by omega), if_neg (by omega)] at he
             rw [← he, zA HF, fixUp, if_neg (by omega)]
            case measure => simp [intOf]; omega
           ·rename (!ltInt (G j) (G (j - 1))) = false => hl
            have HL := zB hl
            clear hl
            go_region
            all_goals go_wp2
            go_roundw
            case rel =>
             refine ⟨j - 1, swp dl j (j - 1), by congr 1; omega, by omega, zB (by rw [size_swp]; exact zA HSL), ?_, zB ?_⟩
             ·rw [zA HG, zA HG]
              exact zB (((zA HR).drewN _).swap j (j - 1) (by rw [zA HSL]; omega) (by rw [zA HSL]; omega))
             ·rw [← zA HD]
              obtain ⟨q, rfl⟩ : ∃ q, j = q + 1 := ⟨j - 1, by omega⟩
              conv => rhs; rw [shiftDown, if_neg (by have := zA HL; simp only [zA HG] at this; simpa using this)]
              rfl
            case measure => simp [intOf]; omega
          ·go_wp2
           have HF : Hid (fixDown ltInt a i (swp dk i (i - 1)) = dl) := zB (by
            rw [fixDown, if_pos (by omega), ← zA HD]
            obtain rfl : j = 0 := by omega
            rw [shiftDown])
           have HR2 := HR
           clear HR HD HG hcw hfw
           go_roundw
           case rel =>
            refine ⟨k + 1, i, dl, rfl, by congr 1, by omega, by omega, by omega, HSL, HR2, zB ?_⟩
            have he := zA HK
            rw [show 5 - k = (5 - (k + 1)) + 1 by omega, partialIns_succ, zA HI, if_neg (by omega), if_neg (by omega)] at he
            rw [← he, zA HF, fixUp, if_neg (by omega)]
           case measure => simp [intOf]; omega
       ·by_cases h3 : 2 <= g
        ·skip
         go_region
         all_goals go_wp2
         try generalize decide (2 <= f) = bq1
         try generalize decide (2 <= g) = bq2
         have HZ : Hid (zR w0 blk off (swp dk i (i - 1)) (((wr.drewN (nq + 1)).setCell ⟨blk, off + i, none⟩ (.int .u8 (G (i - 1)))).setCell ⟨blk, off + (i - 1), none⟩ (.int .u8 (G i)))) := zB (by
          rw [zA HG, zA HG]
          exact ((zA HR).drewN (nq + 1)).swap i (i - 1) (by rw [zA HS]; omega) (by rw [zA HS]; omega))
         clear HR hcw hfw HG
         generalize (((wr.drewN (nq + 1)).setCell ⟨blk, off + i, none⟩ (.int .u8 (G (i - 1)))).setCell ⟨blk, off + (i - 1), none⟩ (.int .u8 (G i))) = wz at *
         have HF : Hid (fixDown ltInt a i (swp dk i (i - 1)) = swp dk i (i - 1)) := zB (by rw [fixDown, if_neg (by omega)])
         go_loopw [10] (fun v wr => ∃ (j : Nat) (dj : Array Int), v = .int .i64 j /\ i + 1 <= j /\ j <= b /\ Hid (dj.size = n) /\ Hid (zR w0 blk off dj wr) /\ Hid (shiftUp ltInt b j dj = shiftUp ltInt b (i + 1) (swp dk i (i - 1)))) (fun v _ => b - (intOf v).toNat)
         case atStart => exact ⟨i + 1, (swp dk i (i - 1)), by go_num, Nat.le_refl _, by omega, (zB (by rw [size_swp]; exact zA HS)), HZ, zB rfl⟩
         case round =>
          obtain ⟨j, dj, rfl, hj1, hj2, HSJ, HR, HD⟩ := hrel
          obtain ⟨G, hG, hU⟩ := (zA HR).cells
          rw [zA HSJ] at hU
          have hcw := hU.c
          have hfw := hU.f
          have HG := zB hG
          clear hG hU
          by_cases hjb : j < b
          ·go_wp2
           go_quiet (first | (go_at_call 172; refine Calls.quiet_of_same (zF _ _ _)))
           go_wp2
           ·rename (!ltInt (G j) (G (j - 1))) = true => hl
            have HQ : Hid (shiftUp ltInt b (i + 1) (swp dk i (i - 1)) = dj) := zB (by rw [← zA HD, shiftUp, if_pos hjb, if_pos (by simpa only [← zA HG] using hl)])
            go_roundw
            case rel =>
             refine ⟨k + 1, i, dj, rfl, by congr 1, by omega, by omega, by omega, HSJ, zB ((zA HR).drewN _), zB ?_⟩
             have he := zA HK
             rw [show 5 - k = (5 - (k + 1)) + 1 by omega, partialIns_succ, zA HI, if_neg (by omega), if_neg (by omega)] at he
             rw [← he, zA HF, fixUp, if_pos (by omega), zA HQ]
            case measure => simp [intOf]; omega
           ·rename (!ltInt (G j) (G (j - 1))) = false => hl
            have HL := zB hl
            clear hl
            go_region
            all_goals go_wp2
            go_roundw
            case rel =>
             refine ⟨j + 1, swp dj j (j - 1), by congr 1, by omega, by omega, zB (by rw [size_swp]; exact zA HSJ), ?_, zB ?_⟩
             ·rw [zA HG, zA HG]
              exact zB (((zA HR).drewN _).swap j (j - 1) (by rw [zA HSJ]; omega) (by rw [zA HSJ]; omega))
             ·rw [← zA HD]
              conv => rhs; rw [shiftUp, if_pos hjb, if_neg (by have := zA HL; simp only [zA HG] at this; simp [this])]
            case measure => simp [intOf]; omega
          ·go_wp2
           have HQ : Hid (shiftUp ltInt b (i + 1) (swp dk i (i - 1)) = dj) := zB (by rw [← zA HD, shiftUp, if_neg hjb])
           go_roundw
           case rel =>
            refine ⟨k + 1, i, dj, rfl, by congr 1, by omega, by omega, by omega, HSJ, HR, zB ?_⟩
            have he := zA HK
            rw [show 5 - k = (5 - (k + 1)) + 1 by omega, partialIns_succ, zA HI, if_neg (by omega), if_neg (by omega)] at he
            rw [← he, zA HF, fixUp, if_pos (by omega), zA HQ]
           case measure => simp [intOf]; omega
        ·skip
         omega
    ·have hbe : i = b := by omega
     have HI : Hid (scanSorted ltInt dk b i0 = b) := zB (by rw [← zA HD, hbe, scanSorted, if_neg (by simp)])
     go_quiet (first | (go_at_call 172; refine Calls.quiet_of_same (zF _ _ _)))
     have hbi : (i : Int) = (b : Int) := by omega
     go_wp2
     go_ret
     have hq := zA HK
     rw [show 5 - k = (5 - (k + 1)) + 1 by omega, partialIns_succ, zA HI, if_pos rfl] at hq
     rw [← hq]
     exact ⟨rfl, (zA HR).drewN _⟩
  ·go_wp2
   go_ret
   have hq := zA HK
   rw [show 5 - k = 0 by omega, partialIns] at hq
   rw [← hq]
   exact ⟨rfl, zA HR0⟩
end Go.Proofs.YtfpohfifdfbpkaaGreatDoor
