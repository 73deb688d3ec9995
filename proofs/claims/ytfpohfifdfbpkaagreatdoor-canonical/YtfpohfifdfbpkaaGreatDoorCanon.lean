import Derived.Test.YtfpohfifdfbpkaaGreatDoorKeep
import Derived.Test.YtfpohfifdfbpkaaGreatDoorLdG
import Derived.Test.YtfpohfifdfbpkaaGreatDoorRdM
import Derived.Deep.QuietTactic
import Derived.Deep.RegionWith
namespace Go.Proofs.YtfpohfifdfbpkaaGreatDoor
open Go.RowKit Scour Go.Lib
theorem Outs.texts {w : World} {base b0 : Nat} {gs cs : Nat -> Nat} {ps : List Str} (h : Outs w base b0 gs cs ps ps.length) {i : Nat} (hi : i < ps.length) :
  w.cell? ⟨b0, i, none⟩ = some (.slice (some ⟨gs i, 0, none⟩) (pat ps i).length (cs i)) /\ (convert 27 9 (.slice (some ⟨gs i, 0, none⟩) (pat ps i).length (cs i))).run Tryz.prog w = .ok (.string ⟨(pat ps i).toArray⟩) w := by
 refine ⟨?_, ?_⟩
 ·rw [h.row.cellAt i (by omega), jL _ _ _ _ _ hi, if_pos hi]
 ·obtain ⟨ao, c, e, hat⟩ := owns_at (h.each i hi)
  cases e
  exact conv_at hat
theorem row_cap {w : World} {base g n cap : Nat} {xs : List Value} {t s : TypeId} (h : w.ownsRow base t s (.slice (some ⟨g, 0, none⟩) n cap) n xs) : n <= cap /\ cap <= 9223372036854775807 := by
 rcases h.2 with ⟨h1, _⟩ | ⟨g', cap', cur, h1, _, _, h4, h5, _⟩
 ·cases h1
 ·cases h1
  exact ⟨h4, by unfold maxLen at h5; omega⟩
set_option maxHeartbeats 8000000 in
set_option maxRecDepth 100000 in
theorem canonical_any (ap : Option Addr) (len cap : Nat) (ss : List ByteArray) (a1 : Option Addr) (c1 : Nat) (s : Str) (w : World) (hS : StrsIn w w.heap.size ap len ss) (hl : len <= ss.length) (hlen : len <= maxLen) (hsz : ∀ i, i < len -> (ss.getD i .empty).size <= maxLen) (hB : zh w a1 c1 s) (hcap : s.length <= c1) (hc2 : c1 <= 9223372036854775807) (hs8 : s.length <= 9223372036854775807) (hT : ErrT w) :
  Calls Tryz.prog 6 #[.slice ap len cap, .slice a1 s.length c1] w fun e w' => e = .returned (.bool true) /\ Below w.heap.size w w' := by
 have HPT := zB (keepPats_any ap len cap ss w hS hl hlen hsz)
 have hc : (chk (jH ss len)).1 = 0 := keepP_chk ss len
 obtain ⟨h64, hpl, _⟩ := yr hc
 have HBA := zB hB
 have HET := zB hT
 have HPL := zB hpl
 clear hS hsz hl hlen hB hT hpl
 generalize jH ss len = ps at *
 have HC := zB hc
 clear hc
 go_enter Tryz.func6, Tryz.ntmps6
 go_wp2_with (first
  | (go_at_call 14; refine (zA HPT).mono ?_; rintro e w1 ⟨ap', cap', rfl, hP, hb1⟩; have HP := zB hP; have HB1 := zB hb1; clear hP hb1)
  | (go_at_call 13; refine (made_any ap' cap' ps w1 (zA HP) (zA HC)).mono ?_; rintro e w2 ⟨bm, bt, be, g, S, rfl, hM, _, hb2⟩; have HM := zB hM; have HB2 := zB ((zA HB1).trans (hb2.mono (zA HB1).size)); clear hM hb2))
 have hgd := (zA HM).good (zA HC)
 have hfl := hgd.fileLen
 have HGD := zB hgd
 refine (save_ok w2 bm bt be g ps S (zA HM) (zA HC)).mono ?_
 rintro e w3 ⟨fb, fc, rfl, hO, hb3⟩
 obtain ⟨fa, fd, e1, hat⟩ := owns_at hO
 cases e1
 obtain ⟨k1, k2⟩ := row_cap hO
 have HM3 := zB ((zA HM).below hb3)
 have HB3 := zB ((zA HB2).trans (hb3.mono (zA HB2).size))
 have HAT3 := zB hat
 have HLO := zB (load_any (some ⟨fb, 0, none⟩) fc (zS ps S) w3 hat k1 k2 (by omega) ((zA HET).below (zA HB3)))
 clear hO hb3 hat hgd HM HPT HP HB1 HB2
 go_wp2_with fail
 refine (zA HLO).mono ?_
 rintro e w4 (⟨bn, bt2, be2, g2, ps2, S2, rfl, hM2, hc2', hf2, _, hb4⟩ | ⟨rfl, hnf, hb4⟩)
 ·obtain ⟨rfl, rfl⟩ := file_inj (zA HGD) (hM2.good hc2') hf2
  have HM4 := zB ((zA HM3).below hb4)
  have HN4 := zB hM2
  have HB4 := zB ((zA HB3).trans (hb4.mono (zA HB3).size))
  have HAT4 := zB ((zA HAT3).below hb4)
  clear hM2 hc2' hf2 hb4 HLO HM3 HAT3
  go_wp2_with fail
  refine (states_any bn bt2 be2 g2 ps S w4 (zA HN4)).mono ?_
  rintro e w' ⟨rfl, hw'⟩
  obtain rfl := hw'.symm
  go_wp2_with fail
  refine (states_any bm bt be g ps S w4 (zA HM4)).mono ?_
  rintro e w' ⟨rfl, hw'⟩
  obtain rfl := hw'.symm
  have HSV2 := zB (save_ok w4 bn bt2 be2 g2 ps S (zA HN4) (zA HC))
  clear hw'
  go_wp2_with fail
  refine (zA HSV2).mono ?_
  rintro e w5 ⟨yb, yc, rfl, hO5, hb5⟩
  obtain ⟨ya, yd, e1, hat5⟩ := owns_at hO5
  cases e1
  have HB5 := zB ((zA HB4).trans (hb5.mono (zA HB4).size))
  have HAT5 := zB ((zA HAT4).below hb5)
  have HY5 := zB hat5
  have HM5 := zB ((zA HM4).below hb5)
  have HN5 := zB ((zA HN4).below hb5)
  clear hO5 hb5 hat5 HSV2
  have HPA := zB (patterns_any bm bt be g ps S w5 (zA HM5) h64 (zA HPL))
  go_wp2_with fail
  refine (zA HPA).mono ?_
  rintro e w6 ⟨p0, gs, cs, rfl, hP6, hb6⟩
  have HB6 := zB ((zA HB5).trans (hb6.mono (zA HB5).size))
  have HAT6 := zB ((zA HAT5).below hb6)
  have HY6 := zB ((zA HY5).below hb6)
  have HN6 := zB ((zA HN5).below hb6)
  have HP6 := zB hP6
  have HPB := zB (patterns_any bn bt2 be2 g2 ps S w6 (zA HN6) h64 (zA HPL))
  clear hP6 hb6 HPA
  go_wp2_with fail
  refine (zA HPB).mono ?_
  rintro e w7 ⟨q0, hs, ds, rfl, hQ7, hb7⟩
  have HB7 := zB ((zA HB6).trans (hb7.mono (zA HB6).size))
  have x1 := conv_at ((zA HAT6).below hb7)
  have x2 := conv_at ((zA HY6).below hb7)
  have HPT7 : Hid (∀ i, i < ps.length -> w7.cell? ⟨p0, i, none⟩ = some (.slice (some ⟨gs i, 0, none⟩) (pat ps i).length (cs i)) /\ w7.cell? ⟨q0, i, none⟩ = some (.slice (some ⟨hs i, 0, none⟩) (pat ps i).length (ds i)) /\ ∀ q, (convert 27 9 (.slice (some ⟨gs i, 0, none⟩) (pat ps i).length (cs i))).run Tryz.prog (w7.drewN q) = .ok (.string ⟨(pat ps i).toArray⟩) (w7.drewN q) /\ (convert 27 9 (.slice (some ⟨hs i, 0, none⟩) (pat ps i).length (ds i))).run Tryz.prog (w7.drewN q) = .ok (.string ⟨(pat ps i).toArray⟩) (w7.drewN q)) := zB (fun i hi => by
   obtain ⟨u1, _⟩ := (zA HP6).texts hi
   obtain ⟨v1, _⟩ := hQ7.texts hi
   have hl6 := (zA HP6).row
   have hlt : p0 < w6.heap.size := by
    obtain ⟨cu, hcu⟩ := zK hl6
    exact (Array.getElem?_eq_some_iff.1 hcu).1
   refine ⟨(hb7.cell (p := ⟨p0, i, none⟩) hlt).trans u1, v1, fun q => ?_⟩
   have hq : Below w7.heap.size w7 (w7.drewN q) := below_drewN (Below.refl _ _) q
   obtain ⟨ao, c, e, ha⟩ := owns_at ((zA HP6).each i hi)
   cases e
   obtain ⟨ao, c, e, hb⟩ := owns_at (hQ7.each i hi)
   cases e
   exact ⟨conv_at ((ha.below hb7).below hq), conv_at (hb.below hq)⟩)
  have HQD : Hid (∀ q, Below w.heap.size w (w7.drewN q)) := zB (fun q => (zA HB7).trans ((below_drewN (Below.refl w7.heap.size w7) q).mono (zA HB7).size))
  have HLB : Hid (∀ q, Calls Tryz.prog 16 #[.slice a1 s.length c1] (w7.drewN q) (LoPost (w7.drewN q) s)) := zB (fun q => load_any a1 c1 s _ ((zA HBA).below (zA HQD q)) hcap hc2 hs8 ((zA HET).below (zA HQD q)))
  clear hQ7 hb7 HPB HP6 HN6 HY6 HAT6
  generalize (⟨(zS ps S).toArray⟩ : ByteArray) = tf at x1 x2
  generalize (zS ps S).length = nf at *
  go_wp2_with fail
  go_loopw [12] (fun v12 wr => ∃ k q : Nat, v12 = .int .i64 k /\ k <= ps.length /\ wr = w7.drewN q) (fun v12 _ => ps.length - (intOf v12).toNat)
  case atStart => exact ⟨0, 0, rfl, Nat.zero_le _, rfl⟩
  case round =>
   obtain ⟨k, q, rfl, hk, rfl⟩ := hrel
   by_cases hlt : k < ps.length
   ·obtain ⟨y1, y2, y3⟩ := zA HPT7 k hlt
    have i1 : (k : Int) < (ps.length : Int) := by omega
    have i2 : (0 : Int) <= (k : Int) := by omega
    have z1 := fun n => (y3 (q + n)).1
    have z2 := fun n => (y3 (q + n)).2
    simp only [← World.drewN_drewN] at z1 z2
    generalize (⟨(pat ps k).toArray⟩ : ByteArray) = tk at *
    generalize (pat ps k).length = mk at *
    have w1' : (w7.drewN q).cell? ⟨p0, k, none⟩ = some (.slice (some ⟨gs k, 0, none⟩) mk (cs k)) := y1
    have w2' : (w7.drewN q).cell? ⟨q0, k, none⟩ = some (.slice (some ⟨hs k, 0, none⟩) mk (ds k)) := y2
    obtain ⟨wz, hwz⟩ : ∃ wz, wz = w7.drewN q := ⟨_, rfl⟩
    rw [← hwz] at z1 z2 w1' w2' ⊢
    have HWZ := zB hwz
    clear y1 y2 y3 hwz
    go_wp2_with fail
    go_quiet (fail)
    go_wp2_with fail
    go_roundw
    case rel => exact ⟨k + 1, q + nq, by go_num, hlt, by rw [zA HWZ, World.drewN_drewN]⟩
    case measure => simp [intOf]; omega
   ·obtain rfl : k = ps.length := by omega
    have i1 : ¬ (ps.length : Int) < (ps.length : Int) := by omega
    go_wp2_with fail
    refine (zA HLB q).mono ?_
    have hbq := zA HQD q
    rintro e w8 (⟨bo, bt3, be3, g3, ps3, S3, rfl, hM3, hc3, hf3, _, hb8⟩ | ⟨rfl, hnf, hb8⟩)
    ·have HB8 := zB (hbq.trans (hb8.mono hbq.size))
     have HF3 := zB hf3
     have HM3 := zB hM3
     have HC3 := zB hc3
     clear hM3 hc3 hb8 hbq
     have HS3 : Hid (∀ q, Calls Tryz.prog 15 #[.pointer (some ⟨bo, 0, none⟩)] (w8.drewN q) fun e w' => ∃ ob oc, e = .returned (.slice (some ⟨ob, 0, none⟩) s.length oc) /\ (convert 27 9 (.slice (some ⟨ob, 0, none⟩) s.length oc)).run Tryz.prog w' = .ok (.string ⟨s.toArray⟩) w' /\ (convert 27 9 (.slice a1 s.length c1)).run Tryz.prog w' = .ok (.string ⟨s.toArray⟩) w' /\ Hid (Below w.heap.size w w')) := zB (fun q => by
      have hq : Below w8.heap.size w8 (w8.drewN q) := below_drewN (Below.refl _ _) q
      refine (save_ok (w8.drewN q) bo bt3 be3 g3 ps3 S3 ((zA HM3).below hq) (zA HC3)).mono ?_
      rintro e w9 ⟨ob, oc, rfl, hO9, hb9⟩
      have hB9 := ((zA HB8).trans (hq.mono (zA HB8).size)).trans (hb9.mono (Nat.le_trans (zA HB8).size hq.size))
      rw [← zA HF3] at hO9 ⊢
      obtain ⟨oa, od, e1, hat9⟩ := owns_at hO9
      cases e1
      exact ⟨ob, oc, rfl, conv_at hat9, conv_at ((zA HBA).below hB9), zB hB9⟩)
     have u0 := fun q => conv_at ((zA HBA).below ((zA HB8).trans ((below_drewN (Below.refl w8.heap.size w8) q).mono (zA HB8).size)))
     have u00 : (convert 27 9 (.slice a1 s.length c1)).run Tryz.prog w8.drew = .ok (.string ⟨s.toArray⟩) w8.drew := u0 1
     clear u0 hf3
     generalize (⟨s.toArray⟩ : ByteArray) = tx at *
     generalize s.length = ns at *
     go_wp2_with fail
     go_region_with (first | (go_at_call 15; refine (zA HS3 1).mono ?_; rintro e w9 ⟨ob, oc, rfl, u1, u2, HB9⟩))
     all_goals go_wp2_with fail
     all_goals go_ret
     all_goals exact ⟨rfl, zA HB9⟩
    ·have HB8 := zB (hbq.trans (hb8.mono hbq.size))
     have hel := errL_pos s
     have hel2 : (errL s != 0) = true := by rw [bne_iff_ne]; exact hel
     clear hnf hb8 hbq
     generalize errL s = er at *
     go_wp2_with fail
     go_ret
     exact ⟨rfl, zA HB8⟩
 ·exact absurd rfl (hnf ps S (zA HGD))
end Go.Proofs.YtfpohfifdfbpkaaGreatDoor
