import Derived.Test.YtfpohfifdfbpkaaGreatDoorKeepF
import Derived.Test.YtfpohfifdfbpkaaGreatDoorKeep
namespace Go.Proofs.YtfpohfifdfbpkaaGreatDoor
open Go.RowKit Scour Go.Lib
theorem yO.at' {w : World} {B : Nat} {ap : Option Addr} {ps : List Str} (h : yO w B ap ps) : ∃ bp op, (0 < ps.length -> bp < B /\ ap = some ⟨bp, op, none⟩) /\ ∀ i, i < ps.length -> ∃ ao c, w.cell? ⟨bp, op + i, none⟩ = some (.slice ao (pat ps i).length c) /\ jD w B ao (pat ps i) := by
 rcases Nat.eq_zero_or_pos ps.length with h0 | h0
 ·exact ⟨0, 0, fun h1 => by omega, fun i hi => by omega⟩
 ·obtain ⟨bp, op, h1, h2, h3⟩ := h h0
  exact ⟨bp, op, fun _ => ⟨h1, h2⟩, h3⟩
theorem jD.at' {w : World} {ao : Option Addr} {c : Nat} {s : Str} (h : jD w w.heap.size ao s) (h0 : 0 < s.length) : zh w ao c s := by
 obtain ⟨b, o, h1, h2, h3⟩ := h h0
 exact Or.inr ⟨b, o, h2, h1, h3⟩
set_option maxHeartbeats 8000000 in
set_option maxRecDepth 100000 in
theorem found_any (hSC : yl) (hFD : yU) (ap : Option Addr) (len cap : Nat) (ss : List ByteArray) (text : Str) (ac : Option Addr) (cc : Nat) (cuts : List Int) (w : World) (hS : StrsIn w w.heap.size ap len ss) (hl : len <= ss.length) (hlen : len <= maxLen) (hsz : ∀ i, i < len -> (ss.getD i .empty).size <= maxLen) (ht : text.length < 100000000) (hcl : cuts.length < 100000000) (hci : IntsIn w w.heap.size ac cuts) (hT : ErrT w) :
  Calls Tryz.prog 9 #[.slice ap len cap, .string ⟨text.toArray⟩, .slice ac cuts.length cc] w fun e w' => e = .returned (.bool true) /\ Below w.heap.size w w' := by
 have HPT := zB (keepPats_any ap len cap ss w hS hl hlen hsz)
 have hc : (chk (jH ss len)).1 = 0 := keepP_chk ss len
 obtain ⟨h64, hpl, _⟩ := yr hc
 have HSC := zB hSC
 have HFD := zB hFD
 have HET := zB hT
 have HCI := zB hci
 have HPL := zB hpl
 clear hS hsz hl hlen hci hT hpl hSC hFD
 generalize jH ss len = ps at *
 have HC := zB hc
 clear hc
 obtain ⟨tx, htx⟩ : ∃ tx, tx = (⟨text.toArray⟩ : ByteArray) := ⟨_, rfl⟩
 rw [← htx]
 have HTX := zB htx
 clear htx
 go_enter Tryz.func9, Tryz.ntmps9
 go_wp2_with (first
  | (go_at_call 14; refine (zA HPT).mono ?_; rintro e w1 ⟨ap', cap', rfl, hP, hb1⟩; have HP := zB hP; have HB1 := zB hb1; clear hP hb1)
  | (go_at_call 20; refine (machine_any (zA HSC) (zA HFD) ap' cap' ps w1 (zA HP) (zA HC) ((zA HET).below (zA HB1))).mono ?_; rintro e w2 ⟨bm, bt, be, g, S, rfl, hM, hb2⟩; have HM := zB hM; have HP2 := zB ((zA HP).below' hb2); have HB2 := zB ((zA HB1).trans (hb2.mono (zA HB1).size)); clear hM hb2))
 have hgd := (zA HM).good (zA HC)
 have hfl := hgd.fileLen
 have HGD := zB hgd
 refine (save_ok w2 bm bt be g ps S (zA HM) (zA HC)).mono ?_
 rintro e w3 ⟨fb, fc, rfl, hO, hb3⟩
 obtain ⟨fa, fd, e1, hat⟩ := owns_at hO
 cases e1
 obtain ⟨k1, k2⟩ : (zS ps S).length <= fc /\ fc <= 9223372036854775807 := by
  rcases hO.2 with ⟨h1, _⟩ | ⟨g', cap', cur, h1, _, _, h4, h5, _⟩
  ·cases h1
  ·cases h1
   exact ⟨h4, by unfold maxLen at h5; omega⟩
 have HM3 := zB ((zA HM).below hb3)
 have HP3 := zB ((zA HP2).below' hb3)
 have HB3 := zB ((zA HB2).trans (hb3.mono (zA HB2).size))
 have HLO := zB (load_any (some ⟨fb, 0, none⟩) fc (zS ps S) w3 hat k1 k2 (by omega) ((zA HET).below (zA HB3)))
 clear hO hb3 hat hgd HM HPT HP HB1 HB2 k1 k2 HP2
 go_wp2_with fail
 refine (zA HLO).mono ?_
 rintro e w4 (⟨bn, bt2, be2, g2, ps2, S2, rfl, hM2, hc2', hf2, _, hb4⟩ | ⟨rfl, hnf, hb4⟩)
 ·obtain ⟨hp2, hS2⟩ := file_inj (zA HGD) (hM2.good hc2') hf2
  subst hp2 hS2
  have HM4 := zB ((zA HM3).below hb4)
  have HN4 := zB hM2
  have HP4 := zB ((zA HP3).below' hb4)
  have HB4 := zB ((zA HB3).trans (hb4.mono (zA HB3).size))
  have HCI4 : Hid (IntsIn w4 w4.heap.size ac cuts) := zB (fun i hi => by
   obtain ⟨b, o, h1, h2⟩ := ((zA HCI).below (zA HB4)) i hi
   exact ⟨b, o, Nat.lt_of_lt_of_le h1 (zA HB4).size, h2⟩)
  clear hM2 hc2' hf2 hb4 HLO HM3 HP3 HCI
  have HF1 := zB (kfed_any (zA HSC) (zA HFD) bm bt be g ps S text none 0 [] w4 (zA HM4) (zA HC) ht (by simp) (fun i hi => by simp at hi))
  rw [← zA HTX] at HF1
  simp only [List.length_nil] at HF1
  go_wp2_with fail
  refine (zA HF1).mono ?_
  rintro e w5 ⟨va, rfl, hva, hb5⟩
  have HVA5 := zB hva
  have HB5 := zB hb5
  have HCI5 : Hid (IntsIn w5 w5.heap.size ac cuts) := zB (fun i hi => by
   obtain ⟨b, o, h1, h2⟩ := ((zA HCI4).below hb5) i hi
   exact ⟨b, o, Nat.lt_of_lt_of_le h1 hb5.size, h2⟩)
  have HF2 := zB (kfed_any (zA HSC) (zA HFD) bm bt be g ps S text ac cc cuts w5 ((zA HM4).below hb5) (zA HC) ht hcl (zA HCI5))
  rw [← zA HTX] at HF2
  clear hva hb5 HF1
  go_wp2_with fail
  refine (zA HF2).mono ?_
  rintro e w6 ⟨vb, rfl, hvb, hb6⟩
  have HVA6 := zB (zE (zA HVA5) (fun k hk _ => hb6.block k hk))
  have HVB6 := zB hvb
  have HB6 := zB ((zA HB5).trans (hb6.mono (zA HB5).size))
  have HCI6 : Hid (IntsIn w6 w6.heap.size ac cuts) := zB (fun i hi => by
   obtain ⟨b, o, h1, h2⟩ := ((zA HCI5).below hb6) i hi
   exact ⟨b, o, Nat.lt_of_lt_of_le h1 hb6.size, h2⟩)
  have HF3 := zB (kfed_any (zA HSC) (zA HFD) bn bt2 be2 g2 ps S text ac cc cuts w6 ((zA HN4).below (zA HB6)) (zA HC) ht hcl (zA HCI6))
  rw [← zA HTX] at HF3
  clear hvb hb6 HF2 HVA5 HB5 HCI5 HCI4
  go_wp2_with fail
  refine (zA HF3).mono ?_
  rintro e w7 ⟨vc, rfl, hvc, hb7⟩
  have HVA7 := zB (zE (zA HVA6) (fun k hk _ => hb7.block k hk))
  have HVB7 := zB (zE (zA HVB6) (fun k hk _ => hb7.block k hk))
  have HVC7 := zB hvc
  have HB7 := zB ((zA HB6).trans (hb7.mono (zA HB6).size))
  have HBW := zB ((zA HB4).trans ((zA HB7).mono (zA HB4).size))
  have HP7 := zB ((zA HP4).below' (zA HB7))
  have hflen : (zJ ps [] text).length <= 6400000000 := Nat.le_trans (yB ps text []) (Nat.le_trans (Nat.mul_le_mul h64 (Nat.le_of_lt ht)) (by omega))
  have HTO : Hid (∀ i, i < ps.length -> ((zJ ps [] text).filter (fun m => decide (m.1 = i))).map Prod.snd = thereS (pat ps i) text) := zB (fun i hi => found_told hi (zA HPL i hi).1 (zA HPL i hi).2 text)
  have HOR := zB (found_order ps text [])
  have HLT : Hid (∀ m, m ∈ zJ ps [] text -> m.1 < ps.length /\ m.2 <= text.length) := zB (fun m hm => by
   have := feedS_mem (p := m.1) (e := m.2) (b := text) (t := []) hm
   exact ⟨this.1, by simpa using this.2.1⟩)
  clear hvc hb7 HF3 HVA6 HVB6 HB6 HCI6 HB7 HP4 HM4 HN4 HB4 HGD HB3
  generalize zJ ps [] text = l at *
  have HS1 := zB (sameM_any _ _ va vb l w7 (zA HVA7) (zA HVB7) (by omega))
  go_wp2_with fail
  refine (zA HS1).mono ?_
  rintro e w8 ⟨rfl, n8, rfl⟩
  have HS2 := zB (sameM_any w4.heap.size w6.heap.size va vc l (w7.drewN n8) (zA HVA7) (zA HVC7) (by omega))
  go_wp2_with fail
  refine (zA HS2).mono ?_
  rintro e w9 ⟨rfl, n9, rfl⟩
  have HVA9 : Hid (((w7.drewN n8).drewN n9).ownsRow w4.heap.size 49 2 va l.length (ze l)) := HVA7
  have HB9 := zB (below_drewN (below_drewN (zA HBW) n8) n9)
  have HP9 : Hid (yO ((w7.drewN n8).drewN n9) ((w7.drewN n8).drewN n9).heap.size ap' ps) := zB ((zA HP7).below' (below_drewN (below_drewN (Below.refl _ _) n8) n9))
  clear HS1 HS2 HVA7 HVB7 HVC7 HBW HP7
  generalize (w7.drewN n8).drewN n9 = W at *
  obtain ⟨bp, op, hbp, hpc⟩ := (zA HP9).at'
  have HPC := zB hpc
  have HBP := zB hbp
  obtain ⟨va', vc', hv, hva⟩ := matches_at (zA HVA9)
  subst hv
  have HMA := zB hva
  clear hpc hbp hva
  go_wp2_with fail
  go_loopw [19] (fun v19 wr => ∃ k : Nat, v19 = .int .i64 k /\ k <= ps.length /\ Hid (Below W.heap.size W wr)) (fun v19 _ => ps.length - (intOf v19).toNat)
  case atStart => exact ⟨0, rfl, Nat.zero_le _, zB (Below.refl _ _)⟩
  case round =>
   obtain ⟨k, rfl, hk, HBR⟩ := hrel
   by_cases hlt : k < ps.length
   ·obtain ⟨hb1, rfl⟩ := zA HBP (by omega)
    obtain ⟨ao, c, c1, hby⟩ := zA HPC k hlt
    have i1 : (k : Int) < (ps.length : Int) := by omega
    have i2 : (0 : Int) <= (k : Int) := by omega
    have z1 : wr.cell? ⟨bp, op + k, none⟩ = some (.slice ao (pat ps k).length c) := ((zA HBR).cell (p := ⟨bp, op + k, none⟩) hb1).trans c1
    have hpk := zA HPL k hlt
    have HTH := zB (there_any ao c (pat ps k) text wr ((jD.at' hby hpk.1).below (zA HBR)) hpk.2 ht)
    rw [← zA HTX] at HTH
    have HTD : Hid (∀ w2 v, w2.ownsRow wr.heap.size 3 1 v (thereS (pat ps k) text).length (natsK (thereS (pat ps k) text)) -> Below wr.heap.size wr w2 -> Calls Tryz.prog 23 #[.slice va' l.length vc', .int .i64 k, v] w2 fun e w' => e = .returned (.bool true) /\ Below W.heap.size W w') := zB (fun w2 v hv hb => by
     have hbb := (zA HBR).trans (hb.mono (zA HBR).size)
     refine (told_any w4.heap.size wr.heap.size (.slice va' l.length vc') v l k _ w2 (zE (zA HVA9) (fun b hb _ => hbb.block b hb)) hv (by omega) (zA HTO k hlt)).mono ?_
     rintro e w' ⟨rfl, n, rfl⟩
     exact ⟨rfl, below_drewN hbb n⟩)
    clear c1 hby hpk hb1
    generalize (pat ps k).length = mk at *
    go_wp2_with (first | (go_at_call 24; refine (zA HTH).mono ?_; rintro e w2 ⟨v2, rfl, h1, h2⟩; have HT2 := zB (zA HTD w2 v2 h1 h2); clear h1 h2) | (go_at_call 23; refine (zA HT2).mono ?_; rintro e w3 ⟨rfl, h3⟩; have HB3 := zB h3; clear h3))
    go_roundw
    case rel => exact ⟨k + 1, by go_num, hlt, HB3⟩
    case measure => simp [intOf]; omega
   ·obtain rfl : k = ps.length := by omega
    have i1 : ¬ (ps.length : Int) < (ps.length : Int) := by omega
    go_wp2_with fail
    go_loopw [21] (fun v21 wz => ∃ k : Nat, v21 = .int .i64 k /\ k <= l.length /\ Hid (Below W.heap.size W wz)) (fun v21 _ => l.length - (intOf v21).toNat)
    case atStart => exact ⟨0, rfl, Nat.zero_le _, HBR⟩
    case round =>
     obtain ⟨k, rfl, hk, HBZ⟩ := hrel
     have hszz := (zA HBZ).size
     by_cases hlt : k < l.length
     ·obtain ⟨ga, hga, a0, a1⟩ := zA HMA k hlt
      have hgl : ga < W.heap.size := World.block_lt_of_cell? W ⟨ga, k * 2, none⟩ a0
      have hmem : l.getD k (0, 0) ∈ l := by
       have : l.getD k (0, 0) = l[k] := by simp [List.getD, hlt]
       rw [this]; exact List.getElem_mem _
      obtain ⟨m1, m2⟩ := zA HLT _ hmem
      have z0 : wr.cell? ⟨ga, k * 2, none⟩ = some (.int .i64 (l.getD k (0, 0)).1) := ((zA HBZ).cell (p := ⟨ga, k * 2, none⟩) hgl).trans a0
      have z1 : wr.cell? ⟨ga, k * 2 + 1, none⟩ = some (.int .i64 (l.getD k (0, 0)).2) := ((zA HBZ).cell (p := ⟨ga, k * 2 + 1, none⟩) hgl).trans a1
      have i3 : (k : Int) < (l.length : Int) := by omega
      have i4 : (0 : Int) <= (k : Int) := by omega
      have i5 : ¬ (((l.getD k (0, 0)).1 : Int) < 0) := by omega
      have i6 : ¬ ((ps.length : Int) <= ((l.getD k (0, 0)).1 : Int)) := by omega
      have i5' : decide (((l.getD k (0, 0)).1 : Int) < 0) = false := decide_eq_false i5
      have i6' : decide ((ps.length : Int) <= ((l.getD k (0, 0)).1 : Int)) = false := decide_eq_false i6
      by_cases hk0 : k = 0
      ·have i7 : ((k : Int) == 0) = true := by simp; omega
       clear a0 a1 hmem
       generalize (l.getD k (0, 0)).1 = y0 at *
       generalize (l.getD k (0, 0)).2 = y1 at *
       subst hga
       clear hk0
       go_wp2_with fail
       go_roundw
       case rel => exact ⟨k + 1, by go_num, hlt, HBZ⟩
       case measure => simp [intOf]; omega
      ·have i7 : ((k : Int) == 0) = false := by simp; omega
       obtain ⟨ga', hga', b0, b1⟩ := zA HMA (k - 1) (by omega)
       obtain rfl : ga = ga' := by rw [hga] at hga'; simpa using hga'
       have hord : matchLt ps (l.getD (k - 1) (0, 0)) (l.getD k (0, 0)) := by
        have := List.pairwise_iff_getElem.1 (zA HOR) (k - 1) k (by omega) hlt (by omega)
        have e1 : l.getD (k - 1) (0, 0) = l[k - 1] := by simp [List.getD, show k - 1 < l.length by omega]
        have e2 : l.getD k (0, 0) = l[k] := by simp [List.getD, hlt]
        rw [e1, e2]; exact this
       have hmem' : l.getD (k - 1) (0, 0) ∈ l := by
        have : l.getD (k - 1) (0, 0) = l[k - 1] := by simp [List.getD, show k - 1 < l.length by omega]
        rw [this]; exact List.getElem_mem _
       obtain ⟨m3, m4⟩ := zA HLT _ hmem'
       have hk1 : (k - 1) * 2 = k * 2 - 2 := by omega
       have q0 : wr.cell? ⟨ga, (k - 1) * 2, none⟩ = some (.int .i64 (l.getD (k - 1) (0, 0)).1) := ((zA HBZ).cell (p := ⟨ga, (k - 1) * 2, none⟩) hgl).trans b0
       have q1 : wr.cell? ⟨ga, (k - 1) * 2 + 1, none⟩ = some (.int .i64 (l.getD (k - 1) (0, 0)).2) := ((zA HBZ).cell (p := ⟨ga, (k - 1) * 2 + 1, none⟩) hgl).trans b1
       obtain ⟨j, hj⟩ : ∃ j, k = j + 1 := ⟨k - 1, by omega⟩
       subst hj
       rw [Nat.add_sub_cancel] at q0 q1 hord m3 m4
       obtain ⟨hb1, hap⟩ := zA HBP (by omega)
       obtain ⟨ao1, cx1, pc1, _⟩ := zA HPC _ m3
       obtain ⟨ao2, cx2, pc2, _⟩ := zA HPC _ m1
       have HORD := zB hord
       clear a0 a1 b0 b1 hmem hmem' hord hk1 hga' hk0
       unfold matchLt tellLt at HORD
       generalize (l.getD (j + 1) (0, 0)).1 = y0 at *
       generalize (l.getD (j + 1) (0, 0)).2 = y1 at *
       generalize (l.getD j (0, 0)).1 = x0 at *
       generalize (l.getD j (0, 0)).2 = x1 at *
       subst hga hap
       have p1 : wr.cell? ⟨bp, op + x0, none⟩ = some (.slice ao1 (pat ps x0).length cx1) := ((zA HBZ).cell (p := ⟨bp, op + x0, none⟩) hb1).trans pc1
       have p2 : wr.cell? ⟨bp, op + y0, none⟩ = some (.slice ao2 (pat ps y0).length cx2) := ((zA HBZ).cell (p := ⟨bp, op + y0, none⟩) hb1).trans pc2
       have HOR2 : Hid (x1 < y1 \/ x1 = y1 /\ ((pat ps y0).length < (pat ps x0).length \/ (pat ps x0).length = (pat ps y0).length /\ x0 < y0)) := HORD
       have x0l : (x0 : Int) < (ps.length : Int) := by omega
       have y0l : (y0 : Int) < (ps.length : Int) := by omega
       have x0g : (0 : Int) <= (x0 : Int) := by omega
       have y0g : (0 : Int) <= (y0 : Int) := by omega
       have jl : (j : Int) < (l.length : Int) := by omega
       have jg : (0 : Int) <= (j : Int) := by omega
       have lga : ga < wr.heap.size := by omega
       have lbp : bp < wr.heap.size := by omega
       have y0c : ∀ o1, (wr.alloc o1).cell? ⟨ga, (j + 1) * 2, none⟩ = some (.int .i64 y0) := fun o1 => (((Below.refl wr.heap.size wr).alloc (Nat.le_refl _) o1).cell (p := ⟨ga, (j + 1) * 2, none⟩) lga).trans z0
       have y1c : ∀ o1, (wr.alloc o1).cell? ⟨ga, (j + 1) * 2 + 1, none⟩ = some (.int .i64 y1) := fun o1 => (((Below.refl wr.heap.size wr).alloc (Nat.le_refl _) o1).cell (p := ⟨ga, (j + 1) * 2 + 1, none⟩) lga).trans z1
       clear HORD pc1 pc2 hb1 i5 i6 i5' i6' m2 m4
       generalize (pat ps x0).length = n1 at *
       generalize (pat ps y0).length = n2 at *
       have i5' : decide ((y0 : Int) < 0) = false := decide_eq_false (by omega)
       have i6' : decide ((ps.length : Int) <= (y0 : Int)) = false := decide_eq_false (by omega)
       have nb1 : ∀ o1 o2, ((wr.alloc o1).alloc o2).heap[wr.heap.size]? = some o1 := fun o1 o2 => (Below.heap_alloc (wr.alloc o1) o2 wr.heap.size (by simp)).trans (heap_alloc_new wr o1)
       have nb2 : ∀ o1 o2, ((wr.alloc o1).alloc o2).heap[wr.heap.size + 1]? = some o2 := fun o1 o2 => by
        have := heap_alloc_new (wr.alloc o1) o2
        rw [show (wr.alloc o1).heap.size = wr.heap.size + 1 by simp] at this
        exact this
       have HNB1 := zB nb1
       have HNB2 := zB nb2
       clear nb1 nb2
       go_wp2_with fail
       have w0 : ((wr.alloc (.cells #[.int .i64 x0, .int .i64 x1] 49)).alloc (.cells #[.int .i64 y0, .int .i64 y1] 49)).cell? ⟨wr.heap.size, 0, none⟩ = some (.int .i64 x0) := by rw [zC (zA HNB1 _ _)]; rfl
       have w1 : ((wr.alloc (.cells #[.int .i64 x0, .int .i64 x1] 49)).alloc (.cells #[.int .i64 y0, .int .i64 y1] 49)).cell? ⟨wr.heap.size, 1, none⟩ = some (.int .i64 x1) := by rw [zC (zA HNB1 _ _)]; rfl
       have w2 : ((wr.alloc (.cells #[.int .i64 x0, .int .i64 x1] 49)).alloc (.cells #[.int .i64 y0, .int .i64 y1] 49)).cell? ⟨wr.heap.size + 1, 0, none⟩ = some (.int .i64 y0) := by rw [zC (zA HNB2 _ _)]; rfl
       have w3 : ((wr.alloc (.cells #[.int .i64 x0, .int .i64 x1] 49)).alloc (.cells #[.int .i64 y0, .int .i64 y1] 49)).cell? ⟨wr.heap.size + 1, 1, none⟩ = some (.int .i64 y1) := by rw [zC (zA HNB2 _ _)]; rfl
       have w4' : ((wr.alloc (.cells #[.int .i64 x0, .int .i64 x1] 49)).alloc (.cells #[.int .i64 y0, .int .i64 y1] 49)).cell? ⟨bp, op + x0, none⟩ = some (.slice ao1 n1 cx1) := ((((Below.refl wr.heap.size wr).alloc (Nat.le_refl _) _).alloc (by simp) _).cell (p := ⟨bp, op + x0, none⟩) lbp).trans p1
       have w5' : ((wr.alloc (.cells #[.int .i64 x0, .int .i64 x1] 49)).alloc (.cells #[.int .i64 y0, .int .i64 y1] 49)).cell? ⟨bp, op + y0, none⟩ = some (.slice ao2 n2 cx2) := ((((Below.refl wr.heap.size wr).alloc (Nat.le_refl _) _).alloc (by simp) _).cell (p := ⟨bp, op + y0, none⟩) lbp).trans p2
       have HBB : Hid (Below W.heap.size W ((wr.alloc (.cells #[.int .i64 x0, .int .i64 x1] 49)).alloc (.cells #[.int .i64 y0, .int .i64 y1] 49))) := zB (((zA HBZ).alloc hszz _).alloc (by simp; omega) _)
       clear y0c y1c p1 p2 z0 z1 q0 q1 HNB1 HNB2
       generalize (wr.alloc (.cells #[.int .i64 x0, .int .i64 x1] 49)).alloc (.cells #[.int .i64 y0, .int .i64 y1] 49) = wv at *
       rcases zA HOR2 with h | ⟨h, h | ⟨h, h'⟩⟩
       ·have g1 : decide ((y1 : Int) < (x1 : Int)) = false := decide_eq_false (by omega)
        have g1b : decide (y1 < x1) = false := decide_eq_false (by omega)
        have g1c : x1 <= y1 := by omega
        have g1d : (x1 : Int) <= (y1 : Int) := by omega
        have g2 : ((x1 : Int) == (y1 : Int)) = false := by simp; omega
        clear h HOR2
        go_wp2_with fail
        go_quiet (fail)
        go_wp2_with fail
        go_roundw
        case rel => exact ⟨j + 1 + 1, by go_num, hlt, zB (below_drewN (zA HBB) _)⟩
        case measure => simp [intOf]; omega
       ·have g1 : decide ((y1 : Int) < (x1 : Int)) = false := decide_eq_false (by omega)
        have g1b : decide (y1 < x1) = false := decide_eq_false (by omega)
        have g1c : x1 <= y1 := by omega
        have g1d : (x1 : Int) <= (y1 : Int) := by omega
        have g2 : ((x1 : Int) == (y1 : Int)) = true := by simp; omega
        have g3 : decide ((n1 : Int) < (n2 : Int)) = false := decide_eq_false (by omega)
        have g3b : decide (n1 < n2) = false := decide_eq_false (by omega)
        have g3c : n2 <= n1 := by omega
        have g3d : (n2 : Int) <= (n1 : Int) := by omega
        have g4 : ((n1 : Int) == (n2 : Int)) = false := by simp; omega
        rename_i hh
        clear h hh HOR2
        go_wp2_with fail
        go_quiet (fail)
        go_wp2_with fail
        go_roundw
        case rel => exact ⟨j + 1 + 1, by go_num, hlt, zB (below_drewN (zA HBB) _)⟩
        case measure => simp [intOf]; omega
       ·have g1 : decide ((y1 : Int) < (x1 : Int)) = false := decide_eq_false (by omega)
        have g1b : decide (y1 < x1) = false := decide_eq_false (by omega)
        have g1c : x1 <= y1 := by omega
        have g1d : (x1 : Int) <= (y1 : Int) := by omega
        have g2 : ((x1 : Int) == (y1 : Int)) = true := by simp; omega
        have g3 : decide ((n1 : Int) < (n2 : Int)) = false := decide_eq_false (by omega)
        have g3b : decide (n1 < n2) = false := decide_eq_false (by omega)
        have g3c : n2 <= n1 := by omega
        have g3d : (n2 : Int) <= (n1 : Int) := by omega
        have g4 : ((n1 : Int) == (n2 : Int)) = true := by simp; omega
        have g5 : decide ((y0 : Int) <= (x0 : Int)) = false := decide_eq_false (by omega)
        have g5b : decide (y0 <= x0) = false := decide_eq_false (by omega)
        have g5c : x0 < y0 := by omega
        have g5d : (x0 : Int) < (y0 : Int) := by omega
        rename_i hh
        clear h h' hh HOR2
        go_wp2_with fail
        go_quiet (fail)
        go_wp2_with fail
        go_roundw
        case rel => exact ⟨j + 1 + 1, by go_num, hlt, zB (below_drewN (zA HBB) _)⟩
        case measure => simp [intOf]; omega
     ·obtain rfl : k = l.length := by omega
      have i3 : ¬ (l.length : Int) < (l.length : Int) := by omega
      go_wp2_with fail
      go_ret
      exact ⟨rfl, (zA HB9).trans ((zA HBZ).mono (zA HB9).size)⟩
 ·exact absurd rfl (hnf ps S (zA HGD))
end Go.Proofs.YtfpohfifdfbpkaaGreatDoor
