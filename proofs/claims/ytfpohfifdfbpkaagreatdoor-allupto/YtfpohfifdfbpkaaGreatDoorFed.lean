import Derived.Test.YtfpohfifdfbpkaaGreatDoorKeepsM
import Derived.Test.YtfpohfifdfbpkaaGreatDoorStep
namespace Go.Proofs.YtfpohfifdfbpkaaGreatDoor
open Go.RowKit Scour Go.Lib
theorem LW.both {w1 w2 w3 : World} {bw : Nat} {T : Nat -> Nat} {M : List Ent} {vms vby vli : Value} {E F : List Sl} {mb : Ext} {f : Flow} {i : Nat} {b : Str} {g gm g' : List Nat} {v v2 : Value}
  (h : LW w1 bw T M vms vby vli E F mb) (hf : mb.L[i]? = some f) (hbs : T f.bs = jG i) (hg : ∀ k, k ∈ g -> T k = jG i) (hgl : ∀ k, k ∈ g -> k < w1.heap.size) (hgm : ∀ k, k ∈ gm -> k < w1.heap.size /\ T k = 1)
  (hP : FdOut w1 w2 f.bs g gm f.ps f.S f.t b v g') (hR : FdSt w2 w3 f.bx f.br (f.t ++ b) v2 (zJ f.ps f.t b)) :
  LW w3 bw (tagsW T w1 g' i) M vms vby vli E F (mb.feed i (f.add b) b.length) /\ Fr T w1 w3 (tagsW T w1 g' i) /\ w3.ownsRow w1.heap.size 49 2 v (zJ f.ps f.t b).length (ze (zJ f.ps f.t b)) /\ ∀ k, v.ownBlock = some k -> tagsW T w1 g' i k = 9 /\ k < w3.heap.size := by
 obtain ⟨hx0, tx⟩ := (h.ext.flows i f hf).rscan
 have lbx := (Array.getElem?_eq_some_iff.1 hx0).1
 have s12 := hP.size
 have s23 := hR.fr.size
 have hv : w3.ownsRow w1.heap.size 49 2 v (zJ f.ps f.t b).length (ze (zJ f.ps f.t b)) := zE hP.row (fun k hl hv => hR.fr.block k hl (fun e => by
  have h1 := (hP.row.lt k hv).1
  have : k = f.bx := by simpa using e
  omega))
 have hL := h.feed (w' := w3) (b := b) (g' := g') (gm := gm) hf (by omega) (hR.fr.os.trans hP.os) (hR.fr.tape.trans hP.tape) (hR.fr.output.trans hP.output) (fun k hk h1 h2 => by
   rw [hR.fr.block k (by omega) (fun e => h2 (by
    have : k = f.bx := by simpa using e
    rw [this]; exact tx))]
   exact hP.frame k hk (fun e => h1 (by rw [e]; exact hbs)) (fun e => h1 (hg k e)))
  (hP.scan.same s23 (fun k hk hkk => hR.fr.block k hk (fun e => by
   have e1 : k = f.bx := by simpa using e
   rcases hkk with h1 | h1 | h1
   ·rw [← h1, e1, tx] at hbs; unfold jG rtag at hbs; omega
   ·rcases hP.own k h1 with h2 | h2
    ·have := hg k h2; rw [e1, tx] at this; unfold jG rtag at this; omega
    ·omega
   ·have := (hgm k h1).2; rw [e1, tx] at this; unfold rtag at this; omega)))
  (fun k hk => by
   rcases hP.own k hk with h1 | h1
   ·exact Or.inl ⟨hgl k h1, hg k h1⟩
   ·exact Or.inr h1)
  hgm hR.blk
 refine ⟨hL.1, hL.2, hv, fun k hk => ?_⟩
 have h1 := hv.lt k hk
 refine ⟨?_, h1.2⟩
 unfold tagsW
 rw [if_neg (by omega), if_neg (hP.apart k hk)]
end Go.Proofs.YtfpohfifdfbpkaaGreatDoor
namespace Go.Proofs.YtfpohfifdfbpkaaGreatDoor
open Go.RowKit Scour Go.Lib
def FedAfter (bw : Nat) (T : Nat -> Nat) (M : List Ent) (vms vby vli : Value) (E F : List Sl) (mb : Ext) (w w' : World) : Prop :=
 ∃ T' mb', LW w' bw T' M vms vby vli E F mb' /\ Fr T w w' T' /\ mb.Le mb' /\ mb'.fs = mb.fs /\ mb'.L.length = mb.L.length /\ zY mb'.L = zY mb.L
theorem lent_bytes {w : World} {g : Nat} {s : Str} (h : w.heap[g]? = some (.cells (yM s 8).toArray 5 (0, 0))) : zh w (some ⟨g, 0, none⟩) (s.length + 8) s :=
 Or.inr ⟨g, 0, rfl, (Array.getElem?_eq_some_iff.1 h).1, fun j hj => by
  rw [Nat.zero_add, zC h]; simp only [List.getElem?_toArray]; exact lentL_low s j hj⟩
theorem LW.rfeed {w1 w2 : World} {bw : Nat} {T : Nat -> Nat} {M : List Ent} {vms vby vli : Value} {E F : List Sl} {mb : Ext} {f : Flow} {i : Nat} {b : Str} {g gm g' : List Nat} {v : Value}
  (h : LW w1 bw T M vms vby vli E F mb) (hf : mb.L[i]? = some f) (hbs : T f.bs = jG i) (hg : ∀ k, k ∈ g -> T k = jG i) (hP : FdOut w1 w2 f.bs g gm f.ps f.S f.t b v g') (hX : mb.Small) (hb : b.length < 1000000000) :
  Calls Tryz.prog 91 #[.pointer (some ⟨f.bx, 0, none⟩), .string ⟨b.toArray⟩] w2 fun e w' => ∃ v2, e = .returned v2 /\ FdSt w2 w' f.bx f.br (f.t ++ b) v2 (zJ f.ps f.t b) := by
 have hF := h.ext.flows i f hf
 obtain ⟨hx0, tx⟩ := hF.rscan
 obtain ⟨vL, gS, cS, hR, r1, r2, r3⟩ := hF.rmach
 have lbx := (Array.getElem?_eq_some_iff.1 hx0).1
 obtain ⟨h64, hlen, _⟩ := yr hF.ok
 have hone : ∀ k, k < w1.heap.size -> T k ≠ jG i -> w2.heap[k]? = w1.heap[k]? := fun k hl h1 => hP.frame k hl (fun e => h1 (by rw [e]; exact hbs)) (fun e => h1 (hg k e))
 refine rfeed_any f.bx f.br gS cS vL f.ps f.S f.t b w2 ((hone _ lbx (by rw [tx]; unfold jG rtag; omega)).trans hx0) (hR.same ?_) h64 (fun i hi => (hlen i hi).2) ?_ hb
 ·rintro k hl (rfl | rfl | hv)
  ·exact hone _ hl (by rw [r1]; unfold jG; omega)
  ·exact hone _ hl (by rw [r2]; unfold jG; omega)
  ·exact hone _ hl (by rw [r3 k hv]; unfold jG; omega)
 ·have := h.ext.most f (List.mem_of_getElem? hf)
  have := hX.t
  omega
set_option maxHeartbeats 8000000 in
set_option maxRecDepth 100000 in
theorem fed_lent (hFD : yU) (bw : Nat) (T : Nat -> Nat) (M : List Ent) (vms vby vli : Value) (E F : List Sl) (mb : Ext) (i : Nat) (f : Flow) (kk a b : Int) (s : Str) (tx : ByteArray) (htx : tx = ⟨s.toArray⟩) (vl : Value) (w : World) (hW : LW w bw T M vms vby vli E F mb) (hf : mb.L[i]? = some f) (hs : s.length < 100000000) (hX : mb.Small) (hc : ¬ tx.toList = [] \/ (tx.toList = [] /\ (b.tmod 2 == 0) = true)) :
  Calls Tryz.prog 50 #[.pointer (some ⟨bw, 0, none⟩), .agg #[.pointer (some ⟨f.bs, 0, none⟩), .pointer (some ⟨f.bx, 0, none⟩)], .agg #[.int .i64 kk, .int .i64 a, .int .i64 b, .string tx, vl]] w fun r w' => r = .returned (.bool true) /\ FedAfter bw T M vms vby vli E F mb w w' := by
 have HW := zB hW
 have HFD := zB hFD
 have HTX := zB htx
 have HLB : Hid (∀ W n, W.heap.size = n -> Calls Tryz.prog 88 #[.string tx] W fun e w' => e = .returned (.slice (some ⟨n, 0, none⟩) s.length (s.length + 8)) /\ w'.heap[n]? = some (.cells (yM s 8).toArray 5 (0, 0)) /\ w'.heap.size = n + 1 /\ Below n W w') := zB (fun W n hn => by rw [htx, ← hn]; exact lentBytes_any s W hs)
 have HWB : Hid (∀ W g, W.heap[g]? = some (.cells (yM s 8).toArray 5 (0, 0)) -> Calls Tryz.prog 90 #[.slice (some ⟨g, 0, none⟩) s.length (s.length + 8), .string tx] W fun e w' => e = .returned (.bool true) /\ w'.heap[g]? = some (.cells (overL s (s.length + 8)).toArray 5 (0, 0)) /\ W.grownBy w' (some g)) := zB (fun W g hg => by rw [htx]; exact wholeBytes_any g s W hs hg)
 have HF := zB hf
 clear hW hFD htx hf
 rcases hc with hc | ⟨hc, hc2⟩
 all_goals
  go_enter Tryz.func50, Tryz.ntmps50
  go_wp2_with fail
  refine (zA HLB _ (w.heap.size + 2) (by simp)).mono ?_
  rintro e w1 ⟨rfl, hg1, hs1, hb1⟩
  have p0 := hb1.cell (p := ⟨w.heap.size, 0, none⟩) (by simp)
  have p1 := hb1.cell (p := ⟨w.heap.size, 1, none⟩) (by simp)
  have q3 := hb1.cell (p := ⟨w.heap.size + 1, 3, none⟩) (by simp)
  simp at p0 p1 q3
  have HB1 : Hid (Below w.heap.size w w1) := zB ((zf w _ _).trans (hb1.mono (by simp)))
  have HW1 := zB ((zA HW).below (zA HB1))
  obtain ⟨g, gm, hM, t1, t2, t3⟩ := ((zA HW1).ext.flows i f (zA HF)).scan
  have hck := ((zA HW1).ext.flows i f (zA HF)).ok
  obtain ⟨l1, l2, l3⟩ := hM.lts
  have hmost := (zA HW1).ext.most f (List.mem_of_getElem? (zA HF))
  have hX3 := hX.t
  have HFE := zB (zA HFD w1 f.bs g gm f.ps f.S f.t s (some ⟨w.heap.size + 2, 0, none⟩) (s.length + 8) hM hck (lent_bytes hg1) (by omega) (by omega) (by omega) (by omega))
  have HG1 := zB hg1
  have HT1 := zB t1
  have HT2 := zB t2
  have HL2 := zB l2
  have HGM : Hid (∀ k, k ∈ gm -> k < w1.heap.size /\ T k = 1) := zB (fun k hk => ⟨l3 k hk, t3 k hk⟩)
  have HFR := zB (zA HW).fresh
  clear hM hck l1 l2 l3 t1 t2 t3 hb1 hg1 hmost
  go_wp2_with fail
  refine (zA HFE).mono ?_
  rintro e w2 ⟨v, g', rfl, hO⟩
  have HO := zB hO
  have HRF := zB ((zA HW1).rfeed (zA HF) (zA HT1) (zA HT2) hO hX (by omega))
  rw [← zA HTX] at HRF
  have ho2 : ∀ k, k < w1.heap.size -> T k = 9 -> w2.heap[k]? = w1.heap[k]? := fun k hk h9 => hO.frame k hk (fun e => by have := zA HT1; rw [← e, h9] at this; unfold jG at this; omega) (fun e => by have := zA HT2 k e; rw [h9] at this; unfold jG at this; omega)
  have n0 := ho2 w.heap.size (by omega) (zA HFR _ (by omega))
  have n1 := ho2 (w.heap.size + 1) (by omega) (zA HFR _ (by omega))
  have HN2 := zB (ho2 (w.heap.size + 2) (by omega) (zA HFR _ (by omega)))
  have p12 : w2.cell? ⟨w.heap.size, 1, none⟩ = some (.pointer (some ⟨f.bx, 0, none⟩)) := (World.cell?_of_block (a := ⟨w.heap.size, 1, none⟩) n0).trans p1
  have q32 : w2.cell? ⟨w.heap.size + 1, 3, none⟩ = some (.string tx) := (World.cell?_of_block (a := ⟨w.heap.size + 1, 3, none⟩) n1).trans q3
  have hs2 := hO.size
  clear hO ho2 n0 n1 p0 p1 q3 HFE
  go_wp2_with fail
  refine (zA HRF).mono ?_
  rintro e w3 ⟨v2, rfl, hR⟩
  obtain ⟨hL3, hF3, hv3, h93⟩ := (zA HW1).both (zA HF) (zA HT1) (zA HT2) (zA HL2) (zA HGM) (zA HO) hR
  have hne : ∀ k, k < w1.heap.size -> T k = 9 -> w3.heap[k]? = w2.heap[k]? := fun k hk h9 => hR.fr.block k (by omega) (fun e => by
   have e1 : k = f.bx := by simpa using e
   have := ((zA HW1).ext.flows i f (zA HF)).rscan.2
   rw [← e1, h9] at this; unfold rtag at this; omega)
  have n1 := hne (w.heap.size + 1) (by omega) (zA HFR _ (by omega))
  have n2 := hne (w.heap.size + 2) (by omega) (zA HFR _ (by omega))
  have q33 : w3.cell? ⟨w.heap.size + 1, 3, none⟩ = some (.string tx) := (World.cell?_of_block (a := ⟨w.heap.size + 1, 3, none⟩) n1).trans q32
  have HWH := zB (zA HWB w3 (w.heap.size + 2) (n2.trans ((zA HN2).trans (zA HG1))))
  have hT9 : tagsW T w1 g' i (w.heap.size + 2) = 9 := by unfold tagsW; rw [if_pos (by omega)]; exact zA HFR _ (by omega)
  have hfl : (zJ f.ps f.t s).length <= 6400000000 := by
   have h64 := (yr ((zA HW1).ext.flows i f (zA HF)).ok).1
   exact Nat.le_trans (yB f.ps s f.t) (Nat.le_trans (Nat.mul_le_mul h64 (Nat.le_of_lt hs)) (by omega))
  have hs3 := hR.fr.size
  have hrow2 := hR.row
  have HL3 := zB hL3
  have HF3 := zB ((zl (zA HB1)).trans hF3)
  have H93 := zB h93
  have HT9 := zB hT9
  have HV3 := zB hv3
  have HR2 := zB hrow2
  have hne2 : f.bx < w1.heap.size := (Array.getElem?_eq_some_iff.1 ((zA HW1).ext.flows i f (zA HF)).rscan.1).1
  have HMB : Hid (mb.Le (mb.feed i (f.add s) s.length) /\ (mb.feed i (f.add s) s.length).fs = mb.fs /\ (mb.feed i (f.add s) s.length).L.length = mb.L.length /\ zY (mb.feed i (f.add s) s.length).L = zY mb.L /\ (mb.feed i (f.add s) s.length).ma = mb.ma /\ (mb.feed i (f.add s) s.length).G = mb.G) := zB ⟨⟨by simp [Ext.feed], by simp [Ext.feed], by simp only [Ext.feed]; omega⟩, rfl, by simp [Ext.feed], flowCells_set mb.L i f (f.add s) (zA HF) rfl rfl, rfl, rfl⟩
  clear hL3 hF3 hv3 h93 hT9 hne n1 n2 hR hrow2 HO HRF HN2 HG1 HT1 HT2 HL2 HGM HW1
  generalize zJ f.ps f.t s = l at *
  generalize mb.feed i (f.add s) s.length = mf at *
  generalize tagsW T w1 g' i = T3 at *
  have hqn : ∀ W : World, (binOp .eql 27 (.slice (some ⟨w.heap.size + 2, 0, none⟩) s.length (s.length + 8)) (.slice none 0 0)).run Tryz.prog W = .ok (.bool false) W := fun W => run_eql_slice_nil W _ _ (some _) _ _ 0 0 Tryz.underlying27
  go_wp2_with fail
  refine (zA HWH).mono ?_
  rintro e w4 ⟨rfl, hg4, hgr4⟩
  have HL4 : Hid (LW w4 bw T3 M vms vby vli E F mf) := zB ((zA HL3).kept hgr4.size (fun k hk h9 => hgr4.block k hk (fun e => h9 (by
   have : k = w.heap.size + 2 := by simpa using e
   rw [this]; exact zA HT9))))
  have HF4 : Hid (Fr T w w4 T3) := zB ((zA HF3).trans ⟨hgr4.os, hgr4.tape, hgr4.output, hgr4.size, fun k hk h0 => ⟨hgr4.block k hk (fun e => by
   have e1 : k = w.heap.size + 2 := by simpa using e
   rw [e1, zA HT9] at h0; cases h0), h0⟩⟩)
  have HV4 : Hid (w4.ownsRow w1.heap.size 49 2 v l.length (ze l)) := zB (zE (zA HV3) (fun k hl hv => hgr4.block k hl (fun e => by
   have h1 := ((zA HV3).lt k hv).1
   have : k = w.heap.size + 2 := by simpa using e
   omega)))
  have HR4 : Hid (w4.ownsRow w2.heap.size 49 2 v2 l.length (ze l)) := zB (zE (zA HR2) (fun k hl hv => hgr4.block k hl (fun e => by
   have h1 := ((zA HR2).lt k hv).1
   have : k = w.heap.size + 2 := by simpa using e
   omega)))
  have HS9 : Hid (∀ k, v.ownBlock = some k -> T3 k = 9 /\ k < w4.heap.size) := zB (fun k hk => ⟨(zA H93 k hk).1, Nat.lt_of_lt_of_le (zA H93 k hk).2 hgr4.size⟩)
  obtain ⟨va, vc, hv, hva⟩ := matches_at (zA HV4)
  obtain ⟨ra, rc, hr, hra⟩ := matches_at (zA HR4)
  subst hv hr
  have HVA := zB hva
  have HRA := zB hra
  clear hva hra hg4 hgr4 HWH q32 q33 p12 hqn
  go_wp2_with fail
  go_loopw [11, 12] (fun v11 v12 wz => ∃ k m : Nat, v11 = .bool true /\ v12 = .int .i64 k /\ k <= l.length /\ wz = w4.drewN m) (fun _ v12 _ => l.length - (intOf v12).toNat)
  case atStart => exact ⟨0, 0, by simp, rfl, Nat.zero_le _, rfl⟩
  case round =>
   obtain ⟨k, m, rfl, rfl, hk, rfl⟩ := hrel
   by_cases hlt : k < l.length
   ·obtain ⟨ga, rfl, a0, a1⟩ := zA HVA k hlt
    obtain ⟨gr, rfl, r0, r1⟩ := zA HRA k hlt
    have i1 : (k : Int) < (l.length : Int) := by omega
    have i2 : (0 : Int) <= (k : Int) := by omega
    have z0 : (w4.drewN m).cell? ⟨ga, k * 2, none⟩ = some (.int .i64 (l.getD k (0, 0)).1) := a0
    have z1 : (w4.drewN m).cell? ⟨ga, k * 2 + 1, none⟩ = some (.int .i64 (l.getD k (0, 0)).2) := a1
    have z2 : (w4.drewN m).cell? ⟨gr, k * 2, none⟩ = some (.int .i64 (l.getD k (0, 0)).1) := r0
    have z3 : (w4.drewN m).cell? ⟨gr, k * 2 + 1, none⟩ = some (.int .i64 (l.getD k (0, 0)).2) := r1
    obtain ⟨wz, hwz⟩ : ∃ wz, w4.drewN m = wz := ⟨_, rfl⟩
    rw [hwz] at z0 z1 z2 z3 ⊢
    have HWZ := zB hwz
    clear hwz a0 a1 r0 r1
    generalize (l.getD k (0, 0)).1 = x0 at *
    generalize (l.getD k (0, 0)).2 = x1 at *
    go_wp2_with fail
    go_quiet (fail)
    go_wp2_with fail
    go_roundw
    case rel => exact ⟨k + 1, m + nq, by simp, by go_num, hlt, by rw [← zA HWZ, World.drewN_drewN]⟩
    case measure => simp [intOf]; omega
   ·obtain rfl : k = l.length := by omega
    have i1 : ¬ (l.length : Int) < (l.length : Int) := by omega
    have HB5 : Hid (Below w4.heap.size w4 (w4.drewN m)) := zB (below_drewN (Below.refl _ _) m)
    have HL5 := zB ((zA HL4).below (zA HB5))
    obtain ⟨x1, x2, x3, x4, x5, x6⟩ := zA HMB
    have hX2 := hX.g
    have HKM := zB (keepsM_any bw #[vms, mf.fs, vby, vli, mf.ma] 68 mf.ma mf.G ⟨va, l.length, vc⟩ (ze l) (w4.drewN m) (zA HL5).blk rfl (by decide) (by decide) (zA HL5).ext.mats.row (zu (zE (zA HV4) (fun k hl _ => (zA HB5).block k hl))) (by rw [x6]; omega) (by simp only []; omega))
    have HX := zB (And.intro x1 (And.intro x2 (And.intro x3 (And.intro x4 (And.intro x5 x6)))))
    simp only [Sl.val] at HKM
    clear x1 x2 x3 x4 x5 x6
    go_wp2_with (go_at_call 92; refine (zA HKM).mono ?_; rintro e w6 ⟨rfl, s1, s2, s3, vma', hK⟩; have HK := zB hK; clear hK)
    go_ret
    obtain ⟨x1, x2, x3, x4, x5, x6⟩ := zA HX
    obtain ⟨k1, k2⟩ := (zA HL5).keepsG (zA HK) (fun k hk => by
     have := zA HS9 k hk
     exact ⟨this.1, this.2⟩) (by simp only []; omega)
    exact ⟨rfl, _, _, k1, ((zA HF4).trans (zl (zA HB5))).trans k2, ⟨x1.l, by show (mf.G ++ _).length <= _; rw [x6]; simp, x1.t⟩, x2, x3, x4⟩
set_option maxHeartbeats 8000000 in
set_option maxRecDepth 100000 in
theorem fed_nil (hFD : yU) (bw : Nat) (T : Nat -> Nat) (M : List Ent) (vms vby vli : Value) (E F : List Sl) (mb : Ext) (i : Nat) (f : Flow) (kk a b : Int) (tx : ByteArray) (htx : tx = ⟨([] : Str).toArray⟩) (vl : Value) (w : World) (hW : LW w bw T M vms vby vli E F mb) (hf : mb.L[i]? = some f) (hX : mb.Small) (hc2 : (b.tmod 2 == 0) = false) :
 Calls Tryz.prog 50 #[.pointer (some ⟨bw, 0, none⟩), .agg #[.pointer (some ⟨f.bs, 0, none⟩), .pointer (some ⟨f.bx, 0, none⟩)], .agg #[.int .i64 kk, .int .i64 a, .int .i64 b, .string tx, vl]] w fun r w' => r = .returned (.bool true) /\ FedAfter bw T M vms vby vli E F mb w w' := by
 have HW := zB hW
 have HFD := zB hFD
 have HTX := zB htx
 have hc : tx.toList = [] := by rw [htx, ByteArray.toList_eq]
 have HF := zB hf
 clear hW hFD htx hf
 go_enter Tryz.func50, Tryz.ntmps50
 obtain ⟨w1, hw1⟩ : ∃ w1, w1 = (w.alloc (.cells #[.pointer (some ⟨f.bs, 0, none⟩), .pointer (some ⟨f.bx, 0, none⟩)] 104)).alloc (.cells #[.int .i64 kk, .int .i64 a, .int .i64 b, .string tx, vl] 70) := ⟨_, rfl⟩
 have hs1 : w1.heap.size = w.heap.size + 2 := by rw [hw1]; simp
 have p1 : w1.cell? ⟨w.heap.size, 1, none⟩ = some (.pointer (some ⟨f.bx, 0, none⟩)) := by rw [hw1]; simp
 have q3 : w1.cell? ⟨w.heap.size + 1, 3, none⟩ = some (.string tx) := by rw [hw1]; simp
 have HB1 : Hid (Below w.heap.size w w1) := zB (by rw [hw1]; exact zf w _ _)
 have HW1 := zB ((zA HW).below (zA HB1))
 obtain ⟨g, gm, hM, t1, t2, t3⟩ := ((zA HW1).ext.flows i f (zA HF)).scan
 have hck := ((zA HW1).ext.flows i f (zA HF)).ok
 obtain ⟨l1, l2, l3⟩ := hM.lts
 have hmost := (zA HW1).ext.most f (List.mem_of_getElem? (zA HF))
 have hX3 := hX.t
 have HFE := zB (zA HFD w1 f.bs g gm f.ps f.S f.t [] none 0 hM hck (Or.inl ⟨rfl, fun _ => rfl⟩) (by simp) (by omega) (by simp) (by omega))
 simp only [List.length_nil] at HFE
 have HT1 := zB t1
 have HT2 := zB t2
 have HL2 := zB l2
 have HGM : Hid (∀ k, k ∈ gm -> k < w1.heap.size /\ T k = 1) := zB (fun k hk => ⟨l3 k hk, t3 k hk⟩)
 have HFR := zB (zA HW).fresh
 clear hM hck l1 l2 l3 t1 t2 t3 hmost
 go_wp2_with fail
 rw [← hw1]
 refine (zA HFE).mono ?_
 rintro e w2 ⟨v, g', rfl, hO⟩
 have HO := zB hO
 have HRF := zB ((zA HW1).rfeed (zA HF) (zA HT1) (zA HT2) hO hX (by simp))
 rw [← zA HTX] at HRF
 have ho2 : ∀ k, k < w1.heap.size -> T k = 9 -> w2.heap[k]? = w1.heap[k]? := fun k hk h9 => hO.frame k hk (fun e => by have := zA HT1; rw [← e, h9] at this; unfold jG at this; omega) (fun e => by have := zA HT2 k e; rw [h9] at this; unfold jG at this; omega)
 have n0 := ho2 w.heap.size (by omega) (zA HFR _ (by omega))
 have n1 := ho2 (w.heap.size + 1) (by omega) (zA HFR _ (by omega))
 have p12 : w2.cell? ⟨w.heap.size, 1, none⟩ = some (.pointer (some ⟨f.bx, 0, none⟩)) := (World.cell?_of_block (a := ⟨w.heap.size, 1, none⟩) n0).trans p1
 have q32 : w2.cell? ⟨w.heap.size + 1, 3, none⟩ = some (.string tx) := (World.cell?_of_block (a := ⟨w.heap.size + 1, 3, none⟩) n1).trans q3
 have hs2 := hO.size
 have HWW := zB hw1
 clear hO ho2 n0 n1 p1 q3 HFE hw1
 go_wp2_with fail
 refine (zA HRF).mono ?_
 rintro e w3 ⟨v2, rfl, hR⟩
 obtain ⟨hL3, hF3, hv3, h93⟩ := (zA HW1).both (zA HF) (zA HT1) (zA HT2) (zA HL2) (zA HGM) (zA HO) hR
 have hne : ∀ k, k < w1.heap.size -> T k = 9 -> w3.heap[k]? = w2.heap[k]? := fun k hk h9 => hR.fr.block k (by omega) (fun e => by
  have e1 : k = f.bx := by simpa using e
  have := ((zA HW1).ext.flows i f (zA HF)).rscan.2
  rw [← e1, h9] at this; unfold rtag at this; omega)
 have hfl : (zJ f.ps f.t []).length <= 6400000000 := by
  exact Nat.le_trans (yB f.ps [] f.t) (by simp)
 have hs3 := hR.fr.size
 have hrow2 := hR.row
 have HL3 := zB hL3
 have HF3 := zB ((zl (zA HB1)).trans hF3)
 have H93 := zB h93
 have HV3 := zB hv3
 have HR2 := zB hrow2
 have hne2 : f.bx < w1.heap.size := (Array.getElem?_eq_some_iff.1 ((zA HW1).ext.flows i f (zA HF)).rscan.1).1
 have HMB : Hid (mb.Le (mb.feed i (f.add []) 0) /\ (mb.feed i (f.add []) 0).fs = mb.fs /\ (mb.feed i (f.add []) 0).L.length = mb.L.length /\ zY (mb.feed i (f.add []) 0).L = zY mb.L /\ (mb.feed i (f.add []) 0).ma = mb.ma /\ (mb.feed i (f.add []) 0).G = mb.G) := zB ⟨⟨by simp [Ext.feed], by simp [Ext.feed], by simp only [Ext.feed]; omega⟩, rfl, by simp [Ext.feed], flowCells_set mb.L i f (f.add []) (zA HF) rfl rfl, rfl, rfl⟩
 clear hL3 hF3 hv3 h93 hne hR hrow2 HO HRF HT1 HT2 HL2 HGM HW1
 generalize zJ f.ps f.t [] = l at *
 generalize mb.feed i (f.add []) 0 = mf at *
 generalize tagsW T w1 g' i = T3 at *
 have hqn : ∀ W : World, (binOp .eql 27 (.slice none 0 0) (.slice none 0 0)).run Tryz.prog W = .ok (.bool true) W := fun W => run_eql_slice_nil W _ _ none 0 0 0 0 Tryz.underlying27
 have HL4 := HL3
 have HF4 := HF3
 have HV4 := HV3
 have HR4 := HR2
 have HS9 := H93
 obtain ⟨va, vc, hv, hva⟩ := matches_at (zA HV4)
 obtain ⟨ra, rc, hr, hra⟩ := matches_at (zA HR4)
 subst hv hr
 have HVA := zB hva
 have HRA := zB hra
 clear hva hra q32 p12
 go_wp2_with fail
 go_loopw [11, 12] (fun v11 v12 wz => ∃ k m : Nat, v11 = .bool true /\ v12 = .int .i64 k /\ k <= l.length /\ wz = w3.drewN m) (fun _ v12 _ => l.length - (intOf v12).toNat)
 case atStart => exact ⟨0, 0, by simp, rfl, Nat.zero_le _, rfl⟩
 case round =>
  obtain ⟨k, m, rfl, rfl, hk, rfl⟩ := hrel
  by_cases hlt : k < l.length
  ·obtain ⟨ga, rfl, a0, a1⟩ := zA HVA k hlt
   obtain ⟨gr, rfl, r0, r1⟩ := zA HRA k hlt
   have i1 : (k : Int) < (l.length : Int) := by omega
   have i2 : (0 : Int) <= (k : Int) := by omega
   have z0 : (w3.drewN m).cell? ⟨ga, k * 2, none⟩ = some (.int .i64 (l.getD k (0, 0)).1) := a0
   have z1 : (w3.drewN m).cell? ⟨ga, k * 2 + 1, none⟩ = some (.int .i64 (l.getD k (0, 0)).2) := a1
   have z2 : (w3.drewN m).cell? ⟨gr, k * 2, none⟩ = some (.int .i64 (l.getD k (0, 0)).1) := r0
   have z3 : (w3.drewN m).cell? ⟨gr, k * 2 + 1, none⟩ = some (.int .i64 (l.getD k (0, 0)).2) := r1
   obtain ⟨wz, hwz⟩ : ∃ wz, w3.drewN m = wz := ⟨_, rfl⟩
   rw [hwz] at z0 z1 z2 z3 ⊢
   have HWZ := zB hwz
   clear hwz a0 a1 r0 r1
   generalize (l.getD k (0, 0)).1 = x0 at *
   generalize (l.getD k (0, 0)).2 = x1 at *
   go_wp2_with fail
   go_quiet (fail)
   go_wp2_with fail
   go_roundw
   case rel => exact ⟨k + 1, m + nq, by simp, by go_num, hlt, by rw [← zA HWZ, World.drewN_drewN]⟩
   case measure => simp [intOf]; omega
  ·obtain rfl : k = l.length := by omega
   have i1 : ¬ (l.length : Int) < (l.length : Int) := by omega
   have HB5 : Hid (Below w3.heap.size w3 (w3.drewN m)) := zB (below_drewN (Below.refl _ _) m)
   have HL5 := zB ((zA HL4).below (zA HB5))
   obtain ⟨x1, x2, x3, x4, x5, x6⟩ := zA HMB
   have hX2 := hX.g
   have HKM := zB (keepsM_any bw #[vms, mf.fs, vby, vli, mf.ma] 68 mf.ma mf.G ⟨va, l.length, vc⟩ (ze l) (w3.drewN m) (zA HL5).blk rfl (by decide) (by decide) (zA HL5).ext.mats.row (zu (zE (zA HV4) (fun k hl _ => (zA HB5).block k hl))) (by rw [x6]; omega) (by simp only []; omega))
   have HX := zB (And.intro x1 (And.intro x2 (And.intro x3 (And.intro x4 (And.intro x5 x6)))))
   simp only [Sl.val] at HKM
   clear x1 x2 x3 x4 x5 x6
   go_wp2_with (go_at_call 92; refine (zA HKM).mono ?_; rintro e w6 ⟨rfl, s1, s2, s3, vma', hK⟩; have HK := zB hK; clear hK)
   go_ret
   obtain ⟨x1, x2, x3, x4, x5, x6⟩ := zA HX
   obtain ⟨k1, k2⟩ := (zA HL5).keepsG (zA HK) (fun k hk => by
    have := zA HS9 k hk
    exact ⟨this.1, this.2⟩) (by simp only []; omega)
   exact ⟨rfl, _, _, k1, ((zA HF4).trans (zl (zA HB5))).trans k2, ⟨x1.l, by show (mf.G ++ _).length <= _; rw [x6]; simp, x1.t⟩, x2, x3, x4⟩
end Go.Proofs.YtfpohfifdfbpkaaGreatDoor
