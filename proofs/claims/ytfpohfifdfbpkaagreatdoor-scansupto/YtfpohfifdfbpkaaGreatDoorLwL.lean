import Derived.Test.YtfpohfifdfbpkaaGreatDoorLdG
import Derived.Test.YtfpohfifdfbpkaaGreatDoorRdM
import Derived.Test.YtfpohfifdfbpkaaGreatDoorPlays
import Derived.Test.YtfpohfifdfbpkaaGreatDoorSaveLaw
import Derived.Deep.RegionLaw
import Derived.Deep.RegionWith
namespace Go.Proofs.YtfpohfifdfbpkaaGreatDoor
open Go.RowKit Scour Go.Lib
theorem lent_at {w : World} {g : Nat} {s : Str} (h : w.heap[g]? = some (.cells (yM s 8).toArray 5 (0, 0))) : zh w (some ⟨g, 0, none⟩) (s.length + 8) s :=
 Or.inr ⟨g, 0, rfl, (Array.getElem?_eq_some_iff.1 h).1, fun j hj => by
  rw [Nat.zero_add, zC h]; simp only [List.getElem?_toArray]; exact lentL_low s j hj⟩
theorem made_read {w w1 w2 w3 w4 : World} {bm bt be : Nat} {g : List Nat} {br gS cS : Nat} {vL : Value} {ps S : List Str} (h1 : Below w.heap.size w w1) (hs1 : w1.heap.size = w.heap.size + 1) (hM : yV w2 bm bt be g ps S) (hge : w1.heap.size <= bm /\ w1.heap.size <= bt /\ w1.heap.size <= be /\ ∀ k, k ∈ g -> w1.heap.size <= k) (h2 : Below w1.heap.size w1 w2)
  (hR : yZ w3 br vL gS cS ps S) (hgr : w2.heap.size <= br /\ w2.heap.size <= gS /\ ∀ b, vL.ownBlock = some b -> w2.heap.size <= b) (h3 : Below w2.heap.size w2 w3) (h4 : w3.grownBy w4 (some w.heap.size)) : Made w w4 bm br ps S := by
 have s2 := h2.size
 have s3 := h3.size
 obtain ⟨a1, a2, a3, a4⟩ := hge
 obtain ⟨b1, b2, b3⟩ := hgr
 have hM3 := hM.below h3
 obtain ⟨l1, l2, l3, l4⟩ := hM3.lts
 have hk : ∀ k, w1.heap.size <= k -> k < w3.heap.size -> w4.heap[k]? = w3.heap[k]? := fun k h1 h2 => h4.block k h2 (by simp; omega)
 have h34 : Below w.heap.size w3 w4 := zG h4 (by omega) (fun k e => by cases e; exact Nat.le_refl _)
 refine ⟨h1.trans ((h2.mono (by omega)).trans ((h3.mono (by omega)).trans h34)), ⟨bt, be, g, hM3.same h4.size ?_, by omega, by omega, by omega, fun k hk => by have := a4 k hk; omega⟩, ⟨vL, gS, cS, hR.same ?_, by omega, by omega, fun b hb => by have := b3 b hb; omega⟩⟩
 ·rintro k (rfl | rfl | rfl | hg)
  ·exact hk _ a1 l1
  ·exact hk _ a2 l2
  ·exact hk _ a3 l3
  ·exact hk _ (a4 k hg) (l4 k hg)
 ·rintro k hl (rfl | rfl | hv)
  ·exact hk _ (by omega) hl
  ·exact hk _ (by omega) hl
  ·exact hk _ (by have := b3 k hv; omega) hl
set_option maxHeartbeats 4000000 in
set_option maxRecDepth 100000 in
theorem loaded_any (bw : Nat) (T : Nat -> Nat) (M : List Ent) (vms vby vli : Value) (E F : List Sl) (mb : Ext) (s : Str) (w : World) (hW : LW w bw T M vms vby vli E F mb) (hs : s.length < 100000000) (hT : ErrT w) (hMl : M.length < 900000000000) :
  Calls Tryz.prog 49 #[.pointer (some ⟨bw, 0, none⟩), .string ⟨s.toArray⟩] w fun e w' => e = .returned (.bool true) /\ jR bw T M E F mb w w' := by
 obtain ⟨i0, hi, hz0, hz1, hz2⟩ := info_parts Tryz.infoP
 have HLB := zB (lentBytes_any s w hs)
 have HW := zB hW
 have HT := zB hT
 obtain ⟨tx, htx⟩ : ∃ tx, tx = (⟨s.toArray⟩ : ByteArray) := ⟨_, rfl⟩
 have HRL : Hid (∀ W, Calls Tryz.prog 89 #[.string tx] W (RlPost W s)) := zB (fun W => by rw [htx]; exact rload_any s W hs)
 have HWB : Hid (∀ W g, W.heap[g]? = some (.cells (yM s 8).toArray 5 (0, 0)) -> Calls Tryz.prog 90 #[.slice (some ⟨g, 0, none⟩) s.length (s.length + 8), .string tx] W fun e w' => e = .returned (.bool true) /\ w'.heap[g]? = some (.cells (overL s (s.length + 8)).toArray 5 (0, 0)) /\ W.grownBy w' (some g)) := zB (fun W g hg => by rw [htx]; exact wholeBytes_any g s W hs hg)
 rw [← htx] at HLB ⊢
 clear htx hW hT
 have hel := errL_pos s
 go_enter Tryz.func49, Tryz.ntmps49
 go_wp2_with (go_at_call 88; refine (zA HLB).mono ?_; rintro e w1 ⟨rfl, hg1, hs1, hb1⟩; have HG1 := zB hg1; have HB1 := zB hb1; have HS1 := zB hs1; clear hg1 hb1 hs1)
 refine (load_any _ _ s w1 (lent_at (zA HG1)) (by omega) (by omega) (by omega) ((zA HT).below (zA HB1))).mono ?_
 rintro e w2 (⟨bm, bt, be, g, ps, S, rfl, hM, hc, hf, hge, hb2⟩ | ⟨rfl, hnf, hb2⟩)
 ·have HM := zB hM
  have HC := zB hc
  have HF := zB hf
  have HGE := zB hge
  have HB2 := zB hb2
  clear hM hc hf hge hb2
  go_wp2_with fail
  refine (zA HRL w2).mono ?_
  rintro e w3 (⟨br, vL, gS, cS, ps', S', rfl, hR, hgd, hf', hgr, hb3⟩ | ⟨rfl, hnf, hb3⟩)
  ·obtain ⟨rfl, rfl⟩ := file_inj ((zA HM).good (zA HC)) hgd ((zA HF).symm.trans hf')
   have HR := zB hR
   have HGR := zB hgr
   have HB3 := zB hb3
   have hl1 : w.heap.size < w1.heap.size := by have := zA HS1; omega
   have HG3 : Hid (w3.heap[w.heap.size]? = some (.cells (yM s 8).toArray 5 (0, 0))) := zB ((hb3.block _ (Nat.lt_of_lt_of_le hl1 (zA HB2).size)).trans (((zA HB2).block _ hl1).trans (zA HG1)))
   clear hR hgr hb3 hf' hgd
   go_wp2_with (first
    | (go_at_call 90; refine (zA HWB w3 _ (zA HG3)).mono ?_; rintro e w4 ⟨rfl, _, hg4⟩; have HMD : Hid (Made w w4 bm br ps S) := zB (made_read (zA HB1) (zA HS1) (zA HM) (zA HGE) (zA HB2) (zA HR) (zA HGR) (zA HB3) hg4); clear hg4; have HW4 := zB ((zA HW).below (zA HMD).below); have HR4 := zB (zw.start (o := 0) (zA HW4).blk rfl (zA HW4).ms); have c4 := (zA HR4).cell (by simp))
    | (at_builtin; refine wpList_append_lies _ rfl (.tmp 46) (.tmp 50) 61 rfl 0 108 i0 (.agg #[.pointer none, .pointer none]) 2 16 Tryz.underlying61 hi hz0 hz1 hz2 rfl (by decide) _ M.length (zn M) rfl ((zA HR4).ready #[.pointer (some ⟨bm, 0, none⟩), .pointer (some ⟨br, 0, none⟩)] w4.heap.size rfl).1 ⟨w4.heap.size, 0, none⟩ 1 1 [.pointer (some ⟨bm, 0, none⟩), .pointer (some ⟨br, 0, none⟩)] rfl rfl ((zA HR4).ready #[.pointer (some ⟨bm, 0, none⟩), .pointer (some ⟨br, 0, none⟩)] w4.heap.size rfl).2 (by intro u hu; simp at hu; rcases hu with rfl | rfl <;> rfl) (by omega) (by unfold maxLen; omega) (by omega) (Nat.zero_le _) (w4.heap.size + 1) (by simp) ?_; intro g5 cg5 w5 ho5 hg5 hat5 hl5; obtain ⟨c5, f5⟩ := (zA HR4).behind (by decide) (by simp) _ hg5; have HR5 := zB ((zA HR4).step (by decide) #[.pointer (some ⟨bm, 0, none⟩), .pointer (some ⟨br, 0, none⟩)] w4.heap.size rfl ho5 hg5 hat5); clear ho5 hg5 hat5 hl5))
   go_ret
   obtain ⟨T', k1, k2⟩ := (zA HMD).more (zA HW) (zA HC) (zA HR5)
   exact ⟨rfl, T', _, _, _, _, _, _, _, k1, k2, by simp, by omega, by omega, Ext.Le.refl _⟩
  ·exact absurd (zA HF) (hnf ps S ((zA HM).good (zA HC)))
 ·have HNF := zB hnf
  have HB2 := zB hb2
  clear hnf hb2
  go_wp2_with fail
  refine (zA HRL w2).mono ?_
  rintro e w3 (⟨br, vL, gS, cS, ps', S', rfl, hR, hgd, hf', hgr, hb3⟩ | ⟨rfl, hnf, hb3⟩)
  ·exact absurd hf' (zA HNF ps' S' hgd)
  ·have hl1 : w.heap.size < w1.heap.size := by have := zA HS1; omega
   have HG3 : Hid (w3.heap[w.heap.size]? = some (.cells (yM s 8).toArray 5 (0, 0))) := zB ((hb3.block _ (Nat.lt_of_lt_of_le hl1 (zA HB2).size)).trans (((zA HB2).block _ hl1).trans (zA HG1)))
   have s2 := (zA HB2).size
   have s3 := hb3.size
   have HB03 := zB ((zA HB1).trans (((zA HB2).mono (Nat.le_of_lt hl1)).trans (hb3.mono (by omega))))
   clear hnf hb3
   generalize errL s = er at *
   go_wp2_with (go_at_call 90; refine (zA HWB w3 _ (zA HG3)).mono ?_; rintro e w4 ⟨rfl, _, hg4⟩; have HB4 : Hid (Below w.heap.size w w4) := zB ((zA HB03).trans (zG hg4 (zA HB03).size (fun k e => by cases e; exact Nat.le_refl _))); clear hg4)
   go_ret
   exact ⟨rfl, T, M, vms, vby, vli, E, F, mb, (zA HW).below (zA HB4), zl (zA HB4), by omega, by omega, by omega, Ext.Le.refl _⟩
end Go.Proofs.YtfpohfifdfbpkaaGreatDoor
namespace Go.Proofs.YtfpohfifdfbpkaaGreatDoor
open Go.RowKit Scour Go.Lib
theorem LW.machine2 {w w' : World} {bw : Nat} {T : Nat -> Nat} {M : List Ent} {vms vby vli vms' : Value} {E F : List Sl} {mb : Ext} {bm br bt be : Nat} {g : List Nat} {gS cS : Nat} {ps S : List Str} {vL : Value} {L : List Nat}
  (h : LW w bw T M vms vby vli E F mb) (hM : yV w bm bt be g ps S) (hR : yZ w br vL gS cS ps S) (hc : (chk ps).1 = 0)
  (hL : ∀ k, k ∈ L -> T k = 9) (hm : bm ∈ L /\ bt ∈ L /\ be ∈ L /\ (∀ k, k ∈ g -> k ∈ L) /\ T br = 1 /\ T gS = 1 /\ ∀ b, vL.ownBlock = some b -> T b = 1)
  (hst : zw w w' bw 0 #[vms, mb.fs, vby, vli, mb.ma] 68 108 2 vms vms' (M.length + 1) (zn M ++ [.pointer (some ⟨bm, 0, none⟩), .pointer (some ⟨br, 0, none⟩)])) :
  LW w' bw (tagsM T w L vms') (M ++ [⟨bm, br, ps, S⟩]) vms' vby vli E F mb /\ Fr T w w' (tagsM T w L vms') := by
 have hbl := (Array.getElem?_eq_some_iff.1 h.blk).1
 have hsz := hst.size
 have hold : ∀ k, k < w.heap.size -> T k ≠ 2 -> T k ≠ 3 -> w'.heap[k]? = w.heap[k]? := fun k hl h2 h3 => hst.frame k hl (fun e => h2 (by rw [e]; exact h.tbw)) (fun e => h3 (h.msown k e))
 have hTo : ∀ k, k < w.heap.size -> T k ≠ 9 -> tagsM T w L vms' k = T k := fun k hl h9 => by
  unfold tagsM; rw [if_pos hl, if_neg (fun e => h9 (hL k e))]
 have hTn : ∀ k, k < w.heap.size -> k ∈ L -> tagsM T w L vms' k = 1 := fun k hl hk => by
  unfold tagsM; rw [if_pos hl, if_pos hk]
 have hT1 : ∀ k, k < w.heap.size -> T k = 1 -> tagsM T w L vms' k = 1 := fun k hl h1 => by
  rw [hTo k hl (by rw [h1]; decide)]; exact h1
 have hL1 : ∀ k, k < w.heap.size -> T k = 1 -> w'.heap[k]? = w.heap[k]? := fun k hl h1 => hold k hl (by rw [h1]; decide) (by rw [h1]; decide)
 have hLo : ∀ k, k < w.heap.size -> k ∈ L -> w'.heap[k]? = w.heap[k]? := fun k hl hk => hold k hl (by rw [hL k hk]; decide) (by rw [hL k hk]; decide)
 obtain ⟨m1, m2, m3, m4, m5, m6, m7⟩ := hm
 obtain ⟨l1, l2, l3, l4⟩ := hM.lts
 have lbr := (Array.getElem?_eq_some_iff.1 hR.blk).1
 obtain ⟨cur, hcur⟩ := zK hR.srow
 have lgS := (Array.getElem?_eq_some_iff.1 hcur).1
 refine ⟨⟨?_, ?_, ?_, ?_, ?_, ?_, ?_, ?_, h.ext.same hsz (fun k hl ht => hold k hl (by unfold xtag at ht; omega) (by unfold xtag at ht; omega)) (fun k hl ht => hTo k hl (by unfold xtag at ht; omega))⟩, hst.os, hst.tape, hst.output, hsz, fun k hk h0 => ⟨hold k hk (by omega) (by omega), by rw [hTo k hk (by omega)]; exact h0⟩⟩
 ·exact hst.blk
 ·rw [hTo bw hbl (by rw [h.tbw]; decide)]; exact h.tbw
 ·have := hst.row
  rw [show (M ++ [(⟨bm, br, ps, S⟩ : Ent)]).length = M.length + 1 by simp, show zn (M ++ [(⟨bm, br, ps, S⟩ : Ent)]) = zn M ++ [.pointer (some ⟨bm, 0, none⟩), .pointer (some ⟨br, 0, none⟩)] by simp [zn]]
  exact this
 ·intro b hb
  rcases hst.lies with e | e
  ·have h3 := h.msown b (e ▸ hb)
   obtain ⟨cur, hc⟩ := zD h.ms (e ▸ hb)
   rw [hTo b (Array.getElem?_eq_some_iff.1 hc).1 (by rw [h3]; decide)]; exact h3
  ·have := e b hb
   unfold tagsM
   rw [if_neg (by omega), if_pos hb]
 ·intro e he
  rcases List.mem_append.1 he with he | he
  ·exact (h.ents e he).same hsz (fun k hl ht => hold k hl (by rw [ht]; decide) (by rw [ht]; decide)) (fun k hl ht => by rw [hTo k hl (by rw [ht]; decide)]; exact ht)
  ·obtain rfl : e = ⟨bm, br, ps, S⟩ := by simpa using he
   refine ⟨⟨bt, be, g, hM.same hsz ?_, hTn _ l1 m1, hTn _ l2 m2, hTn _ l3 m3, fun k hk => hTn k (l4 k hk) (m4 k hk)⟩, ⟨vL, gS, cS, hR.same ?_, hT1 _ lbr m5, hT1 _ lgS m6, ?_⟩, hc⟩
   ·rintro k (rfl | rfl | rfl | hg)
    ·exact hLo _ l1 m1
    ·exact hLo _ l2 m2
    ·exact hLo _ l3 m3
    ·exact hLo _ (l4 k hg) (m4 k hg)
   ·rintro k hl (rfl | rfl | hv)
    ·exact hL1 _ hl m5
    ·exact hL1 _ hl m6
    ·exact hL1 _ hl (m7 k hv)
   ·intro b hb
    obtain ⟨cur, hc⟩ := zD hR.lrow hb
    exact hT1 b (Array.getElem?_eq_some_iff.1 hc).1 (m7 b hb)
 ·refine h.bytes.same (fun k hl ht => ?_) (fun k hl ht => ?_)
  ·refine hold k hl ?_ ?_ <;> rcases ht with ht | ⟨i, ht⟩ <;> rw [ht] <;> first | decide | (unfold yG; omega)
  ·refine hTo k hl ?_
   rcases ht with ht | ⟨i, ht⟩ <;> rw [ht] <;> first | decide | (unfold yG; omega)
 ·refine h.lists.same (fun k hl ht => ?_) (fun k hl ht => ?_)
  ·refine hold k hl ?_ ?_ <;> rcases ht with ht | ⟨i, ht⟩ <;> rw [ht] <;> first | decide | (unfold ltag; omega)
  ·refine hTo k hl ?_
   rcases ht with ht | ⟨i, ht⟩ <;> rw [ht] <;> first | decide | (unfold ltag; omega)
 ·intro k hl
  have hv : vms'.ownBlock ≠ some k := fun e => by
   obtain ⟨cur, hc⟩ := zD hst.row e
   have := (Array.getElem?_eq_some_iff.1 hc).1
   omega
  unfold tagsM
  rw [if_neg (by omega), if_neg hv]
set_option maxHeartbeats 8000000 in
set_option maxRecDepth 100000 in
theorem again_any (bw : Nat) (T : Nat -> Nat) (M : List Ent) (vms vby vli : Value) (E F : List Sl) (mb : Ext) (e : Ent) (he : e ∈ M) (w : World) (hW : LW w bw T M vms vby vli E F mb) (hT : ErrT w) (hMl : M.length < 900000000000) (hE : E.length < 900000000000) :
  Calls Tryz.prog 97 #[.pointer (some ⟨bw, 0, none⟩), .agg #[.pointer (some ⟨e.bm, 0, none⟩), .pointer (some ⟨e.br, 0, none⟩)]] w fun r w' => r = .returned (.bool true) /\ jR bw T M E F mb w w' := by
 obtain ⟨i0, hi, hz0, hz1, hz2⟩ := info_parts Tryz.infoP
 obtain ⟨bm, br, ps, S⟩ := e
 simp only []
 obtain ⟨hz, hfz⟩ := hW.zero (.cells #[.pointer (some ⟨bm, 0, none⟩), .pointer (some ⟨br, 0, none⟩)] 108)
 obtain ⟨bt, be, g, hM, _⟩ := (hz.ents _ he).mach
 have hc := (hz.ents _ he).ok
 simp only [] at hM hc
 obtain ⟨h64, _, _⟩ := yr hc
 have hgd := hM.good hc
 have hfl := hgd.fileLen
 have hnb : (w.alloc (.cells #[.pointer (some ⟨bm, 0, none⟩), .pointer (some ⟨br, 0, none⟩)] 108)).heap[w.heap.size]? = some (.cells #[.pointer (some ⟨bm, 0, none⟩), .pointer (some ⟨br, 0, none⟩)] 108 (0, 0)) := heap_alloc_new w _
 have hb0 : Below w.heap.size w (w.alloc (.cells #[.pointer (some ⟨bm, 0, none⟩), .pointer (some ⟨br, 0, none⟩)] 108)) := (Below.refl _ _).alloc (Nat.le_refl _) _
 have HZ := zB hz
 have HFZ := zB hfz
 have HT0 := zB (hT.below hb0)
 have HSV := zB (save_ok _ bm bt be g ps S hM hc)
 have HNB := zB hnb
 have HGD := zB hgd
 have HTZ : Hid (tag0 T w.heap.size w.heap.size = 0) := zB (by unfold tag0; rw [if_pos rfl])
 have HHE := zB he
 have hs0 : (w.alloc (.cells #[.pointer (some ⟨bm, 0, none⟩), .pointer (some ⟨br, 0, none⟩)] 108)).heap.size = w.heap.size + 1 := by simp
 clear hz hfz hM hnb hb0 hW hT hgd he hc
 generalize hw0 : w.alloc (.cells #[.pointer (some ⟨bm, 0, none⟩), .pointer (some ⟨br, 0, none⟩)] 108) = w0 at *
 generalize tag0 T w.heap.size = T0 at *
 have HW0 := zB hw0
 clear hw0
 go_enter Tryz.func97, Tryz.ntmps97
 go_wp2_with fail
 rw [zA HW0]
 refine (zA HSV).mono ?_
 rintro e w1 ⟨fb, fc, rfl, hO, hb1⟩
 obtain ⟨a1, d1, e1, hat⟩ := owns_at hO
 cases e1
 have hfc : (zS ps S).length <= fc /\ fc <= 9223372036854775807 := by
  rcases hO.2 with ⟨h1, _⟩ | ⟨g', cap', cur, h1, _, _, h4, h5, _⟩
  ·cases h1
  ·cases h1
   exact ⟨h4, by unfold maxLen at h5; omega⟩
 have HO1 := zB hO
 have HB1 := zB hb1
 have HLO := zB (load_any (some ⟨fb, 0, none⟩) fc (zS ps S) w1 hat hfc.1 hfc.2 (by omega) ((zA HT0).below hb1))
 clear hO hb1 hat hfc
 go_wp2_with fail
 refine (zA HLO).mono ?_
 rintro e w2 (⟨bm2, bt2, be2, g2, ps2, S2, rfl, hM2, hc2, hf2, hge, hb2⟩ | ⟨rfl, hnf, hb2⟩)
 ·obtain ⟨rfl, rfl⟩ := file_inj (zA HGD) (hM2.good hc2) hf2
  have hb02 : Below w0.heap.size w0 w2 := (zA HB1).trans (hb2.mono (zA HB1).size)
  have hs1 := (zA HB1).size
  have hs2 := hb2.size
  have HW2 := zB ((zA HZ).below hb02)
  have hfb : w0.heap.size <= fb /\ fb < w1.heap.size := by
   refine ⟨yQ (zA HO1), ?_⟩
   obtain ⟨cu, hcu⟩ := zK (zA HO1)
   exact (Array.getElem?_eq_some_iff.1 hcu).1
  have HO2 : Hid (w2.ownsRow 0 5 1 (.slice (some ⟨fb, 0, none⟩) (zS ps S).length fc) (zS ps S).length ((zS ps S).map zT)) := zB (zu (zE (zA HO1) (fun k hk _ => hb2.block k hk)))
  have HKE := zB (keeps_any bw #[vms, mb.fs, vby, vli, mb.ma] 68 vby E ⟨some ⟨fb, 0, none⟩, (zS ps S).length, fc⟩ ((zS ps S).map zT) w2 (zA HW2).blk rfl (by decide) (by decide) (zA HW2).bytes.row (zA HO2) (by omega) (by simp only []; omega))
  simp only [Sl.val] at HKE
  have HM2 := zB hM2
  have HC2 := zB hc2
  have HGE := zB hge
  have HB02 := zB hb02
  have HFL := zB hfl
  clear hM2 hc2 hf2 hge hb2 hb02 HLO HO1 HSV HGD
  have hflb : (zS ps S).length + 3 < 1000000000 := by omega
  generalize hF : zS ps S = Fs at *
  clear hF
  go_wp2_with (go_at_call 96; refine (zA HKE).mono ?_; rintro e w3 ⟨rfl, s1, s2, s3, vby2, hK⟩; have HK := zB hK; clear hK)
  have hs9 : ∀ k, (Sl.val ⟨some ⟨fb, 0, none⟩, Fs.length, fc⟩).ownBlock = some k -> T0 k = 9 /\ k < w2.heap.size := fun k hk => by
   have e : fb = k := by simpa [Sl.val, Value.ownBlock] using hk
   rw [← e]
   exact ⟨(zA HZ).fresh fb hfb.1, by omega⟩
  have hW3 := (zA HW2).keeps (zA HK) hs9 (by simp only []; omega)
  have hF3 := (zA HW2).keepsFr (zA HK) hs9
  have hnew : ∀ k, w1.heap.size <= k -> k < w2.heap.size -> w3.heap[k]? = w2.heap[k]? /\ jK T0 w2 w3 ⟨some ⟨fb, 0, none⟩, Fs.length, fc⟩ vby2 4 (yG E.length) k = 9 := fun k h1 h2 => by
   have h9 : T0 k = 9 := (zA HZ).fresh k (by omega)
   have hn : (Sl.val ⟨some ⟨fb, 0, none⟩, Fs.length, fc⟩).ownBlock ≠ some k := fun e => by
    have e2 : fb = k := by simpa [Sl.val, Value.ownBlock] using e
    omega
   refine ⟨(zA HK).frame k h2 (fun e => by rw [e, (zA HZ).tbw] at h9; cases h9) (fun e => by have := (zA HW2).bytes.own k e; rw [h9] at this; cases this) hn, ?_⟩
   rw [tagsN_old h2 hn]; exact h9
  generalize jK T0 w2 w3 ⟨some ⟨fb, 0, none⟩, Fs.length, fc⟩ vby2 4 (yG E.length) = T1 at hW3 hF3 hnew
  obtain ⟨l1, l2, l3, l4⟩ := (zA HM2).lts
  obtain ⟨q1, q2, q3, q4⟩ := zA HGE
  have hM3 : yV w3 bm2 bt2 be2 g2 ps S := (zA HM2).same (zA HK).size (by
   rintro k (rfl | rfl | rfl | hg)
   ·exact (hnew _ q1 l1).1
   ·exact (hnew _ q2 l2).1
   ·exact (hnew _ q3 l3).1
   ·exact (hnew _ (q4 k hg) (l4 k hg)).1)
  have hz3 := hF3.zero w.heap.size (by have := (zA HB02).size; omega) (zA HTZ)
  have hp3 : w3.heap[w.heap.size]? = some (.cells #[.pointer (some ⟨bm, 0, none⟩), .pointer (some ⟨br, 0, none⟩)] 108 (0, 0)) := hz3.1.trans (((zA HB02).block _ (by omega)).trans (zA HNB))
  have c31 : w3.cell? ⟨w.heap.size, 1, none⟩ = some (.pointer (some ⟨br, 0, none⟩)) := by rw [zC hp3]; rfl
  obtain ⟨vL, gS, cS, hR3, r1, r2, r3⟩ := (hW3.ents _ (zA HHE)).rmach
  simp only [] at hR3 r1
  have HR4 := zB (zw.start (o := 0) hW3.blk rfl hW3.ms)
  have c4 := (zA HR4).cell (by simp)
  have HLM : Hid (∀ (w' : World) (vms' : Value), zw w3 w' bw 0 #[vms, mb.fs, vby2, vli, mb.ma] 68 108 2 vms vms' (M.length + 1) (zn M ++ [.pointer (some ⟨bm2, 0, none⟩), .pointer (some ⟨br, 0, none⟩)]) -> jR bw T M E F mb w w') := zB (fun w' vms' hst => by
   obtain ⟨k1, k2⟩ := hW3.machine2 (L := bm2 :: bt2 :: be2 :: g2) hM3 hR3 (zA HC2) (fun k hk => by
    simp only [List.mem_cons] at hk
    rcases hk with rfl | rfl | rfl | hk
    ·exact (hnew _ q1 l1).2
    ·exact (hnew _ q2 l2).2
    ·exact (hnew _ q3 l3).2
    ·exact (hnew _ (q4 k hk) (l4 k hk)).2) ⟨by simp, by simp, by simp, fun k hk => by simp [hk], r1, r2, r3⟩ hst
   exact ⟨_, _, _, _, _, _, _, _, k1, (((zA HFZ).trans (zl (zA HB02))).trans hF3).trans k2, by simp, by simp, by omega, Ext.Le.refl _⟩)
  have HRD := zB ((zA HR4).ready #[.pointer (some ⟨bm2, 0, none⟩), .pointer (some ⟨br, 0, none⟩)] w3.heap.size rfl)
  have hbw3 : bw < w3.heap.size := (Array.getElem?_eq_some_iff.1 hW3.blk).1
  have hl3 : w.heap.size < w3.heap.size := (Array.getElem?_eq_some_iff.1 hp3).1
  clear hW3 hF3 hnew hM3 hR3 r1 r2 r3 hz3 hp3 hs9 HKE HK q1 q2 q3 q4 l1 l2 l3 l4
  go_wp2_with fail
  go_region_law (refine step_append_lies _ rfl (.tmp 31) (.tmp 36) 61 rfl 0 108 i0 (.agg #[.pointer none, .pointer none]) 2 16 Tryz.underlying61 hi hz0 hz1 hz2 rfl (by decide) _ M.length (zn M) (by simp [Act.eval]) (zA HRD).1 ⟨w3.heap.size, 0, none⟩ 1 1 [.pointer (some ⟨bm2, 0, none⟩), .pointer (some ⟨br, 0, none⟩)] (by simp [Act.eval]) rfl (zA HRD).2 (by intro u hu; simp at hu; rcases hu with rfl | rfl <;> rfl) (by omega) (by unfold maxLen; omega) (by omega) (Nat.zero_le _) (w3.heap.size + 1) (by simp) ?_; intro g5 cg5 w5 ho5 hg5 hat5 hl5; obtain ⟨c5, f5⟩ := (zA HR4).behind (by decide) (by simp) _ (grown_drew hg5); have HR5 := zB ((zA HR4).step (by decide) #[.pointer (some ⟨bm2, 0, none⟩), .pointer (some ⟨br, 0, none⟩)] w3.heap.size rfl ho5 (grown_drew hg5) hat5); clear ho5 hg5 hat5 hl5)
  all_goals go_wp2_with fail
  all_goals go_ret
  all_goals exact ⟨rfl, zA HLM _ _ (zA HR5)⟩
 ·exact absurd rfl (hnf ps S (zA HGD))
end Go.Proofs.YtfpohfifdfbpkaaGreatDoor
namespace Go.Proofs.YtfpohfifdfbpkaaGreatDoor
open Go.RowKit Scour Go.Lib
theorem jR.below {bw : Nat} {T : Nat -> Nat} {M : List Ent} {E F : List Sl} {mb : Ext} {w w1 w' : World} (h : jR bw T M E F mb w1 w') (hb : Below w.heap.size w w1) : jR bw T M E F mb w w' := by
 obtain ⟨T', M', vms', vby', vli', E', F', mb', k1, k2, k3, k4, k5, k6⟩ := h
 exact ⟨T', M', vms', vby', vli', E', F', mb', k1, (zl hb).trans k2, k3, k4, k5, k6⟩
set_option maxHeartbeats 4000000 in
set_option maxRecDepth 100000 in
theorem asked_again (bw : Nat) (T : Nat -> Nat) (M : List Ent) (vms vby vli : Value) (E F : List Sl) (mb : Ext) (e : Ent) (he : e ∈ M) (vl : Value) (a b : Int) (s : ByteArray) (w : World) (hW : LW w bw T M vms vby vli E F mb) (hT : ErrT w) (hMl : M.length < 900000000000) (hE : E.length < 900000000000) :
  Calls Tryz.prog 52 #[.pointer (some ⟨bw, 0, none⟩), .agg #[.pointer (some ⟨e.bm, 0, none⟩), .pointer (some ⟨e.br, 0, none⟩)], .agg #[.int .i64 9, .int .i64 a, .int .i64 b, .string s, vl]] w fun r w' => r = .returned (.bool true) /\ jR bw T M E F mb w w' := by
 have HAG : Hid (∀ W, Below w.heap.size w W -> Calls Tryz.prog 97 #[.pointer (some ⟨bw, 0, none⟩), .agg #[.pointer (some ⟨e.bm, 0, none⟩), .pointer (some ⟨e.br, 0, none⟩)]] W fun r w' => r = .returned (.bool true) /\ jR bw T M E F mb w w') := zB (fun W hb => by
  refine (again_any bw T M vms vby vli E F mb e he W (hW.below hb) (hT.below hb) hMl hE).mono ?_
  rintro r w' ⟨rfl, hA⟩
  exact ⟨rfl, hA.below hb⟩)
 clear hW hT he
 go_enter Tryz.func52, Tryz.ntmps52
 go_wp2_with (go_at_call 97; refine (zA HAG _ (zf w _ _)).mono ?_; rintro r w' ⟨rfl, hA⟩; have HA := zB hA; clear hA)
 go_ret
 exact ⟨rfl, zA HA⟩
set_option maxHeartbeats 4000000 in
set_option maxRecDepth 100000 in
theorem step_load (bw : Nat) (T : Nat -> Nat) (M : List Ent) (vms vby vli : Value) (E F : List Sl) (mb : Ext) (o : OpD) (w : World) (hW : LW w bw T M vms vby vli E F mb) (hs : o.s.size < 100000000) (hk : o.k = 6) (hMl : M.length < 900000000000) (hT : ErrT w) :
  Calls Tryz.prog 31 #[.pointer (some ⟨bw, 0, none⟩), .agg #[.int .i64 o.k, .int .i64 o.a, .int .i64 o.b, .string o.s, .slice o.ap o.ts.length o.cap]] w fun r w' => r = .returned (.bool true) /\ jR bw T M E F mb w w' := by
 have HC : Hid (∀ ob, Calls Tryz.prog 49 #[.pointer (some ⟨bw, 0, none⟩), .string o.s] (w.alloc ob) fun e w' => e = .returned (.bool true) /\ jR bw T M E F mb w w') := zB (fun ob => by
  have hb : Below w.heap.size w (w.alloc ob) := (Below.refl _ _).alloc (Nat.le_refl _) _
  have h := loaded_any bw T M vms vby vli E F mb o.s.data.toList (w.alloc ob) (hW.below hb) (by show o.s.data.toList.length < 100000000; rw [Array.length_toList]; exact hs) (hT.below hb) hMl
  refine h.mono ?_
  rintro e w' ⟨rfl, hA⟩
  exact ⟨rfl, hA.below hb⟩)
 clear hW hT hs
 obtain ⟨k, a, b, s, ap, ts, cap⟩ := o
 simp only [] at hk HC ⊢
 subst hk
 go_enter Tryz.func31, Tryz.ntmps31
 go_wp2_with (go_at_call 49; refine (zA HC _).mono ?_; rintro e w' ⟨rfl, hA⟩; have HA := zB hA; clear hA)
 go_ret
 exact ⟨rfl, zA HA⟩
end Go.Proofs.YtfpohfifdfbpkaaGreatDoor
