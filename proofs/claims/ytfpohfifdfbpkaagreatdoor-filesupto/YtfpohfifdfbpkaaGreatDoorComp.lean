import Derived.Test.YtfpohfifdfbpkaaGreatDoorLooks
namespace Go.Proofs.YtfpohfifdfbpkaaGreatDoor
open Go.RowKit Scour Go.Lib
theorem Tryz.infoP : (Tryz.prog.info? 108).map (fun i => (i.zero, i.size, i.bytes)) = some (some (.agg #[.pointer none, .pointer none]), 2, 16) := by kernel_rfl
theorem Lents.pats {w : World} {base b0 : Nat} {vm : Value} {gs : Nat -> Nat} {ts : List Str} (h : Lents w base b0 vm gs ts (ts.length + 8)) : yO w w.heap.size (some ⟨b0, 0, none⟩) ts := by
 intro _
 obtain ⟨cur, hcur⟩ := zK h.row
 refine ⟨b0, 0, (Array.getElem?_eq_some_iff.1 hcur).1, rfl, fun i hi => ?_⟩
 refine ⟨some ⟨gs i, 0, none⟩, bc ts i, ?_, ?_⟩
 ·rw [Nat.zero_add, h.row.cellAt i (by omega), jL _ _ _ _ _ (by rw [bs_len]; omega), if_pos (by omega), bs_low ts i hi]
 ·have he := h.each i (by omega)
  rw [bs_low ts i hi] at he
  exact fun _ => ⟨gs i, 0, (Array.getElem?_eq_some_iff.1 he).1, rfl, fun j hj => by
   rw [Nat.zero_add, zC he]; simp only [List.getElem?_toArray]; exact lentL_low _ j hj⟩
theorem TxtIn.up {w : World} {B B' : Nat} {ap : Option Addr} {ps : List Str} (h : TxtIn w B ap ps) (hB : B <= B') : TxtIn w B' ap ps := fun h0 => by
 obtain ⟨b, o, hb, e, hh⟩ := h h0
 exact ⟨b, o, by omega, e, hh⟩
def tagsM (T : Nat -> Nat) (w : World) (L : List Nat) (v' : Value) : Nat -> Nat := fun k =>
 if k < w.heap.size then (if k ∈ L then 1 else T k) else if v'.ownBlock = some k then 3 else 9
theorem LW.machine {w w' : World} {bw : Nat} {T : Nat -> Nat} {M : List Ent} {vms vby vli vms' : Value} {E F : List Sl} {mb : Ext} {bm br bt be : Nat} {g : List Nat} {gS cS : Nat} {ps S : List Str} {vL : Value} {L : List Nat}
  (h : LW w bw T M vms vby vli E F mb) (hM : yV w bm bt be g ps S) (hR : yZ w br vL gS cS ps S) (hc : (chk ps).1 = 0)
  (hL : ∀ k, k ∈ L -> T k = 9) (hm : bm ∈ L /\ bt ∈ L /\ be ∈ L /\ (∀ k, k ∈ g -> k ∈ L) /\ br ∈ L /\ gS ∈ L /\ ∀ b, vL.ownBlock = some b -> b ∈ L)
  (hst : zw w w' bw 0 #[vms, mb.fs, vby, vli, mb.ma] 68 108 2 vms vms' (M.length + 1) (zn M ++ [.pointer (some ⟨bm, 0, none⟩), .pointer (some ⟨br, 0, none⟩)])) :
  LW w' bw (tagsM T w L vms') (M ++ [⟨bm, br, ps, S⟩]) vms' vby vli E F mb /\ Fr T w w' (tagsM T w L vms') := by
 have hbl := (Array.getElem?_eq_some_iff.1 h.blk).1
 have hsz := hst.size
 have hold : ∀ k, k < w.heap.size -> T k ≠ 2 -> T k ≠ 3 -> w'.heap[k]? = w.heap[k]? := fun k hl h2 h3 => hst.frame k hl (fun e => h2 (by rw [e]; exact h.tbw)) (fun e => h3 (h.msown k e))
 have hTo : ∀ k, k < w.heap.size -> T k ≠ 9 -> tagsM T w L vms' k = T k := fun k hl h9 => by
  unfold tagsM; rw [if_pos hl, if_neg (fun e => h9 (hL k e))]
 have hTn : ∀ k, k < w.heap.size -> k ∈ L -> tagsM T w L vms' k = 1 := fun k hl hk => by
  unfold tagsM; rw [if_pos hl, if_pos hk]
 have hLo : ∀ k, k < w.heap.size -> k ∈ L -> w'.heap[k]? = w.heap[k]? := fun k hl hk => hold k hl (by rw [hL k hk]; decide) (by rw [hL k hk]; decide)
 obtain ⟨m1, m2, m3, m4, m5, m6, m7⟩ := hm
 obtain ⟨l1, l2, l3, l4⟩ := hM.lts
 have lbr := (Array.getElem?_eq_some_iff.1 hR.blk).1
 obtain ⟨cur, hcur⟩ := zK hR.srow
 have lgS := (Array.getElem?_eq_some_iff.1 hcur).1
 refine ⟨⟨?_, ?_, ?_, ?_, ?_, ?_, ?_, ?_, h.ext.same hsz (fun k hl ht => hold k hl (by unfold xtag at ht; omega) (by unfold xtag at ht; omega)) (fun k hl ht => hTo k hl (by unfold xtag at ht; omega))⟩, hst.os, hst.tape, hst.output, hsz, fun k hk h0 => ⟨hold k hk (by omega) (by omega), by rw [hTo k hk (by omega)]; exact h0⟩⟩
 ·exact hst.blk
 ·rw [hTo bw hbl (by rw [h.tbw]; decide)]; exact h.tbw
 ·have := hst.row
  rw [show (M ++ [(⟨bm, br, ps, S⟩ : Ent)]).length = M.length + 1 by simp, show zn (M ++ [(⟨bm, br, ps, S⟩ : Ent)]) = zn M ++ [.pointer (some ⟨bm, 0, none⟩), .pointer (some ⟨br, 0, none⟩)] by simp [zn]]
  exact this
 ·intro b hb
  rcases hst.lies with e | e
  ·have h3 := h.msown b (e ▸ hb)
   obtain ⟨cur, hc⟩ := zD h.ms (e ▸ hb)
   rw [hTo b (Array.getElem?_eq_some_iff.1 hc).1 (by rw [h3]; decide)]; exact h3
  ·have := e b hb
   unfold tagsM
   rw [if_neg (by omega), if_pos hb]
 ·intro e he
  rcases List.mem_append.1 he with he | he
  ·exact (h.ents e he).same hsz (fun k hl ht => hold k hl (by rw [ht]; decide) (by rw [ht]; decide)) (fun k hl ht => by rw [hTo k hl (by rw [ht]; decide)]; exact ht)
  ·obtain rfl : e = ⟨bm, br, ps, S⟩ := by simpa using he
   refine ⟨⟨bt, be, g, hM.same hsz ?_, hTn _ l1 m1, hTn _ l2 m2, hTn _ l3 m3, fun k hk => hTn k (l4 k hk) (m4 k hk)⟩, ⟨vL, gS, cS, hR.same ?_, hTn _ lbr m5, hTn _ lgS m6, ?_⟩, hc⟩
   ·rintro k (rfl | rfl | rfl | hg)
    ·exact hLo _ l1 m1
    ·exact hLo _ l2 m2
    ·exact hLo _ l3 m3
    ·exact hLo _ (l4 k hg) (m4 k hg)
   ·rintro k hl (rfl | rfl | hv)
    ·exact hLo _ hl m5
    ·exact hLo _ hl m6
    ·exact hLo _ hl (m7 k hv)
   ·intro b hb
    obtain ⟨cur, hc⟩ := zD hR.lrow hb
    exact hTn b (Array.getElem?_eq_some_iff.1 hc).1 (m7 b hb)
 ·refine h.bytes.same (fun k hl ht => ?_) (fun k hl ht => ?_)
  ·refine hold k hl ?_ ?_ <;> rcases ht with ht | ⟨i, ht⟩ <;> rw [ht] <;> first | decide | (unfold yG; omega)
  ·refine hTo k hl ?_
   rcases ht with ht | ⟨i, ht⟩ <;> rw [ht] <;> first | decide | (unfold yG; omega)
 ·refine h.lists.same (fun k hl ht => ?_) (fun k hl ht => ?_)
  ·refine hold k hl ?_ ?_ <;> rcases ht with ht | ⟨i, ht⟩ <;> rw [ht] <;> first | decide | (unfold ltag; omega)
  ·refine hTo k hl ?_
   rcases ht with ht | ⟨i, ht⟩ <;> rw [ht] <;> first | decide | (unfold ltag; omega)
 ·intro k hl
  have hv : vms'.ownBlock ≠ some k := fun e => by
   obtain ⟨cur, hc⟩ := zD hst.row e
   have := (Array.getElem?_eq_some_iff.1 hc).1
   omega
  unfold tagsM
  rw [if_neg (by omega), if_neg hv]
structure Made (w w4 : World) (bm br : Nat) (ps S : List Str) : Prop where
 below : Below w.heap.size w w4
 mach : ∃ bt be g, yV w4 bm bt be g ps S /\ w.heap.size <= bm /\ w.heap.size <= bt /\ w.heap.size <= be /\ ∀ k, k ∈ g -> w.heap.size <= k
 rmach : ∃ vL gS cS, yZ w4 br vL gS cS ps S /\ w.heap.size <= br /\ w.heap.size <= gS /\ ∀ b, vL.ownBlock = some b -> w.heap.size <= b
theorem mach_states {w : World} {bm bt be : Nat} {g : List Nat} {ps S R : List Str} (hM : yV w bm bt be g ps S) (hR : RS ps ps.length 1 R) : R = S := by
 obtain ⟨_, cap, par, lst, E, hT, hS, _⟩ := hM.ex
 exact hR.states hS hT.rep
theorem made_of {w w1 w2 w3 w4 : World} {bm bt be : Nat} {g : List Nat} {br gS cS : Nat} {vL : Value} {ps S R : List Str} (h1 : Below w.heap.size w w1) (hM : yV w2 bm bt be g ps S) (hge : w1.heap.size <= bm /\ w1.heap.size <= bt /\ w1.heap.size <= be /\ ∀ k, k ∈ g -> w1.heap.size <= k) (h2 : Below w1.heap.size w1 w2)
  (hR : yZ w3 br vL gS cS ps R) (hRS : RS ps ps.length 1 R) (hgr : w2.heap.size <= br /\ w2.heap.size <= gS /\ ∀ b, vL.ownBlock = some b -> w2.heap.size <= b) (h3 : Below w2.heap.size w2 w3) (h4 : Below w.heap.size w3 w4) (hk : ∀ k, w1.heap.size <= k -> k < w3.heap.size -> w4.heap[k]? = w3.heap[k]?) : Made w w4 bm br ps S := by
 have s1 := h1.size
 have s2 := h2.size
 have s3 := h3.size
 obtain rfl := mach_states hM hRS
 obtain ⟨a1, a2, a3, a4⟩ := hge
 obtain ⟨b1, b2, b3⟩ := hgr
 have hM3 := hM.below h3
 obtain ⟨l1, l2, l3, l4⟩ := hM3.lts
 refine ⟨h1.trans ((h2.mono s1).trans ((h3.mono (by omega)).trans h4)), ⟨bt, be, g, hM3.same h4.size ?_, by omega, by omega, by omega, fun k hk => by have := a4 k hk; omega⟩, ⟨vL, gS, cS, hR.same ?_, by omega, by omega, fun b hb => by have := b3 b hb; omega⟩⟩
 ·rintro k (rfl | rfl | rfl | hg)
  ·exact hk _ a1 l1
  ·exact hk _ a2 l2
  ·exact hk _ a3 l3
  ·exact hk _ (a4 k hg) (l4 k hg)
 ·rintro k hl (rfl | rfl | hv)
  ·exact hk _ (by omega) hl
  ·exact hk _ (by omega) hl
  ·exact hk _ (by have := b3 k hv; omega) hl
theorem by_back {w1 w3 w4 : World} {base b0 : Nat} {vm : Value} {gs : Nat -> Nat} {ts : List Str} (h : Lents w1 base b0 vm gs ts (ts.length + 8)) (hb : BackB base b0 gs (ts.length + 8) w3 w4) : ∀ k, w1.heap.size <= k -> k < w3.heap.size -> w4.heap[k]? = w3.heap[k]? := by
 intro k h1 h2
 obtain ⟨cur, hcur⟩ := zK h.row
 have l0 := (Array.getElem?_eq_some_iff.1 hcur).1
 exact hb.only k h2 (by omega) (fun i hi e => by
  have := (Array.getElem?_eq_some_iff.1 (h.each i hi)).1
  omega)
theorem Made.more {w w4 w' : World} {bw : Nat} {T : Nat -> Nat} {M : List Ent} {vms vby vli vms' : Value} {E F : List Sl} {mb : Ext} {bm br : Nat} {ps S : List Str} (h : Made w w4 bm br ps S) (hW : LW w bw T M vms vby vli E F mb) (hc : (chk ps).1 = 0)
  (hst : zw w4 w' bw 0 #[vms, mb.fs, vby, vli, mb.ma] 68 108 2 vms vms' (M.length + 1) (zn M ++ [.pointer (some ⟨bm, 0, none⟩), .pointer (some ⟨br, 0, none⟩)])) :
  ∃ T', LW w' bw T' (M ++ [⟨bm, br, ps, S⟩]) vms' vby vli E F mb /\ Fr T w w' T' := by
 obtain ⟨bt, be, g, hM, a1, a2, a3, a4⟩ := h.mach
 obtain ⟨vL, gS, cS, hR, b1, b2, b3⟩ := h.rmach
 have h4 := hW.below h.below
 have hf := hW.fresh
 obtain ⟨L1, hL1⟩ : ∃ L1 : List Nat, L1 = vL.ownBlock.toList := ⟨_, rfl⟩
 have hmem : ∀ b, b ∈ L1 ↔ vL.ownBlock = some b := fun b => by rw [hL1]; simp
 obtain ⟨c1, c2⟩ := h4.machine (L := bm :: bt :: be :: br :: gS :: (g ++ L1)) hM hR hc (fun k hk => by
  refine hf k ?_
  simp only [List.mem_cons, List.mem_append] at hk
  rcases hk with rfl | rfl | rfl | rfl | rfl | hk | hk
  ·exact a1
  ·exact a2
  ·exact a3
  ·exact b1
  ·exact b2
  ·exact a4 k hk
  ·exact b3 k ((hmem k).1 hk)) ⟨by simp, by simp, by simp, fun k hk => by simp [hk], by simp, by simp, fun b hb => by simp [(hmem b).2 hb]⟩ hst
 exact ⟨_, c1, (zl h.below).trans c2⟩
end Go.Proofs.YtfpohfifdfbpkaaGreatDoor
namespace Go.Proofs.YtfpohfifdfbpkaaGreatDoor
open Go.RowKit Scour Go.Lib
set_option maxHeartbeats 4000000 in
set_option maxRecDepth 100000 in
theorem compiled_bad (bw : Nat) (T : Nat -> Nat) (M : List Ent) (vms vby vli : Value) (E F : List Sl) (mb : Ext) (a : Addr) (cap : Nat) (ts : List Str) (w : World) (hW : LW w bw T M vms vby vli E F mb) (hS : TxtIn w w.heap.size (some a) ts)
  (hn : ts.length <= 2000000) (hl : ∀ i, i < ts.length -> (pat ts i).length < 100000000) (hc : (chk ts).1 ≠ 0) :
  Calls Tryz.prog 48 #[.pointer (some ⟨bw, 0, none⟩), .slice (some a) ts.length cap] w fun e w' => e = .returned (.bool true) /\ LW w' bw T M vms vby vli E F mb /\ Fr T w w' T := by
 have HLL := zB (lentLists_any a cap ts w hS hn hl)
 have HS := zB hS
 have HL := zB hl
 have HL2 : Hid (∀ i, i < ts.length -> (pat ts i).length <= 9000000000000000000) := zB (fun i hi => by have := hl i hi; omega)
 have HW := zB hW
 have HC := zB hc
 clear hS hl hW hc
 obtain ⟨e1, e2, he⟩ : ∃ e1 e2, chk ts = (e1, e2) := ⟨_, _, rfl⟩
 have HE := zB he
 clear he
 go_enter Tryz.func48, Tryz.ntmps48
 go_wp2_with (first | (go_at_call 85; refine (zA HLL).mono ?_; rintro e w1 ⟨b0, bm, cm, gs, rfl, hLe, hb1⟩; have HLe := zB hLe; have HB1 := zB hb1; clear hLe hb1) | (go_at_call 28; have HK := compile_bad (some ⟨b0, 0, none⟩) (ts.length + 8) w1.heap.size ts w1 (zA HLe).pats (by omega) (zA HL2) (zA HC); rw [zA HE] at HK; refine HK.mono ?_; clear HK; rintro e w' ⟨rfl, hw⟩; have hw' := hw.symm; clear hw; subst hw') | (go_at_call 86; have HK := rcompile_bad (some a) cap ts w1 (((zA HS).below (zA HB1) (Nat.le_refl _)).up (zA HB1).size) (by omega) (zA HL2) (zA HC); rw [zA HE] at HK; refine HK.mono ?_; clear HK; rintro e w' ⟨rfl, hw⟩; have hw' := hw.symm; clear hw; subst hw') | (go_at_call 87; refine (wholeLists_any a cap w.heap.size b0 bm cm gs ts w1 ((zA HS).below (zA HB1) (Nat.le_refl _)) hn (zA HL) (zA HLe).backs).mono ?_; rintro e w4 ⟨rfl, hb4⟩; have HB4 := zB hb4.below; clear hb4))
 go_ret
 have hb := (zA HB1).trans (zA HB4)
 exact ⟨rfl, (zA HW).below hb, zl hb⟩
set_option maxHeartbeats 4000000 in
set_option maxRecDepth 100000 in
theorem compiled_ok (bw : Nat) (T : Nat -> Nat) (M : List Ent) (vms vby vli : Value) (E F : List Sl) (mb : Ext) (a : Addr) (cap : Nat) (ts : List Str) (w : World) (hW : LW w bw T M vms vby vli E F mb) (hS : TxtIn w w.heap.size (some a) ts)
  (hc : (chk ts).1 = 0) (hMl : M.length < 900000000000) :
  Calls Tryz.prog 48 #[.pointer (some ⟨bw, 0, none⟩), .slice (some a) ts.length cap] w fun e w' => e = .returned (.bool true) /\ ∃ T' bm br S vms', LW w' bw T' (M ++ [⟨bm, br, ts, S⟩]) vms' vby vli E F mb /\ Fr T w w' T' := by
 obtain ⟨h64, hlen, hch⟩ := yr hc
 have hl : ∀ i, i < ts.length -> (pat ts i).length < 100000000 := fun i hi => by have := hlen i hi; omega
 obtain ⟨i0, hi, hz0, hz1, hz2⟩ := info_parts Tryz.infoP
 have HLL := zB (lentLists_any a cap ts w hS (by omega) hl)
 have HS := zB hS
 have HL := zB hl
 have HW := zB hW
 have HC := zB hc
 clear hS hl hW hc hlen hch
 go_enter Tryz.func48, Tryz.ntmps48
 go_wp2_with (first | (go_at_call 85; refine (zA HLL).mono ?_; rintro e w1 ⟨b0, bo, cm, gs, rfl, hLe, hb1⟩; have HLe := zB hLe; have HB1 := zB hb1; clear hLe hb1) | (go_at_call 28; refine (compile_ok (some ⟨b0, 0, none⟩) (ts.length + 8) ts w1 (zA HLe).pats (zA HC)).mono ?_; rintro e w2 ⟨bm, bt, be, g, S, rfl, hM, hge, hb2⟩; have HM := zB hM; have HGE := zB hge; have HB2 := zB hb2; clear hM hge hb2) | (go_at_call 86; refine (rcompile_ok (some a) cap ts w2 ((((zA HS).below (zA HB1) (Nat.le_refl _)).below (zA HB2) (zA HB1).size).up (Nat.le_trans (zA HB1).size (zA HB2).size)) (fun h => by cases h) (zA HC)).mono ?_; rintro e w3 ⟨br, vL, gS, cS, R, rfl, hR, hRS, hgr, hb3⟩; have HR := zB hR; have HRS := zB hRS; have HGR := zB hgr; have HB3 := zB hb3; have HB23 := zB ((zA HB2).trans (hb3.mono (zA HB2).size)); clear hR hRS hgr hb3) | (go_at_call 87; refine (wholeLists_any a cap w.heap.size b0 bo cm gs ts w3 (((zA HS).below (zA HB1) (Nat.le_refl _)).below (zA HB23) (zA HB1).size) (by omega) (zA HL) ((zA HLe).kept (zA HB23)).backs).mono ?_; rintro e w4 ⟨rfl, hb4⟩; have HMD : Hid (Made w w4 bm br ts S) := zB (made_of (zA HB1) (zA HM) (zA HGE) (zA HB2) (zA HR) (zA HRS) (zA HGR) (zA HB3) hb4.below (by_back (zA HLe) hb4)); clear hb4 HM HGE HB2 HR HRS HGR HB3 HB1 HLe HLL HB23; have HW4 := zB ((zA HW).below (zA HMD).below); have HR4 := zB (zw.start (o := 0) (zA HW4).blk rfl (zA HW4).ms); have c4 := (zA HR4).cell (by simp)) | (at_builtin; refine wpList_append_lies _ rfl (.tmp 60) (.tmp 64) 61 rfl 0 108 i0 (.agg #[.pointer none, .pointer none]) 2 16 Tryz.underlying61 hi hz0 hz1 hz2 rfl (by decide) _ M.length (zn M) rfl ((zA HR4).ready #[.pointer (some ⟨bm, 0, none⟩), .pointer (some ⟨br, 0, none⟩)] w4.heap.size rfl).1 ⟨w4.heap.size, 0, none⟩ 1 1 [.pointer (some ⟨bm, 0, none⟩), .pointer (some ⟨br, 0, none⟩)] rfl rfl ((zA HR4).ready #[.pointer (some ⟨bm, 0, none⟩), .pointer (some ⟨br, 0, none⟩)] w4.heap.size rfl).2 (by intro u hu; simp at hu; rcases hu with rfl | rfl <;> rfl) (by omega) (by unfold maxLen; omega) (by omega) (Nat.zero_le _) (w4.heap.size + 1) (by simp) ?_; intro g5 cg5 w5 ho5 hg5 hat5 hl5; obtain ⟨c5, f5⟩ := (zA HR4).behind (by decide) (by simp) _ hg5; have HR5 := zB ((zA HR4).step (by decide) #[.pointer (some ⟨bm, 0, none⟩), .pointer (some ⟨br, 0, none⟩)] w4.heap.size rfl ho5 hg5 hat5); clear ho5 hg5 hat5 hl5))
 go_ret
 obtain ⟨T', k1, k2⟩ := (zA HMD).more (zA HW) (zA HC) (zA HR5)
 exact ⟨rfl, T', ⟨bm, br, S, _, k1⟩, k2⟩
set_option maxHeartbeats 4000000 in
set_option maxRecDepth 100000 in
theorem compiled_nil (bw : Nat) (T : Nat -> Nat) (M : List Ent) (vms vby vli : Value) (E F : List Sl) (mb : Ext) (w : World) (hW : LW w bw T M vms vby vli E F mb) (hMl : M.length < 900000000000) :
  Calls Tryz.prog 48 #[.pointer (some ⟨bw, 0, none⟩), .slice none 0 0] w fun e w' => e = .returned (.bool true) /\ ∃ T' bm br S vms', LW w' bw T' (M ++ [⟨bm, br, [], S⟩]) vms' vby vli E F mb /\ Fr T w w' T' := by
 obtain ⟨i0, hi, hz0, hz1, hz2⟩ := info_parts Tryz.infoP
 have hc : (chk []).1 = 0 := by decide
 have HLL := zB (lentLists_nil w)
 have HCO := zB (compile_ok none 0 [] w (fun h => absurd h (Nat.lt_irrefl _)) hc)
 have HRC : Hid (∀ W, _) := zB (fun W => rcompile_ok none 0 [] W (fun h => absurd h (Nat.lt_irrefl _)) (fun _ => rfl) hc)
 have HWL : Hid (∀ W, _) := zB (fun W => wholeLists_nil (.slice none 0 0) (.slice none 0 0) W)
 have HW := zB hW
 have HC := zB hc
 clear hW hc
 simp only [List.length_nil] at HCO HRC
 go_enter Tryz.func48, Tryz.ntmps48
 go_wp2_with (first | (go_at_call 85; refine (zA HLL).mono ?_; rintro e w1 ⟨rfl, hw⟩; have hw' := hw.symm; clear hw; subst hw') | (go_at_call 28; refine (zA HCO).mono ?_; rintro e w2 ⟨bm, bt, be, g, S, rfl, hM, hge, hb2⟩; have HM := zB hM; have HGE := zB hge; have HB2 := zB hb2; clear hM hge hb2) | (go_at_call 86; refine (zA HRC w2).mono ?_; rintro e w3 ⟨br, vL, gS, cS, R, rfl, hR, hRS, hgr, hb3⟩; have HMD : Hid (Made w w3 bm br [] S) := zB (made_of (Below.refl _ _) (zA HM) (zA HGE) (zA HB2) hR hRS hgr hb3 (Below.refl _ _) (fun _ _ _ => rfl)); clear hR hRS hgr hb3 HM HGE HB2; have HW4 := zB ((zA HW).below (zA HMD).below); have HR4 := zB (zw.start (o := 0) (zA HW4).blk rfl (zA HW4).ms); have c4 := (zA HR4).cell (by simp)) | (go_at_call 87; refine (zA HWL w3).mono ?_; rintro e w4 ⟨rfl, hw⟩; have hw' := hw.symm; clear hw; subst hw') | (at_builtin; refine wpList_append_lies _ rfl (.tmp 60) (.tmp 64) 61 rfl 0 108 i0 (.agg #[.pointer none, .pointer none]) 2 16 Tryz.underlying61 hi hz0 hz1 hz2 rfl (by decide) _ M.length (zn M) rfl ((zA HR4).ready #[.pointer (some ⟨bm, 0, none⟩), .pointer (some ⟨br, 0, none⟩)] w3.heap.size rfl).1 ⟨w3.heap.size, 0, none⟩ 1 1 [.pointer (some ⟨bm, 0, none⟩), .pointer (some ⟨br, 0, none⟩)] rfl rfl ((zA HR4).ready #[.pointer (some ⟨bm, 0, none⟩), .pointer (some ⟨br, 0, none⟩)] w3.heap.size rfl).2 (by intro u hu; simp at hu; rcases hu with rfl | rfl <;> rfl) (by omega) (by unfold maxLen; omega) (by omega) (Nat.zero_le _) (w3.heap.size + 1) (by simp) ?_; intro g5 cg5 w5 ho5 hg5 hat5 hl5; obtain ⟨c5, f5⟩ := (zA HR4).behind (by decide) (by simp) _ hg5; have HR5 := zB ((zA HR4).step (by decide) #[.pointer (some ⟨bm, 0, none⟩), .pointer (some ⟨br, 0, none⟩)] w3.heap.size rfl ho5 hg5 hat5); clear ho5 hg5 hat5 hl5))
 go_ret
 obtain ⟨T', k1, k2⟩ := (zA HMD).more (zA HW) (zA HC) (zA HR5)
 exact ⟨rfl, T', ⟨bm, br, S, _, k1⟩, k2⟩
end Go.Proofs.YtfpohfifdfbpkaaGreatDoor
namespace Go.Proofs.YtfpohfifdfbpkaaGreatDoor
open Go.RowKit Scour Go.Lib
theorem zf (w : World) (o1 o2 : Obj) : Below w.heap.size w ((w.alloc o1).alloc o2) := ((Below.refl _ _).alloc (Nat.le_refl _) _).alloc (by simp) _
theorem mach_short {w : World} {bm bt be : Nat} {g : List Nat} {ps S : List Str} (hM : yV w bm bt be g ps S) (hc : (chk ps).1 = 0) {k : Nat} (hk : k < S.length) : (at' S k).length < 1000 := by
 obtain ⟨_, cap, par, lst, E, hT, hS, _⟩ := hM.ex
 obtain ⟨_, hlen, _⟩ := yr hc
 rcases (hS.mem _).1 (jO hk) with h | ⟨i, hi, _, h2, _⟩
 ·rw [h]; decide
 ·have := hlen i hi; omega
theorem nexts {w : World} {bm bt be : Nat} {g : List Nat} {br gS cS : Nat} {vL : Value} {ps S : List Str} (hM : yV w bm bt be g ps S) (hR : yZ w br vL gS cS ps S) (hc : (chk ps).1 = 0) (n : Int) (b : UInt8) :
  ∃ x y : Int, (∀ W, Below w.heap.size w W -> Calls Tryz.prog 27 #[.pointer (some ⟨bm, 0, none⟩), .int .i64 n, .int .u8 b.toNat] W fun e w' => e = .returned (.tuple #[.int .i64 x, .int .i64 y]) /\ Below W.heap.size W w') /\
    ∀ W, Below w.heap.size w W -> Calls Tryz.prog 94 #[.pointer (some ⟨br, 0, none⟩), .int .i64 n, .int .u8 b.toNat] W fun e w' => e = .returned (.tuple #[.int .i64 x, .int .i64 y]) /\ Below W.heap.size W w' := by
 by_cases h0 : n < 0
 ·refine ⟨0, 1, fun W hb => (mnext_low _ _ n W h0).mono ?_, fun W hb => (rNext_low _ n _ W h0).mono ?_⟩ <;> (rintro e w' ⟨rfl, rfl⟩; exact ⟨rfl, Below.refl _ _⟩)
 ·by_cases h1 : (S.length : Int) <= n
  ·refine ⟨0, 1, fun W hb => (mnext_high bm bt be g ps S W (hM.below hb) n _ h1).mono ?_, fun W hb => (rNext_high br gS cS vL ps S n _ W (hR.below hb) h1).mono ?_⟩ <;> (rintro e w' ⟨rfl, rfl⟩; exact ⟨rfl, Below.refl _ _⟩)
  ·obtain ⟨k, rfl⟩ : ∃ k : Nat, n = k := ⟨n.toNat, by omega⟩
   exact ⟨_, 0, fun W hb => mnext_in bm bt be g ps S W (hM.below hb) k b (by omega), fun W hb => rNext_in br gS cS vL ps S k b W (hR.below hb) (by omega) (mach_short hM hc (by omega))⟩
set_option maxHeartbeats 2000000 in
set_option maxRecDepth 100000 in
theorem asked_states (vw vl : Value) (a b : Int) (s : ByteArray) (bm bt be : Nat) (g : List Nat) (br gS cS : Nat) (vL : Value) (ps S : List Str) (w : World) (hM : yV w bm bt be g ps S) (hR : yZ w br vL gS cS ps S) :
  Calls Tryz.prog 52 #[vw, .agg #[.pointer (some ⟨bm, 0, none⟩), .pointer (some ⟨br, 0, none⟩)], .agg #[.int .i64 3, .int .i64 a, .int .i64 b, .string s, vl]] w fun e w' => e = .returned (.bool true) /\ Below w.heap.size w w' := by
 have lbr := (Array.getElem?_eq_some_iff.1 hR.blk).1
 have cr : w.cell? ⟨br, 1, none⟩ = some (.slice (some ⟨gS, 0, none⟩) S.length cS) := by rw [zC hR.blk]; rfl
 have cb : ∀ o1 o2, ((w.alloc o1).alloc o2).cell? ⟨br, 1, none⟩ = some (.slice (some ⟨gS, 0, none⟩) S.length cS) := fun o1 o2 => ((zf w o1 o2).cell (p := ⟨br, 1, none⟩) lbr).trans cr
 have HST : Hid (∀ W, Below w.heap.size w W -> Calls Tryz.prog 17 #[.pointer (some ⟨bm, 0, none⟩)] W fun e w' => e = .returned (.int .i64 S.length) /\ w' = W) := zB (fun W hb => states_any _ _ _ _ _ _ W (hM.below hb))
 clear hM hR
 go_enter Tryz.func52, Tryz.ntmps52
 go_wp2_with (go_at_call 17; refine (zA HST _ (zf w _ _)).mono ?_; rintro e w' ⟨rfl, hw⟩; have hw' := hw.symm; clear hw; subst hw')
 go_ret
 exact ⟨rfl, zf w _ _⟩
set_option maxHeartbeats 2000000 in
set_option maxRecDepth 100000 in
theorem asked_next (vw vl : Value) (a b : Int) (s : ByteArray) (bm bt be : Nat) (g : List Nat) (br gS cS : Nat) (vL : Value) (ps S : List Str) (w : World) (hM : yV w bm bt be g ps S) (hR : yZ w br vL gS cS ps S) (hc : (chk ps).1 = 0) (hs : s.size < 1000000000000) :
  Calls Tryz.prog 52 #[vw, .agg #[.pointer (some ⟨bm, 0, none⟩), .pointer (some ⟨br, 0, none⟩)], .agg #[.int .i64 4, .int .i64 a, .int .i64 b, .string s, vl]] w fun e w' => e = .returned (.bool true) /\ Below w.heap.size w w' := by
 by_cases h0 : 0 < s.size
 ·obtain ⟨x, y, h1, h2⟩ := nexts hM hR hc b s[0]
  have H1 := zB h1
  have H2 := zB h2
  clear h1 h2 hM hR hc
  go_enter Tryz.func52, Tryz.ntmps52
  go_wp2_with (first | (go_at_call 27; refine (zA H1 _ (zf w _ _)).mono ?_; rintro e w1 ⟨rfl, hb1⟩; have HB1 : Hid (Below w.heap.size w w1) := zB ((zf w _ _).trans (hb1.mono (zf w _ _).size)); have c1 := hb1.cell (p := ⟨w.heap.size, 1, none⟩) (by simp only [World.alloc, Array.size_push]; omega); have c2 := hb1.cell (p := ⟨w.heap.size + 1, 2, none⟩) (by simp only [World.alloc, Array.size_push]; omega); clear hb1) | (go_at_call 94; refine (zA H2 _ (zA HB1)).mono ?_; rintro e w2 ⟨rfl, hb2⟩; have HB2 := zB ((zA HB1).trans (hb2.mono (zA HB1).size)); clear hb2))
  go_ret
  exact ⟨rfl, zA HB2⟩
 ·obtain ⟨x, y, h1, h2⟩ := nexts hM hR hc b 0
  have e0 : s.size = 0 := by omega
  have H1 := zB h1
  have H2 := zB h2
  clear h1 h2 hM hR hc
  go_enter Tryz.func52, Tryz.ntmps52
  go_wp2_with (first | (go_at_call 27; refine (zA H1 _ (zf w _ _)).mono ?_; rintro e w1 ⟨rfl, hb1⟩; have HB1 : Hid (Below w.heap.size w w1) := zB ((zf w _ _).trans (hb1.mono (zf w _ _).size)); have c1 := hb1.cell (p := ⟨w.heap.size, 1, none⟩) (by simp only [World.alloc, Array.size_push]; omega); have c2 := hb1.cell (p := ⟨w.heap.size + 1, 2, none⟩) (by simp only [World.alloc, Array.size_push]; omega); clear hb1) | (go_at_call 94; refine (zA H2 _ (zA HB1)).mono ?_; rintro e w2 ⟨rfl, hb2⟩; have HB2 := zB ((zA HB1).trans (hb2.mono (zA HB1).size)); clear hb2))
  go_ret
  exact ⟨rfl, zA HB2⟩
end Go.Proofs.YtfpohfifdfbpkaaGreatDoor
namespace Go.Proofs.YtfpohfifdfbpkaaGreatDoor
open Go.RowKit Scour Go.Lib
theorem Outs.free {w1 : World} {B b0 : Nat} {gs cs : Nat -> Nat} {ps : List Str} {T : Nat -> Nat} {n : Nat} (hO : Outs w1 B b0 gs cs ps ps.length) (hB : n <= B) (hT : ∀ k, n <= k -> T k = 9) : Free w1 T b0 ps.length gs cs ps 0 :=
 ⟨zu hO.row, hT _ (Nat.le_trans hB (yQ hO.row)), fun i _ hi => zu (hO.each i hi), fun i _ hi => hT _ (Nat.le_trans hB (yQ (hO.each i hi))), hO.apart⟩
set_option maxHeartbeats 4000000 in
set_option maxRecDepth 100000 in
theorem asked_patterns (bw : Nat) (T : Nat -> Nat) (M : List Ent) (vms vby vli : Value) (E F : List Sl) (mb : Ext) (vl : Value) (a b : Int) (s : ByteArray) (bm bt be : Nat) (g : List Nat) (br gS cS : Nat) (vL : Value) (ps S : List Str) (w : World) (hW : LW w bw T M vms vby vli E F mb) (hM : yV w bm bt be g ps S) (hR : yZ w br vL gS cS ps S) (hc : (chk ps).1 = 0)
  (hE : E.length < 900000000000) (hF : F.length < 900000000000) :
  Calls Tryz.prog 52 #[.pointer (some ⟨bw, 0, none⟩), .agg #[.pointer (some ⟨bm, 0, none⟩), .pointer (some ⟨br, 0, none⟩)], .agg #[.int .i64 2, .int .i64 a, .int .i64 b, .string s, vl]] w fun e w' => e = .returned (.bool true) /\ ∃ T' vby' vli' E' F' mb', LW w' bw T' M vms vby' vli' E' F' mb' /\ Fr T w w' T' /\ E'.length = E.length + 4 * ps.length /\ F'.length = F.length + 4 /\ mb.Le mb' := by
 obtain ⟨h64, hlen, hch⟩ := yr hc
 have lbr := (Array.getElem?_eq_some_iff.1 hR.blk).1
 have cr : w.cell? ⟨br, 0, none⟩ = some vL := by rw [zC hR.blk]; rfl
 obtain ⟨aL, cL, hvL⟩ : ∃ aL cL, vL = .slice aL ps.length cL := by
  rcases hR.lrow.2 with ⟨h, h0⟩ | ⟨g, cap, cur, h, _⟩
  ·exact ⟨none, 0, by rw [h, h0]⟩
  ·exact ⟨_, cap, h⟩
 subst hvL
 have HLC : Hid (0 < ps.length -> ∃ gL, gL < w.heap.size /\ aL = some ⟨gL, 0, none⟩ /\ ∀ i, i < ps.length -> w.cell? ⟨gL, i, none⟩ = some (.string ⟨(pat ps i).toArray⟩)) := zB (fun h0 => by
  rcases hR.lrow.2 with ⟨h, h1⟩ | ⟨gL, cap, cur, h, _, hg, _⟩
  ·omega
  ·obtain ⟨rfl, rfl⟩ : aL = some ⟨gL, 0, none⟩ /\ cL = cap := by simpa using h
   exact ⟨gL, (Array.getElem?_eq_some_iff.1 hg).1, rfl, fun i hi => cellT hR.lrow rfl i hi⟩)
 have HPA : Hid (∀ W, Below w.heap.size w W -> Calls Tryz.prog 18 #[.pointer (some ⟨bm, 0, none⟩)] W fun e w' => ∃ b0 gs cs, e = .returned (.slice (some ⟨b0, 0, none⟩) ps.length ps.length) /\ Outs w' W.heap.size b0 gs cs ps ps.length /\ Below W.heap.size W w') := zB (fun W hb => patterns_any bm bt be g ps S W (hM.below hb) h64 hlen)
 have HPL : Hid (∀ i, i < ps.length -> (pat ps i).length <= 64) := zB (fun i hi => (hlen i hi).2)
 have HW := zB hW
 clear hM hR hc hW hlen hch
 go_enter Tryz.func52, Tryz.ntmps52
 go_wp2_with (go_at_call 18; refine (zA HPA _ (zf w _ _)).mono ?_; rintro e w1 ⟨b0, gs, cs, rfl, hO, hb1⟩; have HB1 : Hid (Below w.heap.size w w1) := zB ((zf w _ _).trans (hb1.mono (zf w _ _).size)); have c1 := hb1.cell (p := ⟨w.heap.size, 1, none⟩) (by simp only [World.alloc, Array.size_push]; omega); have c2 := ((zA HB1).cell (p := ⟨br, 0, none⟩) lbr).trans cr; have HF : Hid (Free w1 T b0 ps.length gs cs ps 0) := zB (hO.free (zf w _ _).size (zA HW).fresh); clear hb1 hO)
 simp at c1
 go_loopw [8, 9] (fun v8 v9 wz => ∃ k m : Nat, v8 = .bool true /\ v9 = .int .i64 k /\ k <= ps.length /\ wz = w1.drewN m) (fun _ v9 _ => ps.length - (intOf v9).toNat)
 case atStart => exact ⟨0, 0, by simp, rfl, Nat.zero_le _, rfl⟩
 case round =>
  obtain ⟨k, m, rfl, rfl, hk, rfl⟩ := hrel
  by_cases hlt : k < ps.length
  ·obtain ⟨gL, lgL, rfl, hcell⟩ := zA HLC (by omega)
   have z1 : (w1.drewN m).cell? ⟨w.heap.size, 1, none⟩ = some (.pointer (some ⟨br, 0, none⟩)) := c1
   have z2 : (w1.drewN m).cell? ⟨br, 0, none⟩ = some (.slice (some ⟨gL, 0, none⟩) ps.length cL) := c2
   have z3 : (w1.drewN m).cell? ⟨gL, k, none⟩ = some (.string ⟨(pat ps k).toArray⟩) := ((zA HB1).cell (p := ⟨gL, k, none⟩) lgL).trans (hcell k hlt)
   have z4 : (w1.drewN m).cell? ⟨b0, k, none⟩ = some (.slice (some ⟨gs k, 0, none⟩) (pat ps k).length (cs k)) := by
    have := (zA HF).row.cellAt k (by omega)
    rw [jL _ _ _ _ _ hlt, if_pos hlt] at this
    exact this
   have hcv : ∀ q, (convert 27 9 (.slice (some ⟨gs k, 0, none⟩) (pat ps k).length (cs k))).run Tryz.prog ((w1.drewN m).drewN q) = .ok (.string ⟨(pat ps k).toArray⟩) ((w1.drewN m).drewN q) := fun q => conv_back (fun j hj => by
    rw [Nat.zero_add]
    have := ((zA HF).each k (Nat.zero_le _) hlt).cellAt j (by simpa using hj)
    refine Eq.trans this ?_
    simp [zT, hj, List.getD])
   obtain ⟨wz, hwz⟩ : ∃ wz, w1.drewN m = wz := ⟨_, rfl⟩
   rw [hwz] at z1 z2 z3 z4 hcv ⊢
   have HWZ := zB hwz
   clear hwz hcell
   have i1 : (k : Int) < (ps.length : Int) := by omega
   have i2 : (0 : Int) <= (k : Int) := by omega
   generalize (pat ps k) = sk at *
   go_wp2_with fail
   go_quiet (fail)
   go_wp2_with fail
   go_roundw
   case rel => exact ⟨k + 1, m + nq, by simp, by go_num, hlt, by rw [← zA HWZ, World.drewN_drewN]⟩
   case measure => simp [intOf]; omega
  ·obtain rfl : k = ps.length := by omega
   have i1 : ¬ (ps.length : Int) < (ps.length : Int) := by omega
   have HF2 : Hid (Free (w1.drewN m) T b0 ps.length gs cs ps 0) := zB ⟨(zA HF).row, (zA HF).trow, (zA HF).each, (zA HF).teach, (zA HF).apart⟩
   have HB2 : Hid (Below w.heap.size w (w1.drewN m)) := zB (below_drewN (zA HB1) m)
   have HKL := zB (keepsLists_any bw T M vms vby vli E F mb b0 ps.length gs cs ps (w1.drewN m) ((zA HW).below (zA HB2)) (zA HF2) h64 (zA HPL) hE hF)
   generalize w1.drewN m = wz at *
   go_wp2_with (go_at_call 93; refine (zA HKL).mono ?_; rintro e w2 ⟨rfl, T', vby', vli', E', F', mb', k1, k2, k3, k4, k5⟩; have HK5 := zB k5; have HK1 := zB k1; have HK2 := zB k2; have HK3 := zB k3; have HK4 := zB k4; clear k1 k2 k3 k4 k5)
   go_ret
   exact ⟨rfl, T', vby', vli', E', F', mb', zA HK1, (zl (zA HB2)).trans (zA HK2), zA HK3, zA HK4, zA HK5⟩
end Go.Proofs.YtfpohfifdfbpkaaGreatDoor
