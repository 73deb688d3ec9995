import Derived.Test.YthbbhpbkoankhaaGreatLooks
namespace Go.Proofs.YthbbhpbkoankhaaGreat
open Go.RowKit Scour Go.Lib

theorem Tryz.infoP : (Tryz.prog.info? 55).map (fun i => (i.zero, i.size, i.bytes)) = some (some (.agg #[.pointer none, .pointer none]), 2, 16) := by kernel_rfl

/-- Lists that are lent are patterns in memory. -/
theorem Lents.pats {w : World} {base b0 : Nat} {vm : Value} {gs : Nat → Nat} {ts : List Str} (h : Lents w base b0 vm gs ts (ts.length + 8)) : PatsIn w w.heap.size (some ⟨b0, 0, none⟩) ts := by
  intro _
  obtain ⟨cur, hcur⟩ := owns_blk h.row
  refine ⟨b0, 0, (Array.getElem?_eq_some_iff.1 hcur).1, rfl, fun i hi => ?_⟩
  refine ⟨some ⟨gs i, 0, none⟩, bc ts i, ?_, ?_⟩
  · rw [Nat.zero_add, h.row.cellAt i (by omega), outsF_get _ _ _ _ _ (by rw [bs_len]; omega), if_pos (by omega), bs_low ts i hi]
  · have he := h.each i (by omega)
    rw [bs_low ts i hi] at he
    exact fun _ => ⟨gs i, 0, (Array.getElem?_eq_some_iff.1 he).1, rfl, fun j hj => by
      rw [Nat.zero_add, cell_of_blk he]; simp only [List.getElem?_toArray]; exact lentL_low _ j hj⟩

theorem TxtIn.up {w : World} {B B' : Nat} {ap : Option Addr} {ps : List Str} (h : TxtIn w B ap ps) (hB : B ≤ B') : TxtIn w B' ap ps := fun h0 => by
  obtain ⟨b, o, hb, e, hh⟩ := h h0
  exact ⟨b, o, by omega, e, hh⟩

/-- The tags behind one machine more. -/
def tagsM (T : Nat → Nat) (w : World) (L : List Nat) (v' : Value) : Nat → Nat := fun k =>
  if k < w.heap.size then (if k ∈ L then 1 else T k) else if v'.ownBlock = some k then 3 else 9

/-- One machine more. -/
theorem LW.machine {w w' : World} {bw : Nat} {T : Nat → Nat} {M : List Ent} {vms vby vli vms' : Value} {E F : List Sl} {mb : Nat → Nat} {bm br bt be : Nat} {g : List Nat} {gS cS : Nat} {ps S : List Str} {vL : Value} {L : List Nat}
    (h : LW w bw T M vms vby vli E F mb) (hM : Mach w bm bt be g ps S) (hR : RMach w br vL gS cS ps S) (hc : (chk ps).1 = 0)
    (hL : ∀ k, k ∈ L → T k = 9) (hm : bm ∈ L ∧ bt ∈ L ∧ be ∈ L ∧ (∀ k, k ∈ g → k ∈ L) ∧ br ∈ L ∧ gS ∈ L ∧ ∀ b, vL.ownBlock = some b → b ∈ L)
    (hst : RowSt w w' bw 0 #[vms, .slice none 0 0, vby, vli, .slice none 0 0] 36 55 2 vms vms' (M.length + 1) (pairCells M ++ [.pointer (some ⟨bm, 0, none⟩), .pointer (some ⟨br, 0, none⟩)])) :
    LW w' bw (tagsM T w L vms') (M ++ [⟨bm, br, ps, S⟩]) vms' vby vli E F mb ∧ Fr T w w' (tagsM T w L vms') := by
  have hbl := (Array.getElem?_eq_some_iff.1 h.blk).1
  have hsz := hst.size
  have hold : ∀ k, k < w.heap.size → T k ≠ 2 → T k ≠ 3 → w'.heap[k]? = w.heap[k]? := fun k hl h2 h3 => hst.frame k hl (fun e => h2 (by rw [e]; exact h.tbw)) (fun e => h3 (h.msown k e))
  have hTo : ∀ k, k < w.heap.size → T k ≠ 9 → tagsM T w L vms' k = T k := fun k hl h9 => by
    unfold tagsM; rw [if_pos hl, if_neg (fun e => h9 (hL k e))]
  have hTn : ∀ k, k < w.heap.size → k ∈ L → tagsM T w L vms' k = 1 := fun k hl hk => by
    unfold tagsM; rw [if_pos hl, if_pos hk]
  have hLo : ∀ k, k < w.heap.size → k ∈ L → w'.heap[k]? = w.heap[k]? := fun k hl hk => hold k hl (by rw [hL k hk]; decide) (by rw [hL k hk]; decide)
  obtain ⟨m1, m2, m3, m4, m5, m6, m7⟩ := hm
  obtain ⟨l1, l2, l3, l4⟩ := hM.lts
  have lbr := (Array.getElem?_eq_some_iff.1 hR.blk).1
  obtain ⟨cur, hcur⟩ := owns_blk hR.srow
  have lgS := (Array.getElem?_eq_some_iff.1 hcur).1
  refine ⟨⟨?_, ?_, ?_, ?_, ?_, ?_, ?_, ?_⟩, hst.os, hst.tape, hst.output, hsz, fun k hk h0 => ⟨hold k hk (by omega) (by omega), by rw [hTo k hk (by omega)]; exact h0⟩⟩
  · exact hst.blk
  · rw [hTo bw hbl (by rw [h.tbw]; decide)]; exact h.tbw
  · have := hst.row
    rw [show (M ++ [(⟨bm, br, ps, S⟩ : Ent)]).length = M.length + 1 by simp, show pairCells (M ++ [(⟨bm, br, ps, S⟩ : Ent)]) = pairCells M ++ [.pointer (some ⟨bm, 0, none⟩), .pointer (some ⟨br, 0, none⟩)] by simp [pairCells]]
    exact this
  · intro b hb
    rcases hst.lies with e | e
    · have h3 := h.msown b (e ▸ hb)
      obtain ⟨cur, hc⟩ := owns_block h.ms (e ▸ hb)
      rw [hTo b (Array.getElem?_eq_some_iff.1 hc).1 (by rw [h3]; decide)]; exact h3
    · have := e b hb
      unfold tagsM
      rw [if_neg (by omega), if_pos hb]
  · intro e he
    rcases List.mem_append.1 he with he | he
    · exact (h.ents e he).same hsz (fun k hl ht => hold k hl (by rw [ht]; decide) (by rw [ht]; decide)) (fun k hl ht => by rw [hTo k hl (by rw [ht]; decide)]; exact ht)
    · obtain rfl : e = ⟨bm, br, ps, S⟩ := by simpa using he
      refine ⟨⟨bt, be, g, hM.same hsz ?_, hTn _ l1 m1, hTn _ l2 m2, hTn _ l3 m3, fun k hk => hTn k (l4 k hk) (m4 k hk)⟩, ⟨vL, gS, cS, hR.same ?_, hTn _ lbr m5, hTn _ lgS m6, ?_⟩, hc⟩
      · rintro k (rfl | rfl | rfl | hg)
        · exact hLo _ l1 m1
        · exact hLo _ l2 m2
        · exact hLo _ l3 m3
        · exact hLo _ (l4 k hg) (m4 k hg)
      · rintro k hl (rfl | rfl | hv)
        · exact hLo _ hl m5
        · exact hLo _ hl m6
        · exact hLo _ hl (m7 k hv)
      · intro b hb
        obtain ⟨cur, hc⟩ := owns_block hR.lrow hb
        exact hTn b (Array.getElem?_eq_some_iff.1 hc).1 (m7 b hb)
  · refine h.bytes.same (fun k hl ht => ?_) (fun k hl ht => ?_)
    · refine hold k hl ?_ ?_ <;> rcases ht with ht | ⟨i, ht⟩ <;> rw [ht] <;> first | decide | (unfold btag; omega)
    · refine hTo k hl ?_
      rcases ht with ht | ⟨i, ht⟩ <;> rw [ht] <;> first | decide | (unfold btag; omega)
  · refine h.lists.same (fun k hl ht => ?_) (fun k hl ht => ?_)
    · refine hold k hl ?_ ?_ <;> rcases ht with ht | ⟨i, ht⟩ <;> rw [ht] <;> first | decide | (unfold ltag; omega)
    · refine hTo k hl ?_
      rcases ht with ht | ⟨i, ht⟩ <;> rw [ht] <;> first | decide | (unfold ltag; omega)
  · intro k hl
    have hv : vms'.ownBlock ≠ some k := fun e => by
      obtain ⟨cur, hc⟩ := owns_block hst.row e
      have := (Array.getElem?_eq_some_iff.1 hc).1
      omega
    unfold tagsM
    rw [if_neg (by omega), if_neg hv]

/-- Lists are lent, both machines are made, the lists are given back: what is left in memory. -/
structure Made (w w4 : World) (bm br : Nat) (ps S : List Str) : Prop where
  below : Below w.heap.size w w4
  mach : ∃ bt be g, Mach w4 bm bt be g ps S ∧ w.heap.size ≤ bm ∧ w.heap.size ≤ bt ∧ w.heap.size ≤ be ∧ ∀ k, k ∈ g → w.heap.size ≤ k
  rmach : ∃ vL gS cS, RMach w4 br vL gS cS ps S ∧ w.heap.size ≤ br ∧ w.heap.size ≤ gS ∧ ∀ b, vL.ownBlock = some b → w.heap.size ≤ b

theorem mach_states {w : World} {bm bt be : Nat} {g : List Nat} {ps S R : List Str} (hM : Mach w bm bt be g ps S) (hR : RS ps ps.length 1 R) : R = S := by
  obtain ⟨_, cap, par, lst, E, hT, hS, _⟩ := hM.ex
  exact hR.states hS hT.rep

theorem made_of {w w1 w2 w3 w4 : World} {bm bt be : Nat} {g : List Nat} {br gS cS : Nat} {vL : Value} {ps S R : List Str} (h1 : Below w.heap.size w w1) (hM : Mach w2 bm bt be g ps S) (hge : w1.heap.size ≤ bm ∧ w1.heap.size ≤ bt ∧ w1.heap.size ≤ be ∧ ∀ k, k ∈ g → w1.heap.size ≤ k) (h2 : Below w1.heap.size w1 w2)
    (hR : RMach w3 br vL gS cS ps R) (hRS : RS ps ps.length 1 R) (hgr : w2.heap.size ≤ br ∧ w2.heap.size ≤ gS ∧ ∀ b, vL.ownBlock = some b → w2.heap.size ≤ b) (h3 : Below w2.heap.size w2 w3) (h4 : Below w.heap.size w3 w4) (hk : ∀ k, w1.heap.size ≤ k → k < w3.heap.size → w4.heap[k]? = w3.heap[k]?) : Made w w4 bm br ps S := by
  have s1 := h1.size
  have s2 := h2.size
  have s3 := h3.size
  obtain rfl := mach_states hM hRS
  obtain ⟨a1, a2, a3, a4⟩ := hge
  obtain ⟨b1, b2, b3⟩ := hgr
  have hM3 := hM.below h3
  obtain ⟨l1, l2, l3, l4⟩ := hM3.lts
  refine ⟨h1.trans ((h2.mono s1).trans ((h3.mono (by omega)).trans h4)), ⟨bt, be, g, hM3.same h4.size ?_, by omega, by omega, by omega, fun k hk => by have := a4 k hk; omega⟩, ⟨vL, gS, cS, hR.same ?_, by omega, by omega, fun b hb => by have := b3 b hb; omega⟩⟩
  · rintro k (rfl | rfl | rfl | hg)
    · exact hk _ a1 l1
    · exact hk _ a2 l2
    · exact hk _ a3 l3
    · exact hk _ (a4 k hg) (l4 k hg)
  · rintro k hl (rfl | rfl | hv)
    · exact hk _ (by omega) hl
    · exact hk _ (by omega) hl
    · exact hk _ (by have := b3 k hv; omega) hl

theorem by_back {w1 w3 w4 : World} {base b0 : Nat} {vm : Value} {gs : Nat → Nat} {ts : List Str} (h : Lents w1 base b0 vm gs ts (ts.length + 8)) (hb : BackB base b0 gs (ts.length + 8) w3 w4) : ∀ k, w1.heap.size ≤ k → k < w3.heap.size → w4.heap[k]? = w3.heap[k]? := by
  intro k h1 h2
  obtain ⟨cur, hcur⟩ := owns_blk h.row
  have l0 := (Array.getElem?_eq_some_iff.1 hcur).1
  exact hb.only k h2 (by omega) (fun i hi e => by
    have := (Array.getElem?_eq_some_iff.1 (h.each i hi)).1
    omega)

theorem Made.more {w w4 w' : World} {bw : Nat} {T : Nat → Nat} {M : List Ent} {vms vby vli vms' : Value} {E F : List Sl} {mb : Nat → Nat} {bm br : Nat} {ps S : List Str} (h : Made w w4 bm br ps S) (hW : LW w bw T M vms vby vli E F mb) (hc : (chk ps).1 = 0)
    (hst : RowSt w4 w' bw 0 #[vms, .slice none 0 0, vby, vli, .slice none 0 0] 36 55 2 vms vms' (M.length + 1) (pairCells M ++ [.pointer (some ⟨bm, 0, none⟩), .pointer (some ⟨br, 0, none⟩)])) :
    ∃ T', LW w' bw T' (M ++ [⟨bm, br, ps, S⟩]) vms' vby vli E F mb ∧ Fr T w w' T' := by
  obtain ⟨bt, be, g, hM, a1, a2, a3, a4⟩ := h.mach
  obtain ⟨vL, gS, cS, hR, b1, b2, b3⟩ := h.rmach
  have h4 := hW.below h.below
  have hf := hW.fresh
  obtain ⟨L1, hL1⟩ : ∃ L1 : List Nat, L1 = vL.ownBlock.toList := ⟨_, rfl⟩
  have hmem : ∀ b, b ∈ L1 ↔ vL.ownBlock = some b := fun b => by rw [hL1]; simp
  obtain ⟨c1, c2⟩ := h4.machine (L := bm :: bt :: be :: br :: gS :: (g ++ L1)) hM hR hc (fun k hk => by
    refine hf k ?_
    simp only [List.mem_cons, List.mem_append] at hk
    rcases hk with rfl | rfl | rfl | rfl | rfl | hk | hk
    · exact a1
    · exact a2
    · exact a3
    · exact b1
    · exact b2
    · exact a4 k hk
    · exact b3 k ((hmem k).1 hk)) ⟨by simp, by simp, by simp, fun k hk => by simp [hk], by simp, by simp, fun b hb => by simp [(hmem b).2 hb]⟩ hst
  exact ⟨_, c1, (fr_below h.below).trans c2⟩
end Go.Proofs.YthbbhpbkoankhaaGreat

namespace Go.Proofs.YthbbhpbkoankhaaGreat
open Go.RowKit Scour Go.Lib

set_option maxHeartbeats 4000000 in
set_option maxRecDepth 100000 in
theorem compiled_bad (bw : Nat) (T : Nat → Nat) (M : List Ent) (vms vby vli : Value) (E F : List Sl) (mb : Nat → Nat) (a : Addr) (cap : Nat) (ts : List Str) (w : World) (hW : LW w bw T M vms vby vli E F mb) (hS : TxtIn w w.heap.size (some a) ts)
    (hn : ts.length ≤ 2000000) (hl : ∀ i, i < ts.length → (pat ts i).length < 100000000) (hc : (chk ts).1 ≠ 0) :
    Calls Tryz.prog 11 #[.pointer (some ⟨bw, 0, none⟩), .slice (some a) ts.length cap] w fun e w' => e = .returned (.bool true) ∧ LW w' bw T M vms vby vli E F mb ∧ Fr T w w' T := by
  have HLL := hide (lentLists_any a cap ts w hS hn hl)
  have HS := hide hS
  have HL := hide hl
  have HL2 : Hid (∀ i, i < ts.length → (pat ts i).length ≤ 9000000000000000000) := hide (fun i hi => by have := hl i hi; omega)
  have HW := hide hW
  have HC := hide hc
  clear hS hl hW hc
  obtain ⟨e1, e2, he⟩ : ∃ e1 e2, chk ts = (e1, e2) := ⟨_, _, rfl⟩
  have HE := hide he
  clear he
  go_enter Tryz.func11, Tryz.ntmps11
  go_wp2_with (first | (go_at_call 17; refine (unhide HLL).mono ?_; rintro e w1 ⟨b0, bm, cm, gs, rfl, hLe, hb1⟩; have HLe := hide hLe; have HB1 := hide hb1; clear hLe hb1) | (go_at_call 18; have HK := compile_bad (some ⟨b0, 0, none⟩) (ts.length + 8) w1.heap.size ts w1 (unhide HLe).pats (by omega) (unhide HL2) (unhide HC); rw [unhide HE] at HK; refine HK.mono ?_; clear HK; rintro e w' ⟨rfl, hw⟩; have hw' := hw.symm; clear hw; subst hw') | (go_at_call 19; have HK := rcompile_bad (some a) cap ts w1 (((unhide HS).below (unhide HB1) (Nat.le_refl _)).up (unhide HB1).size) (by omega) (unhide HL2) (unhide HC); rw [unhide HE] at HK; refine HK.mono ?_; clear HK; rintro e w' ⟨rfl, hw⟩; have hw' := hw.symm; clear hw; subst hw') | (go_at_call 20; refine (wholeLists_any a cap w.heap.size b0 bm cm gs ts w1 ((unhide HS).below (unhide HB1) (Nat.le_refl _)) hn (unhide HL) (unhide HLe).backs).mono ?_; rintro e w4 ⟨rfl, hb4⟩; have HB4 := hide hb4.below; clear hb4))
  go_ret
  have hb := (unhide HB1).trans (unhide HB4)
  exact ⟨rfl, (unhide HW).below hb, fr_below hb⟩

set_option maxHeartbeats 4000000 in
set_option maxRecDepth 100000 in
theorem compiled_ok (bw : Nat) (T : Nat → Nat) (M : List Ent) (vms vby vli : Value) (E F : List Sl) (mb : Nat → Nat) (a : Addr) (cap : Nat) (ts : List Str) (w : World) (hW : LW w bw T M vms vby vli E F mb) (hS : TxtIn w w.heap.size (some a) ts)
    (hc : (chk ts).1 = 0) (hMl : M.length < 900000000000) :
    Calls Tryz.prog 11 #[.pointer (some ⟨bw, 0, none⟩), .slice (some a) ts.length cap] w fun e w' => e = .returned (.bool true) ∧ ∃ T' bm br S vms', LW w' bw T' (M ++ [⟨bm, br, ts, S⟩]) vms' vby vli E F mb ∧ Fr T w w' T' := by
  obtain ⟨h64, hlen, hch⟩ := chk_ok hc
  have hl : ∀ i, i < ts.length → (pat ts i).length < 100000000 := fun i hi => by have := hlen i hi; omega
  obtain ⟨i0, hi, hz0, hz1, hz2⟩ := info_parts Tryz.infoP
  have HLL := hide (lentLists_any a cap ts w hS (by omega) hl)
  have HS := hide hS
  have HL := hide hl
  have HW := hide hW
  have HC := hide hc
  clear hS hl hW hc hlen hch
  go_enter Tryz.func11, Tryz.ntmps11
  go_wp2_with (first | (go_at_call 17; refine (unhide HLL).mono ?_; rintro e w1 ⟨b0, bo, cm, gs, rfl, hLe, hb1⟩; have HLe := hide hLe; have HB1 := hide hb1; clear hLe hb1) | (go_at_call 18; refine (compile_ok (some ⟨b0, 0, none⟩) (ts.length + 8) ts w1 (unhide HLe).pats (unhide HC)).mono ?_; rintro e w2 ⟨bm, bt, be, g, S, rfl, hM, hge, hb2⟩; have HM := hide hM; have HGE := hide hge; have HB2 := hide hb2; clear hM hge hb2) | (go_at_call 19; refine (rcompile_ok (some a) cap ts w2 ((((unhide HS).below (unhide HB1) (Nat.le_refl _)).below (unhide HB2) (unhide HB1).size).up (Nat.le_trans (unhide HB1).size (unhide HB2).size)) (fun h => by cases h) (unhide HC)).mono ?_; rintro e w3 ⟨br, vL, gS, cS, R, rfl, hR, hRS, hgr, hb3⟩; have HR := hide hR; have HRS := hide hRS; have HGR := hide hgr; have HB3 := hide hb3; have HB23 := hide ((unhide HB2).trans (hb3.mono (unhide HB2).size)); clear hR hRS hgr hb3) | (go_at_call 20; refine (wholeLists_any a cap w.heap.size b0 bo cm gs ts w3 (((unhide HS).below (unhide HB1) (Nat.le_refl _)).below (unhide HB23) (unhide HB1).size) (by omega) (unhide HL) ((unhide HLe).kept (unhide HB23)).backs).mono ?_; rintro e w4 ⟨rfl, hb4⟩; have HMD : Hid (Made w w4 bm br ts S) := hide (made_of (unhide HB1) (unhide HM) (unhide HGE) (unhide HB2) (unhide HR) (unhide HRS) (unhide HGR) (unhide HB3) hb4.below (by_back (unhide HLe) hb4)); clear hb4 HM HGE HB2 HR HRS HGR HB3 HB1 HLe HLL HB23; have HW4 := hide ((unhide HW).below (unhide HMD).below); have HR4 := hide (RowSt.start (o := 0) (unhide HW4).blk rfl (unhide HW4).ms); have c4 := (unhide HR4).cell (by simp)) | (at_builtin; refine wpList_append_lies _ rfl (.tmp 60) (.tmp 64) 28 rfl 0 55 i0 (.agg #[.pointer none, .pointer none]) 2 16 Tryz.underlying28 hi hz0 hz1 hz2 rfl (by decide) _ M.length (pairCells M) rfl ((unhide HR4).ready #[.pointer (some ⟨bm, 0, none⟩), .pointer (some ⟨br, 0, none⟩)] w4.heap.size rfl).1 ⟨w4.heap.size, 0, none⟩ 1 1 [.pointer (some ⟨bm, 0, none⟩), .pointer (some ⟨br, 0, none⟩)] rfl rfl ((unhide HR4).ready #[.pointer (some ⟨bm, 0, none⟩), .pointer (some ⟨br, 0, none⟩)] w4.heap.size rfl).2 (by intro u hu; simp at hu; rcases hu with rfl | rfl <;> rfl) (by omega) (by unfold maxLen; omega) (by omega) (Nat.zero_le _) (w4.heap.size + 1) (by simp) ?_; intro g5 cg5 w5 ho5 hg5 hat5 hl5; obtain ⟨c5, f5⟩ := (unhide HR4).behind (by decide) (by simp) _ hg5; have HR5 := hide ((unhide HR4).step (by decide) #[.pointer (some ⟨bm, 0, none⟩), .pointer (some ⟨br, 0, none⟩)] w4.heap.size rfl ho5 hg5 hat5); clear ho5 hg5 hat5 hl5))
  go_ret
  obtain ⟨T', k1, k2⟩ := (unhide HMD).more (unhide HW) (unhide HC) (unhide HR5)
  exact ⟨rfl, T', ⟨bm, br, S, _, k1⟩, k2⟩

set_option maxHeartbeats 4000000 in
set_option maxRecDepth 100000 in
theorem compiled_nil (bw : Nat) (T : Nat → Nat) (M : List Ent) (vms vby vli : Value) (E F : List Sl) (mb : Nat → Nat) (w : World) (hW : LW w bw T M vms vby vli E F mb) (hMl : M.length < 900000000000) :
    Calls Tryz.prog 11 #[.pointer (some ⟨bw, 0, none⟩), .slice none 0 0] w fun e w' => e = .returned (.bool true) ∧ ∃ T' bm br S vms', LW w' bw T' (M ++ [⟨bm, br, [], S⟩]) vms' vby vli E F mb ∧ Fr T w w' T' := by
  obtain ⟨i0, hi, hz0, hz1, hz2⟩ := info_parts Tryz.infoP
  have hc : (chk []).1 = 0 := by decide
  have HLL := hide (lentLists_nil w)
  have HCO := hide (compile_ok none 0 [] w (fun h => absurd h (Nat.lt_irrefl _)) hc)
  have HRC : Hid (∀ W, _) := hide (fun W => rcompile_ok none 0 [] W (fun h => absurd h (Nat.lt_irrefl _)) (fun _ => rfl) hc)
  have HWL : Hid (∀ W, _) := hide (fun W => wholeLists_nil (.slice none 0 0) (.slice none 0 0) W)
  have HW := hide hW
  have HC := hide hc
  clear hW hc
  simp only [List.length_nil] at HCO HRC
  go_enter Tryz.func11, Tryz.ntmps11
  go_wp2_with (first | (go_at_call 17; refine (unhide HLL).mono ?_; rintro e w1 ⟨rfl, hw⟩; have hw' := hw.symm; clear hw; subst hw') | (go_at_call 18; refine (unhide HCO).mono ?_; rintro e w2 ⟨bm, bt, be, g, S, rfl, hM, hge, hb2⟩; have HM := hide hM; have HGE := hide hge; have HB2 := hide hb2; clear hM hge hb2) | (go_at_call 19; refine (unhide HRC w2).mono ?_; rintro e w3 ⟨br, vL, gS, cS, R, rfl, hR, hRS, hgr, hb3⟩; have HMD : Hid (Made w w3 bm br [] S) := hide (made_of (Below.refl _ _) (unhide HM) (unhide HGE) (unhide HB2) hR hRS hgr hb3 (Below.refl _ _) (fun _ _ _ => rfl)); clear hR hRS hgr hb3 HM HGE HB2; have HW4 := hide ((unhide HW).below (unhide HMD).below); have HR4 := hide (RowSt.start (o := 0) (unhide HW4).blk rfl (unhide HW4).ms); have c4 := (unhide HR4).cell (by simp)) | (go_at_call 20; refine (unhide HWL w3).mono ?_; rintro e w4 ⟨rfl, hw⟩; have hw' := hw.symm; clear hw; subst hw') | (at_builtin; refine wpList_append_lies _ rfl (.tmp 60) (.tmp 64) 28 rfl 0 55 i0 (.agg #[.pointer none, .pointer none]) 2 16 Tryz.underlying28 hi hz0 hz1 hz2 rfl (by decide) _ M.length (pairCells M) rfl ((unhide HR4).ready #[.pointer (some ⟨bm, 0, none⟩), .pointer (some ⟨br, 0, none⟩)] w3.heap.size rfl).1 ⟨w3.heap.size, 0, none⟩ 1 1 [.pointer (some ⟨bm, 0, none⟩), .pointer (some ⟨br, 0, none⟩)] rfl rfl ((unhide HR4).ready #[.pointer (some ⟨bm, 0, none⟩), .pointer (some ⟨br, 0, none⟩)] w3.heap.size rfl).2 (by intro u hu; simp at hu; rcases hu with rfl | rfl <;> rfl) (by omega) (by unfold maxLen; omega) (by omega) (Nat.zero_le _) (w3.heap.size + 1) (by simp) ?_; intro g5 cg5 w5 ho5 hg5 hat5 hl5; obtain ⟨c5, f5⟩ := (unhide HR4).behind (by decide) (by simp) _ hg5; have HR5 := hide ((unhide HR4).step (by decide) #[.pointer (some ⟨bm, 0, none⟩), .pointer (some ⟨br, 0, none⟩)] w3.heap.size rfl ho5 hg5 hat5); clear ho5 hg5 hat5 hl5))
  go_ret
  obtain ⟨T', k1, k2⟩ := (unhide HMD).more (unhide HW) (unhide HC) (unhide HR5)
  exact ⟨rfl, T', ⟨bm, br, S, _, k1⟩, k2⟩
end Go.Proofs.YthbbhpbkoankhaaGreat
