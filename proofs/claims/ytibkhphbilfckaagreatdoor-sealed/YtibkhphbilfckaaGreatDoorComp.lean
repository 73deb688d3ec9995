import Derived.Test.YtibkhphbilfckaaGreatDoorKeepsL
namespace Go.Proofs.YtibkhphbilfckaaGreatDoor
open Go.RowKit Scour Go.Lib

theorem Tryz.infoP : (Tryz.prog.info? 83).map (fun i => (i.zero, i.size, i.bytes)) = some (some (.agg #[.pointer none, .pointer none]), 2, 16) := by kernel_rfl

/-- Lists that are lent are patterns in memory. -/
theorem Lents.pats {w : World} {base b0 : Nat} {vm : Value} {gs : Nat → Nat} {ts : List Str} (h : Lents w base b0 vm gs ts (ts.length + 8)) : PatsIn w w.heap.size (some ⟨b0, 0, none⟩) ts := by
  intro _
  obtain ⟨cur, hcur⟩ := owns_blk h.row
  refine ⟨b0, 0, (Array.getElem?_eq_some_iff.1 hcur).1, rfl, fun i hi => ?_⟩
  refine ⟨some ⟨gs i, 0, none⟩, bc ts i, ?_, ?_⟩
  · rw [Nat.zero_add, h.row.cellAt i (by omega), outsF_get _ _ _ _ _ (by rw [bs_len]; omega), if_pos (by omega), bs_low ts i hi]
  · have he := h.each i (by omega)
    rw [bs_low ts i hi] at he
    exact fun _ => ⟨gs i, 0, (Array.getElem?_eq_some_iff.1 he).1, rfl, fun j hj => by
      rw [Nat.zero_add, cell_of_blk he]; simp only [List.getElem?_toArray]; exact lentL_low _ j hj⟩

theorem TxtIn.up {w : World} {B B' : Nat} {ap : Option Addr} {ps : List Str} (h : TxtIn w B ap ps) (hB : B ≤ B') : TxtIn w B' ap ps := fun h0 => by
  obtain ⟨b, o, hb, e, hh⟩ := h h0
  exact ⟨b, o, by omega, e, hh⟩

/-- The tags behind one machine more. -/
def tagsM (T : Nat → Nat) (w : World) (L : List Nat) (v' : Value) : Nat → Nat := fun k =>
  if k < w.heap.size then (if k ∈ L then 1 else T k) else if v'.ownBlock = some k then 3 else 9

/-- One machine more. -/
theorem LW.machine {w w' : World} {bw : Nat} {T : Nat → Nat} {M : List Ent} {vms vby vli vms' : Value} {E F : List Sl} {mb : Nat → Nat} {bm br bt be : Nat} {g : List Nat} {gS cS : Nat} {ps S : List Str} {vL : Value} {L : List Nat}
    (h : LW w bw T M vms vby vli E F mb) (hM : Mach w bm bt be g ps S) (hR : RMach w br vL gS cS ps S) (hc : (chk ps).1 = 0)
    (hL : ∀ k, k ∈ L → T k = 9) (hm : bm ∈ L ∧ bt ∈ L ∧ be ∈ L ∧ (∀ k, k ∈ g → k ∈ L) ∧ br ∈ L ∧ gS ∈ L ∧ ∀ b, vL.ownBlock = some b → b ∈ L)
    (hst : RowSt w w' bw 0 #[vms, .slice none 0 0, vby, vli, .slice none 0 0] 51 83 2 vms vms' (M.length + 1) (pairCells M ++ [.pointer (some ⟨bm, 0, none⟩), .pointer (some ⟨br, 0, none⟩)])) :
    LW w' bw (tagsM T w L vms') (M ++ [⟨bm, br, ps, S⟩]) vms' vby vli E F mb ∧ Fr T w w' (tagsM T w L vms') := by
  have hbl := (Array.getElem?_eq_some_iff.1 h.blk).1
  have hsz := hst.size
  have hold : ∀ k, k < w.heap.size → T k ≠ 2 → T k ≠ 3 → w'.heap[k]? = w.heap[k]? := fun k hl h2 h3 => hst.frame k hl (fun e => h2 (by rw [e]; exact h.tbw)) (fun e => h3 (h.msown k e))
  have hTo : ∀ k, k < w.heap.size → T k ≠ 9 → tagsM T w L vms' k = T k := fun k hl h9 => by
    unfold tagsM; rw [if_pos hl, if_neg (fun e => h9 (hL k e))]
  have hTn : ∀ k, k < w.heap.size → k ∈ L → tagsM T w L vms' k = 1 := fun k hl hk => by
    unfold tagsM; rw [if_pos hl, if_pos hk]
  have hLo : ∀ k, k < w.heap.size → k ∈ L → w'.heap[k]? = w.heap[k]? := fun k hl hk => hold k hl (by rw [hL k hk]; decide) (by rw [hL k hk]; decide)
  obtain ⟨m1, m2, m3, m4, m5, m6, m7⟩ := hm
  obtain ⟨l1, l2, l3, l4⟩ := hM.lts
  have lbr := (Array.getElem?_eq_some_iff.1 hR.blk).1
  obtain ⟨cur, hcur⟩ := owns_blk hR.srow
  have lgS := (Array.getElem?_eq_some_iff.1 hcur).1
  refine ⟨⟨?_, ?_, ?_, ?_, ?_, ?_, ?_, ?_⟩, hst.os, hst.tape, hst.output, hsz, fun k hk h0 => ⟨hold k hk (by omega) (by omega), by rw [hTo k hk (by omega)]; exact h0⟩⟩
  · exact hst.blk
  · rw [hTo bw hbl (by rw [h.tbw]; decide)]; exact h.tbw
  · have := hst.row
    rw [show (M ++ [(⟨bm, br, ps, S⟩ : Ent)]).length = M.length + 1 by simp, show pairCells (M ++ [(⟨bm, br, ps, S⟩ : Ent)]) = pairCells M ++ [.pointer (some ⟨bm, 0, none⟩), .pointer (some ⟨br, 0, none⟩)] by simp [pairCells]]
    exact this
  · intro b hb
    rcases hst.lies with e | e
    · have h3 := h.msown b (e ▸ hb)
      obtain ⟨cur, hc⟩ := owns_block h.ms (e ▸ hb)
      rw [hTo b (Array.getElem?_eq_some_iff.1 hc).1 (by rw [h3]; decide)]; exact h3
    · have := e b hb
      unfold tagsM
      rw [if_neg (by omega), if_pos hb]
  · intro e he
    rcases List.mem_append.1 he with he | he
    · exact (h.ents e he).same hsz (fun k hl ht => hold k hl (by rw [ht]; decide) (by rw [ht]; decide)) (fun k hl ht => by rw [hTo k hl (by rw [ht]; decide)]; exact ht)
    · obtain rfl : e = ⟨bm, br, ps, S⟩ := by simpa using he
      refine ⟨⟨bt, be, g, hM.same hsz ?_, hTn _ l1 m1, hTn _ l2 m2, hTn _ l3 m3, fun k hk => hTn k (l4 k hk) (m4 k hk)⟩, ⟨vL, gS, cS, hR.same ?_, hTn _ lbr m5, hTn _ lgS m6, ?_⟩, hc⟩
      · rintro k (rfl | rfl | rfl | hg)
        · exact hLo _ l1 m1
        · exact hLo _ l2 m2
        · exact hLo _ l3 m3
        · exact hLo _ (l4 k hg) (m4 k hg)
      · rintro k hl (rfl | rfl | hv)
        · exact hLo _ hl m5
        · exact hLo _ hl m6
        · exact hLo _ hl (m7 k hv)
      · intro b hb
        obtain ⟨cur, hc⟩ := owns_block hR.lrow hb
        exact hTn b (Array.getElem?_eq_some_iff.1 hc).1 (m7 b hb)
  · refine h.bytes.same (fun k hl ht => ?_) (fun k hl ht => ?_)
    · refine hold k hl ?_ ?_ <;> rcases ht with ht | ⟨i, ht⟩ <;> rw [ht] <;> first | decide | (unfold btag; omega)
    · refine hTo k hl ?_
      rcases ht with ht | ⟨i, ht⟩ <;> rw [ht] <;> first | decide | (unfold btag; omega)
  · refine h.lists.same (fun k hl ht => ?_) (fun k hl ht => ?_)
    · refine hold k hl ?_ ?_ <;> rcases ht with ht | ⟨i, ht⟩ <;> rw [ht] <;> first | decide | (unfold ltag; omega)
    · refine hTo k hl ?_
      rcases ht with ht | ⟨i, ht⟩ <;> rw [ht] <;> first | decide | (unfold ltag; omega)
  · intro k hl
    have hv : vms'.ownBlock ≠ some k := fun e => by
      obtain ⟨cur, hc⟩ := owns_block hst.row e
      have := (Array.getElem?_eq_some_iff.1 hc).1
      omega
    unfold tagsM
    rw [if_neg (by omega), if_neg hv]

/-- Lists are lent, both machines are made, the lists are given back: what is left in memory. -/
structure Made (w w4 : World) (bm br : Nat) (ps S : List Str) : Prop where
  below : Below w.heap.size w w4
  mach : ∃ bt be g, Mach w4 bm bt be g ps S ∧ w.heap.size ≤ bm ∧ w.heap.size ≤ bt ∧ w.heap.size ≤ be ∧ ∀ k, k ∈ g → w.heap.size ≤ k
  rmach : ∃ vL gS cS, RMach w4 br vL gS cS ps S ∧ w.heap.size ≤ br ∧ w.heap.size ≤ gS ∧ ∀ b, vL.ownBlock = some b → w.heap.size ≤ b

theorem mach_states {w : World} {bm bt be : Nat} {g : List Nat} {ps S R : List Str} (hM : Mach w bm bt be g ps S) (hR : RS ps ps.length 1 R) : R = S := by
  obtain ⟨_, cap, par, lst, E, hT, hS, _⟩ := hM.ex
  exact hR.states hS hT.rep

theorem made_of {w w1 w2 w3 w4 : World} {bm bt be : Nat} {g : List Nat} {br gS cS : Nat} {vL : Value} {ps S R : List Str} (h1 : Below w.heap.size w w1) (hM : Mach w2 bm bt be g ps S) (hge : w1.heap.size ≤ bm ∧ w1.heap.size ≤ bt ∧ w1.heap.size ≤ be ∧ ∀ k, k ∈ g → w1.heap.size ≤ k) (h2 : Below w1.heap.size w1 w2)
    (hR : RMach w3 br vL gS cS ps R) (hRS : RS ps ps.length 1 R) (hgr : w2.heap.size ≤ br ∧ w2.heap.size ≤ gS ∧ ∀ b, vL.ownBlock = some b → w2.heap.size ≤ b) (h3 : Below w2.heap.size w2 w3) (h4 : Below w.heap.size w3 w4) (hk : ∀ k, w1.heap.size ≤ k → k < w3.heap.size → w4.heap[k]? = w3.heap[k]?) : Made w w4 bm br ps S := by
  have s1 := h1.size
  have s2 := h2.size
  have s3 := h3.size
  obtain rfl := mach_states hM hRS
  obtain ⟨a1, a2, a3, a4⟩ := hge
  obtain ⟨b1, b2, b3⟩ := hgr
  have hM3 := hM.below h3
  obtain ⟨l1, l2, l3, l4⟩ := hM3.lts
  refine ⟨h1.trans ((h2.mono s1).trans ((h3.mono (by omega)).trans h4)), ⟨bt, be, g, hM3.same h4.size ?_, by omega, by omega, by omega, fun k hk => by have := a4 k hk; omega⟩, ⟨vL, gS, cS, hR.same ?_, by omega, by omega, fun b hb => by have := b3 b hb; omega⟩⟩
  · rintro k (rfl | rfl | rfl | hg)
    · exact hk _ a1 l1
    · exact hk _ a2 l2
    · exact hk _ a3 l3
    · exact hk _ (a4 k hg) (l4 k hg)
  · rintro k hl (rfl | rfl | hv)
    · exact hk _ (by omega) hl
    · exact hk _ (by omega) hl
    · exact hk _ (by have := b3 k hv; omega) hl

theorem by_back {w1 w3 w4 : World} {base b0 : Nat} {vm : Value} {gs : Nat → Nat} {ts : List Str} (h : Lents w1 base b0 vm gs ts (ts.length + 8)) (hb : BackB base b0 gs (ts.length + 8) w3 w4) : ∀ k, w1.heap.size ≤ k → k < w3.heap.size → w4.heap[k]? = w3.heap[k]? := by
  intro k h1 h2
  obtain ⟨cur, hcur⟩ := owns_blk h.row
  have l0 := (Array.getElem?_eq_some_iff.1 hcur).1
  exact hb.only k h2 (by omega) (fun i hi e => by
    have := (Array.getElem?_eq_some_iff.1 (h.each i hi)).1
    omega)

theorem Made.more {w w4 w' : World} {bw : Nat} {T : Nat → Nat} {M : List Ent} {vms vby vli vms' : Value} {E F : List Sl} {mb : Nat → Nat} {bm br : Nat} {ps S : List Str} (h : Made w w4 bm br ps S) (hW : LW w bw T M vms vby vli E F mb) (hc : (chk ps).1 = 0)
    (hst : RowSt w4 w' bw 0 #[vms, .slice none 0 0, vby, vli, .slice none 0 0] 51 83 2 vms vms' (M.length + 1) (pairCells M ++ [.pointer (some ⟨bm, 0, none⟩), .pointer (some ⟨br, 0, none⟩)])) :
    ∃ T', LW w' bw T' (M ++ [⟨bm, br, ps, S⟩]) vms' vby vli E F mb ∧ Fr T w w' T' := by
  obtain ⟨bt, be, g, hM, a1, a2, a3, a4⟩ := h.mach
  obtain ⟨vL, gS, cS, hR, b1, b2, b3⟩ := h.rmach
  have h4 := hW.below h.below
  have hf := hW.fresh
  obtain ⟨L1, hL1⟩ : ∃ L1 : List Nat, L1 = vL.ownBlock.toList := ⟨_, rfl⟩
  have hmem : ∀ b, b ∈ L1 ↔ vL.ownBlock = some b := fun b => by rw [hL1]; simp
  obtain ⟨c1, c2⟩ := h4.machine (L := bm :: bt :: be :: br :: gS :: (g ++ L1)) hM hR hc (fun k hk => by
    refine hf k ?_
    simp only [List.mem_cons, List.mem_append] at hk
    rcases hk with rfl | rfl | rfl | rfl | rfl | hk | hk
    · exact a1
    · exact a2
    · exact a3
    · exact b1
    · exact b2
    · exact a4 k hk
    · exact b3 k ((hmem k).1 hk)) ⟨by simp, by simp, by simp, fun k hk => by simp [hk], by simp, by simp, fun b hb => by simp [(hmem b).2 hb]⟩ hst
  exact ⟨_, c1, (fr_below h.below).trans c2⟩
end Go.Proofs.YtibkhphbilfckaaGreatDoor

namespace Go.Proofs.YtibkhphbilfckaaGreatDoor
open Go.RowKit Scour Go.Lib

set_option maxHeartbeats 4000000 in
set_option maxRecDepth 100000 in
theorem compiled_bad (bw : Nat) (T : Nat → Nat) (M : List Ent) (vms vby vli : Value) (E F : List Sl) (mb : Nat → Nat) (a : Addr) (cap : Nat) (ts : List Str) (w : World) (hW : LW w bw T M vms vby vli E F mb) (hS : TxtIn w w.heap.size (some a) ts)
    (hn : ts.length ≤ 2000000) (hl : ∀ i, i < ts.length → (pat ts i).length < 100000000) (hc : (chk ts).1 ≠ 0) :
    Calls Tryz.prog 28 #[.pointer (some ⟨bw, 0, none⟩), .slice (some a) ts.length cap] w fun e w' => e = .returned (.bool true) ∧ LW w' bw T M vms vby vli E F mb ∧ Fr T w w' T := by
  have HLL := hide (lentLists_any a cap ts w hS hn hl)
  have HS := hide hS
  have HL := hide hl
  have HL2 : Hid (∀ i, i < ts.length → (pat ts i).length ≤ 9000000000000000000) := hide (fun i hi => by have := hl i hi; omega)
  have HW := hide hW
  have HC := hide hc
  clear hS hl hW hc
  obtain ⟨e1, e2, he⟩ : ∃ e1 e2, chk ts = (e1, e2) := ⟨_, _, rfl⟩
  have HE := hide he
  clear he
  go_enter Tryz.func28, Tryz.ntmps28
  go_wp2_with (first | (go_at_call 51; refine (unhide HLL).mono ?_; rintro e w1 ⟨b0, bm, cm, gs, rfl, hLe, hb1⟩; have HLe := hide hLe; have HB1 := hide hb1; clear hLe hb1) | (go_at_call 21; have HK := compile_bad (some ⟨b0, 0, none⟩) (ts.length + 8) w1.heap.size ts w1 (unhide HLe).pats (by omega) (unhide HL2) (unhide HC); rw [unhide HE] at HK; refine HK.mono ?_; clear HK; rintro e w' ⟨rfl, hw⟩; have hw' := hw.symm; clear hw; subst hw') | (go_at_call 52; have HK := rcompile_bad (some a) cap ts w1 (((unhide HS).below (unhide HB1) (Nat.le_refl _)).up (unhide HB1).size) (by omega) (unhide HL2) (unhide HC); rw [unhide HE] at HK; refine HK.mono ?_; clear HK; rintro e w' ⟨rfl, hw⟩; have hw' := hw.symm; clear hw; subst hw') | (go_at_call 53; refine (wholeLists_any a cap w.heap.size b0 bm cm gs ts w1 ((unhide HS).below (unhide HB1) (Nat.le_refl _)) hn (unhide HL) (unhide HLe).backs).mono ?_; rintro e w4 ⟨rfl, hb4⟩; have HB4 := hide hb4.below; clear hb4))
  go_ret
  have hb := (unhide HB1).trans (unhide HB4)
  exact ⟨rfl, (unhide HW).below hb, fr_below hb⟩

set_option maxHeartbeats 4000000 in
set_option maxRecDepth 100000 in
theorem compiled_ok (bw : Nat) (T : Nat → Nat) (M : List Ent) (vms vby vli : Value) (E F : List Sl) (mb : Nat → Nat) (a : Addr) (cap : Nat) (ts : List Str) (w : World) (hW : LW w bw T M vms vby vli E F mb) (hS : TxtIn w w.heap.size (some a) ts)
    (hc : (chk ts).1 = 0) (hMl : M.length < 900000000000) :
    Calls Tryz.prog 28 #[.pointer (some ⟨bw, 0, none⟩), .slice (some a) ts.length cap] w fun e w' => e = .returned (.bool true) ∧ ∃ T' bm br S vms', LW w' bw T' (M ++ [⟨bm, br, ts, S⟩]) vms' vby vli E F mb ∧ Fr T w w' T' := by
  obtain ⟨h64, hlen, hch⟩ := chk_ok hc
  have hl : ∀ i, i < ts.length → (pat ts i).length < 100000000 := fun i hi => by have := hlen i hi; omega
  obtain ⟨i0, hi, hz0, hz1, hz2⟩ := info_parts Tryz.infoP
  have HLL := hide (lentLists_any a cap ts w hS (by omega) hl)
  have HS := hide hS
  have HL := hide hl
  have HW := hide hW
  have HC := hide hc
  clear hS hl hW hc hlen hch
  go_enter Tryz.func28, Tryz.ntmps28
  go_wp2_with (first | (go_at_call 51; refine (unhide HLL).mono ?_; rintro e w1 ⟨b0, bo, cm, gs, rfl, hLe, hb1⟩; have HLe := hide hLe; have HB1 := hide hb1; clear hLe hb1) | (go_at_call 21; refine (compile_ok (some ⟨b0, 0, none⟩) (ts.length + 8) ts w1 (unhide HLe).pats (unhide HC)).mono ?_; rintro e w2 ⟨bm, bt, be, g, S, rfl, hM, hge, hb2⟩; have HM := hide hM; have HGE := hide hge; have HB2 := hide hb2; clear hM hge hb2) | (go_at_call 52; refine (rcompile_ok (some a) cap ts w2 ((((unhide HS).below (unhide HB1) (Nat.le_refl _)).below (unhide HB2) (unhide HB1).size).up (Nat.le_trans (unhide HB1).size (unhide HB2).size)) (fun h => by cases h) (unhide HC)).mono ?_; rintro e w3 ⟨br, vL, gS, cS, R, rfl, hR, hRS, hgr, hb3⟩; have HR := hide hR; have HRS := hide hRS; have HGR := hide hgr; have HB3 := hide hb3; have HB23 := hide ((unhide HB2).trans (hb3.mono (unhide HB2).size)); clear hR hRS hgr hb3) | (go_at_call 53; refine (wholeLists_any a cap w.heap.size b0 bo cm gs ts w3 (((unhide HS).below (unhide HB1) (Nat.le_refl _)).below (unhide HB23) (unhide HB1).size) (by omega) (unhide HL) ((unhide HLe).kept (unhide HB23)).backs).mono ?_; rintro e w4 ⟨rfl, hb4⟩; have HMD : Hid (Made w w4 bm br ts S) := hide (made_of (unhide HB1) (unhide HM) (unhide HGE) (unhide HB2) (unhide HR) (unhide HRS) (unhide HGR) (unhide HB3) hb4.below (by_back (unhide HLe) hb4)); clear hb4 HM HGE HB2 HR HRS HGR HB3 HB1 HLe HLL HB23; have HW4 := hide ((unhide HW).below (unhide HMD).below); have HR4 := hide (RowSt.start (o := 0) (unhide HW4).blk rfl (unhide HW4).ms); have c4 := (unhide HR4).cell (by simp)) | (at_builtin; refine wpList_append_lies _ rfl (.tmp 60) (.tmp 64) 44 rfl 0 83 i0 (.agg #[.pointer none, .pointer none]) 2 16 Tryz.underlying44 hi hz0 hz1 hz2 rfl (by decide) _ M.length (pairCells M) rfl ((unhide HR4).ready #[.pointer (some ⟨bm, 0, none⟩), .pointer (some ⟨br, 0, none⟩)] w4.heap.size rfl).1 ⟨w4.heap.size, 0, none⟩ 1 1 [.pointer (some ⟨bm, 0, none⟩), .pointer (some ⟨br, 0, none⟩)] rfl rfl ((unhide HR4).ready #[.pointer (some ⟨bm, 0, none⟩), .pointer (some ⟨br, 0, none⟩)] w4.heap.size rfl).2 (by intro u hu; simp at hu; rcases hu with rfl | rfl <;> rfl) (by omega) (by unfold maxLen; omega) (by omega) (Nat.zero_le _) (w4.heap.size + 1) (by simp) ?_; intro g5 cg5 w5 ho5 hg5 hat5 hl5; obtain ⟨c5, f5⟩ := (unhide HR4).behind (by decide) (by simp) _ hg5; have HR5 := hide ((unhide HR4).step (by decide) #[.pointer (some ⟨bm, 0, none⟩), .pointer (some ⟨br, 0, none⟩)] w4.heap.size rfl ho5 hg5 hat5); clear ho5 hg5 hat5 hl5))
  go_ret
  obtain ⟨T', k1, k2⟩ := (unhide HMD).more (unhide HW) (unhide HC) (unhide HR5)
  exact ⟨rfl, T', ⟨bm, br, S, _, k1⟩, k2⟩

set_option maxHeartbeats 4000000 in
set_option maxRecDepth 100000 in
theorem compiled_nil (bw : Nat) (T : Nat → Nat) (M : List Ent) (vms vby vli : Value) (E F : List Sl) (mb : Nat → Nat) (w : World) (hW : LW w bw T M vms vby vli E F mb) (hMl : M.length < 900000000000) :
    Calls Tryz.prog 28 #[.pointer (some ⟨bw, 0, none⟩), .slice none 0 0] w fun e w' => e = .returned (.bool true) ∧ ∃ T' bm br S vms', LW w' bw T' (M ++ [⟨bm, br, [], S⟩]) vms' vby vli E F mb ∧ Fr T w w' T' := by
  obtain ⟨i0, hi, hz0, hz1, hz2⟩ := info_parts Tryz.infoP
  have hc : (chk []).1 = 0 := by decide
  have HLL := hide (lentLists_nil w)
  have HCO := hide (compile_ok none 0 [] w (fun h => absurd h (Nat.lt_irrefl _)) hc)
  have HRC : Hid (∀ W, _) := hide (fun W => rcompile_ok none 0 [] W (fun h => absurd h (Nat.lt_irrefl _)) (fun _ => rfl) hc)
  have HWL : Hid (∀ W, _) := hide (fun W => wholeLists_nil (.slice none 0 0) (.slice none 0 0) W)
  have HW := hide hW
  have HC := hide hc
  clear hW hc
  simp only [List.length_nil] at HCO HRC
  go_enter Tryz.func28, Tryz.ntmps28
  go_wp2_with (first | (go_at_call 51; refine (unhide HLL).mono ?_; rintro e w1 ⟨rfl, hw⟩; have hw' := hw.symm; clear hw; subst hw') | (go_at_call 21; refine (unhide HCO).mono ?_; rintro e w2 ⟨bm, bt, be, g, S, rfl, hM, hge, hb2⟩; have HM := hide hM; have HGE := hide hge; have HB2 := hide hb2; clear hM hge hb2) | (go_at_call 52; refine (unhide HRC w2).mono ?_; rintro e w3 ⟨br, vL, gS, cS, R, rfl, hR, hRS, hgr, hb3⟩; have HMD : Hid (Made w w3 bm br [] S) := hide (made_of (Below.refl _ _) (unhide HM) (unhide HGE) (unhide HB2) hR hRS hgr hb3 (Below.refl _ _) (fun _ _ _ => rfl)); clear hR hRS hgr hb3 HM HGE HB2; have HW4 := hide ((unhide HW).below (unhide HMD).below); have HR4 := hide (RowSt.start (o := 0) (unhide HW4).blk rfl (unhide HW4).ms); have c4 := (unhide HR4).cell (by simp)) | (go_at_call 53; refine (unhide HWL w3).mono ?_; rintro e w4 ⟨rfl, hw⟩; have hw' := hw.symm; clear hw; subst hw') | (at_builtin; refine wpList_append_lies _ rfl (.tmp 60) (.tmp 64) 44 rfl 0 83 i0 (.agg #[.pointer none, .pointer none]) 2 16 Tryz.underlying44 hi hz0 hz1 hz2 rfl (by decide) _ M.length (pairCells M) rfl ((unhide HR4).ready #[.pointer (some ⟨bm, 0, none⟩), .pointer (some ⟨br, 0, none⟩)] w3.heap.size rfl).1 ⟨w3.heap.size, 0, none⟩ 1 1 [.pointer (some ⟨bm, 0, none⟩), .pointer (some ⟨br, 0, none⟩)] rfl rfl ((unhide HR4).ready #[.pointer (some ⟨bm, 0, none⟩), .pointer (some ⟨br, 0, none⟩)] w3.heap.size rfl).2 (by intro u hu; simp at hu; rcases hu with rfl | rfl <;> rfl) (by omega) (by unfold maxLen; omega) (by omega) (Nat.zero_le _) (w3.heap.size + 1) (by simp) ?_; intro g5 cg5 w5 ho5 hg5 hat5 hl5; obtain ⟨c5, f5⟩ := (unhide HR4).behind (by decide) (by simp) _ hg5; have HR5 := hide ((unhide HR4).step (by decide) #[.pointer (some ⟨bm, 0, none⟩), .pointer (some ⟨br, 0, none⟩)] w3.heap.size rfl ho5 hg5 hat5); clear ho5 hg5 hat5 hl5))
  go_ret
  obtain ⟨T', k1, k2⟩ := (unhide HMD).more (unhide HW) (unhide HC) (unhide HR5)
  exact ⟨rfl, T', ⟨bm, br, S, _, k1⟩, k2⟩
end Go.Proofs.YtibkhphbilfckaaGreatDoor

namespace Go.Proofs.YtibkhphbilfckaaGreatDoor
open Go.RowKit Scour Go.Lib

theorem below_two (w : World) (o1 o2 : Obj) : Below w.heap.size w ((w.alloc o1).alloc o2) := ((Below.refl _ _).alloc (Nat.le_refl _) _).alloc (by simp) _

theorem mach_short {w : World} {bm bt be : Nat} {g : List Nat} {ps S : List Str} (hM : Mach w bm bt be g ps S) (hc : (chk ps).1 = 0) {k : Nat} (hk : k < S.length) : (at' S k).length < 1000 := by
  obtain ⟨_, cap, par, lst, E, hT, hS, _⟩ := hM.ex
  obtain ⟨_, hlen, _⟩ := chk_ok hc
  rcases (hS.mem _).1 (at_mem hk) with h | ⟨i, hi, _, h2, _⟩
  · rw [h]; decide
  · have := hlen i hi; omega

/-- The program's Next and the document's answer the same. -/
theorem nexts {w : World} {bm bt be : Nat} {g : List Nat} {br gS cS : Nat} {vL : Value} {ps S : List Str} (hM : Mach w bm bt be g ps S) (hR : RMach w br vL gS cS ps S) (hc : (chk ps).1 = 0) (n : Int) (b : UInt8) :
    ∃ x y : Int, (∀ W, Below w.heap.size w W → Calls Tryz.prog 61 #[.pointer (some ⟨bm, 0, none⟩), .int .i64 n, .int .u8 b.toNat] W fun e w' => e = .returned (.tuple #[.int .i64 x, .int .i64 y]) ∧ Below W.heap.size W w') ∧
      ∀ W, Below w.heap.size w W → Calls Tryz.prog 62 #[.pointer (some ⟨br, 0, none⟩), .int .i64 n, .int .u8 b.toNat] W fun e w' => e = .returned (.tuple #[.int .i64 x, .int .i64 y]) ∧ Below W.heap.size W w' := by
  by_cases h0 : n < 0
  · refine ⟨0, 1, fun W hb => (mnext_low _ _ n W h0).mono ?_, fun W hb => (rNext_low _ n _ W h0).mono ?_⟩ <;> (rintro e w' ⟨rfl, rfl⟩; exact ⟨rfl, Below.refl _ _⟩)
  · by_cases h1 : (S.length : Int) ≤ n
    · refine ⟨0, 1, fun W hb => (mnext_high bm bt be g ps S W (hM.below hb) n _ h1).mono ?_, fun W hb => (rNext_high br gS cS vL ps S n _ W (hR.below hb) h1).mono ?_⟩ <;> (rintro e w' ⟨rfl, rfl⟩; exact ⟨rfl, Below.refl _ _⟩)
    · obtain ⟨k, rfl⟩ : ∃ k : Nat, n = k := ⟨n.toNat, by omega⟩
      exact ⟨_, 0, fun W hb => mnext_in bm bt be g ps S W (hM.below hb) k b (by omega), fun W hb => rNext_in br gS cS vL ps S k b W (hR.below hb) (by omega) (mach_short hM hc (by omega))⟩

set_option maxHeartbeats 2000000 in
set_option maxRecDepth 100000 in
theorem asked_states (vw vl : Value) (a b : Int) (s : ByteArray) (bm bt be : Nat) (g : List Nat) (br gS cS : Nat) (vL : Value) (ps S : List Str) (w : World) (hM : Mach w bm bt be g ps S) (hR : RMach w br vL gS cS ps S) :
    Calls Tryz.prog 32 #[vw, .agg #[.pointer (some ⟨bm, 0, none⟩), .pointer (some ⟨br, 0, none⟩)], .agg #[.int .i64 3, .int .i64 a, .int .i64 b, .string s, vl]] w fun e w' => e = .returned (.bool true) ∧ Below w.heap.size w w' := by
  have lbr := (Array.getElem?_eq_some_iff.1 hR.blk).1
  have cr : w.cell? ⟨br, 1, none⟩ = some (.slice (some ⟨gS, 0, none⟩) S.length cS) := by rw [cell_of_blk hR.blk]; rfl
  have cb : ∀ o1 o2, ((w.alloc o1).alloc o2).cell? ⟨br, 1, none⟩ = some (.slice (some ⟨gS, 0, none⟩) S.length cS) := fun o1 o2 => ((below_two w o1 o2).cell (p := ⟨br, 1, none⟩) lbr).trans cr
  have HST : Hid (∀ W, Below w.heap.size w W → Calls Tryz.prog 13 #[.pointer (some ⟨bm, 0, none⟩)] W fun e w' => e = .returned (.int .i64 S.length) ∧ w' = W) := hide (fun W hb => states_any _ _ _ _ _ _ W (hM.below hb))
  clear hM hR
  go_enter Tryz.func32, Tryz.ntmps32
  go_wp2_with (go_at_call 13; refine (unhide HST _ (below_two w _ _)).mono ?_; rintro e w' ⟨rfl, hw⟩; have hw' := hw.symm; clear hw; subst hw')
  go_ret
  exact ⟨rfl, below_two w _ _⟩

set_option maxHeartbeats 2000000 in
set_option maxRecDepth 100000 in
theorem asked_next (vw vl : Value) (a b : Int) (s : ByteArray) (bm bt be : Nat) (g : List Nat) (br gS cS : Nat) (vL : Value) (ps S : List Str) (w : World) (hM : Mach w bm bt be g ps S) (hR : RMach w br vL gS cS ps S) (hc : (chk ps).1 = 0) (hs : s.size < 1000000000000) :
    Calls Tryz.prog 32 #[vw, .agg #[.pointer (some ⟨bm, 0, none⟩), .pointer (some ⟨br, 0, none⟩)], .agg #[.int .i64 4, .int .i64 a, .int .i64 b, .string s, vl]] w fun e w' => e = .returned (.bool true) ∧ Below w.heap.size w w' := by
  by_cases h0 : 0 < s.size
  · obtain ⟨x, y, h1, h2⟩ := nexts hM hR hc b s[0]
    have H1 := hide h1
    have H2 := hide h2
    clear h1 h2 hM hR hc
    go_enter Tryz.func32, Tryz.ntmps32
    go_wp2_with (first | (go_at_call 61; refine (unhide H1 _ (below_two w _ _)).mono ?_; rintro e w1 ⟨rfl, hb1⟩; have HB1 : Hid (Below w.heap.size w w1) := hide ((below_two w _ _).trans (hb1.mono (below_two w _ _).size)); have c1 := hb1.cell (p := ⟨w.heap.size, 1, none⟩) (by simp only [World.alloc, Array.size_push]; omega); have c2 := hb1.cell (p := ⟨w.heap.size + 1, 2, none⟩) (by simp only [World.alloc, Array.size_push]; omega); clear hb1) | (go_at_call 62; refine (unhide H2 _ (unhide HB1)).mono ?_; rintro e w2 ⟨rfl, hb2⟩; have HB2 := hide ((unhide HB1).trans (hb2.mono (unhide HB1).size)); clear hb2))
    go_ret
    exact ⟨rfl, unhide HB2⟩
  · obtain ⟨x, y, h1, h2⟩ := nexts hM hR hc b 0
    have e0 : s.size = 0 := by omega
    have H1 := hide h1
    have H2 := hide h2
    clear h1 h2 hM hR hc
    go_enter Tryz.func32, Tryz.ntmps32
    go_wp2_with (first | (go_at_call 61; refine (unhide H1 _ (below_two w _ _)).mono ?_; rintro e w1 ⟨rfl, hb1⟩; have HB1 : Hid (Below w.heap.size w w1) := hide ((below_two w _ _).trans (hb1.mono (below_two w _ _).size)); have c1 := hb1.cell (p := ⟨w.heap.size, 1, none⟩) (by simp only [World.alloc, Array.size_push]; omega); have c2 := hb1.cell (p := ⟨w.heap.size + 1, 2, none⟩) (by simp only [World.alloc, Array.size_push]; omega); clear hb1) | (go_at_call 62; refine (unhide H2 _ (unhide HB1)).mono ?_; rintro e w2 ⟨rfl, hb2⟩; have HB2 := hide ((unhide HB1).trans (hb2.mono (unhide HB1).size)); clear hb2))
    go_ret
    exact ⟨rfl, unhide HB2⟩
end Go.Proofs.YtibkhphbilfckaaGreatDoor

namespace Go.Proofs.YtibkhphbilfckaaGreatDoor
open Go.RowKit Scour Go.Lib

theorem Outs.free {w1 : World} {B b0 : Nat} {gs cs : Nat → Nat} {ps : List Str} {T : Nat → Nat} {n : Nat} (hO : Outs w1 B b0 gs cs ps ps.length) (hB : n ≤ B) (hT : ∀ k, n ≤ k → T k = 9) : Free w1 T b0 ps.length gs cs ps 0 :=
  ⟨owns_zero hO.row, hT _ (Nat.le_trans hB (owns_base hO.row)), fun i _ hi => owns_zero (hO.each i hi), fun i _ hi => hT _ (Nat.le_trans hB (owns_base (hO.each i hi))), hO.apart⟩

set_option maxHeartbeats 4000000 in
set_option maxRecDepth 100000 in
theorem asked_patterns (bw : Nat) (T : Nat → Nat) (M : List Ent) (vms vby vli : Value) (E F : List Sl) (mb : Nat → Nat) (vl : Value) (a b : Int) (s : ByteArray) (bm bt be : Nat) (g : List Nat) (br gS cS : Nat) (vL : Value) (ps S : List Str) (w : World) (hW : LW w bw T M vms vby vli E F mb) (hM : Mach w bm bt be g ps S) (hR : RMach w br vL gS cS ps S) (hc : (chk ps).1 = 0)
    (hE : E.length < 900000000000) (hF : F.length < 900000000000) :
    Calls Tryz.prog 32 #[.pointer (some ⟨bw, 0, none⟩), .agg #[.pointer (some ⟨bm, 0, none⟩), .pointer (some ⟨br, 0, none⟩)], .agg #[.int .i64 2, .int .i64 a, .int .i64 b, .string s, vl]] w fun e w' => e = .returned (.bool true) ∧ ∃ T' vby' vli' E' F' mb', LW w' bw T' M vms vby' vli' E' F' mb' ∧ Fr T w w' T' ∧ E'.length = E.length + 4 * ps.length ∧ F'.length = F.length + 4 := by
  obtain ⟨h64, hlen, hch⟩ := chk_ok hc
  have lbr := (Array.getElem?_eq_some_iff.1 hR.blk).1
  have cr : w.cell? ⟨br, 0, none⟩ = some vL := by rw [cell_of_blk hR.blk]; rfl
  obtain ⟨aL, cL, hvL⟩ : ∃ aL cL, vL = .slice aL ps.length cL := by
    rcases hR.lrow.2 with ⟨h, h0⟩ | ⟨g, cap, cur, h, _⟩
    · exact ⟨none, 0, by rw [h, h0]⟩
    · exact ⟨_, cap, h⟩
  subst hvL
  have HLC : Hid (0 < ps.length → ∃ gL, gL < w.heap.size ∧ aL = some ⟨gL, 0, none⟩ ∧ ∀ i, i < ps.length → w.cell? ⟨gL, i, none⟩ = some (.string ⟨(pat ps i).toArray⟩)) := hide (fun h0 => by
    rcases hR.lrow.2 with ⟨h, h1⟩ | ⟨gL, cap, cur, h, _, hg, _⟩
    · omega
    · obtain ⟨rfl, rfl⟩ : aL = some ⟨gL, 0, none⟩ ∧ cL = cap := by simpa using h
      exact ⟨gL, (Array.getElem?_eq_some_iff.1 hg).1, rfl, fun i hi => cellT hR.lrow rfl i hi⟩)
  have HPA : Hid (∀ W, Below w.heap.size w W → Calls Tryz.prog 14 #[.pointer (some ⟨bm, 0, none⟩)] W fun e w' => ∃ b0 gs cs, e = .returned (.slice (some ⟨b0, 0, none⟩) ps.length ps.length) ∧ Outs w' W.heap.size b0 gs cs ps ps.length ∧ Below W.heap.size W w') := hide (fun W hb => patterns_any bm bt be g ps S W (hM.below hb) h64 hlen)
  have HPL : Hid (∀ i, i < ps.length → (pat ps i).length ≤ 64) := hide (fun i hi => (hlen i hi).2)
  have HW := hide hW
  clear hM hR hc hW hlen hch
  go_enter Tryz.func32, Tryz.ntmps32
  go_wp2_with (go_at_call 14; refine (unhide HPA _ (below_two w _ _)).mono ?_; rintro e w1 ⟨b0, gs, cs, rfl, hO, hb1⟩; have HB1 : Hid (Below w.heap.size w w1) := hide ((below_two w _ _).trans (hb1.mono (below_two w _ _).size)); have c1 := hb1.cell (p := ⟨w.heap.size, 1, none⟩) (by simp only [World.alloc, Array.size_push]; omega); have c2 := ((unhide HB1).cell (p := ⟨br, 0, none⟩) lbr).trans cr; have HF : Hid (Free w1 T b0 ps.length gs cs ps 0) := hide (hO.free (below_two w _ _).size (unhide HW).fresh); clear hb1 hO)
  simp at c1
  go_loopw [8, 9] (fun v8 v9 wz => ∃ k m : Nat, v8 = .bool true ∧ v9 = .int .i64 k ∧ k ≤ ps.length ∧ wz = w1.drewN m) (fun _ v9 _ => ps.length - (intOf v9).toNat)
  case atStart => exact ⟨0, 0, by simp, rfl, Nat.zero_le _, rfl⟩
  case round =>
    obtain ⟨k, m, rfl, rfl, hk, rfl⟩ := hrel
    by_cases hlt : k < ps.length
    · obtain ⟨gL, lgL, rfl, hcell⟩ := unhide HLC (by omega)
      have z1 : (w1.drewN m).cell? ⟨w.heap.size, 1, none⟩ = some (.pointer (some ⟨br, 0, none⟩)) := c1
      have z2 : (w1.drewN m).cell? ⟨br, 0, none⟩ = some (.slice (some ⟨gL, 0, none⟩) ps.length cL) := c2
      have z3 : (w1.drewN m).cell? ⟨gL, k, none⟩ = some (.string ⟨(pat ps k).toArray⟩) := ((unhide HB1).cell (p := ⟨gL, k, none⟩) lgL).trans (hcell k hlt)
      have z4 : (w1.drewN m).cell? ⟨b0, k, none⟩ = some (.slice (some ⟨gs k, 0, none⟩) (pat ps k).length (cs k)) := by
        have := (unhide HF).row.cellAt k (by omega)
        rw [outsF_get _ _ _ _ _ hlt, if_pos hlt] at this
        exact this
      have hcv : ∀ q, (convert 27 9 (.slice (some ⟨gs k, 0, none⟩) (pat ps k).length (cs k))).run Tryz.prog ((w1.drewN m).drewN q) = .ok (.string ⟨(pat ps k).toArray⟩) ((w1.drewN m).drewN q) := fun q => conv_back (fun j hj => by
        rw [Nat.zero_add]
        have := ((unhide HF).each k (Nat.zero_le _) hlt).cellAt j (by simpa using hj)
        refine Eq.trans this ?_
        simp [encB, hj, List.getD])
      obtain ⟨wz, hwz⟩ : ∃ wz, w1.drewN m = wz := ⟨_, rfl⟩
      rw [hwz] at z1 z2 z3 z4 hcv ⊢
      have HWZ := hide hwz
      clear hwz hcell
      have i1 : (k : Int) < (ps.length : Int) := by omega
      have i2 : (0 : Int) ≤ (k : Int) := by omega
      generalize (pat ps k) = sk at *
      go_wp2_with fail
      go_quiet (fail)
      go_wp2_with fail
      go_roundw
      case rel => exact ⟨k + 1, m + nq, by simp, by go_num, hlt, by rw [← unhide HWZ, World.drewN_drewN]⟩
      case measure => simp [intOf]; omega
    · obtain rfl : k = ps.length := by omega
      have i1 : ¬ (ps.length : Int) < (ps.length : Int) := by omega
      have HF2 : Hid (Free (w1.drewN m) T b0 ps.length gs cs ps 0) := hide ⟨(unhide HF).row, (unhide HF).trow, (unhide HF).each, (unhide HF).teach, (unhide HF).apart⟩
      have HB2 : Hid (Below w.heap.size w (w1.drewN m)) := hide (below_drewN (unhide HB1) m)
      have HKL := hide (keepsLists_any bw T M vms vby vli E F mb b0 ps.length gs cs ps (w1.drewN m) ((unhide HW).below (unhide HB2)) (unhide HF2) h64 (unhide HPL) hE hF)
      generalize w1.drewN m = wz at *
      go_wp2_with (go_at_call 60; refine (unhide HKL).mono ?_; rintro e w2 ⟨rfl, T', vby', vli', E', F', mb', k1, k2, k3, k4⟩; have HK1 := hide k1; have HK2 := hide k2; have HK3 := hide k3; have HK4 := hide k4; clear k1 k2 k3 k4)
      go_ret
      exact ⟨rfl, T', vby', vli', E', F', mb', unhide HK1, (fr_below (unhide HB2)).trans (unhide HK2), unhide HK3, unhide HK4⟩
end Go.Proofs.YtibkhphbilfckaaGreatDoor
