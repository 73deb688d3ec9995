import Derived.Test.YtibkhphbilfckaaGreatDoorRdM
import Derived.Test.YtibkhphbilfckaaGreatDoorLdG
import Derived.Test.YtibkhphbilfckaaGreatDoorPlays
import Derived.Test.YtibkhphbilfckaaGreatDoorSaveLaw
import Derived.Deep.RegionLaw
import Derived.Deep.RegionWith
namespace Go.Proofs.YtibkhphbilfckaaGreatDoor
open Go.RowKit Scour Go.Lib

theorem num_inj {a b : Nat} {x y : Str} (ha : a < 268435456) (hb : b < 268435456) (h : numS a ++ x = numS b ++ y) : a = b ∧ x = y := by
  have h1 := rd4 ha x
  rw [h, rd4 hb y] at h1
  obtain ⟨rfl, rfl⟩ := Prod.mk.inj (Option.some.inj h1)
  exact ⟨rfl, rfl⟩

/-- A file tells from its front which it is. -/
theorem body_inj {ps S ps' S' : List Str} {r r' : Str} (g : Good ps S) (g' : Good ps' S') (h : bodyS ps S ++ r = bodyS ps' S' ++ r') : ps = ps' ∧ S = S' := by
  have hl := g.len
  have hl' := g'.len
  have hs := g.small
  have hs' := g'.small
  rw [body_read hl.1, body_read hl'.1] at h
  have h1 : numS (clsL ps).length ++ (clsL ps ++ (numS S.length ++ stT ps S 1) ++ r) = numS (clsL ps').length ++ (clsL ps' ++ (numS S'.length ++ stT ps' S' 1) ++ r') := by
    have := congrArg (List.drop 4) h
    simpa using this
  obtain ⟨e1, h2⟩ := num_inj (by omega) (by omega) h1
  simp only [List.append_assoc] at h2
  obtain ⟨_, h3⟩ := List.append_inj h2 e1
  obtain ⟨eS, h4⟩ := num_inj (by omega) (by omega) h3
  have key : ∀ k, k + 1 ≤ S.length → S.take (k + 1) = S'.take (k + 1) ∧ stT ps S (k + 1) ++ r = stT ps' S' (k + 1) ++ r' := by
    intro k
    induction k with
    | zero =>
      intro _
      refine ⟨?_, h4⟩
      have a1 := take_more (S := S) (i := 0) (by omega)
      have a2 := take_more (S := S') (i := 0) (by omega)
      rw [a1, a2, g.head, g'.head]
      rfl
    | succ k ih =>
      intro hk
      obtain ⟨i1, i2⟩ := ih (by omega)
      obtain ⟨p, c, f, q1, q2, q3, q4⟩ := g.state (k := k + 1) (by omega) (by omega)
      obtain ⟨p', c', f', q1', q2', q3', q4'⟩ := g'.state (k := k + 1) (by omega) (by omega)
      rw [q4, q4', List.append_assoc, List.append_assoc] at i2
      obtain ⟨ep, i3⟩ := num_inj (by omega) (by omega) i2
      rw [List.cons_append, List.cons_append] at i3
      obtain ⟨ec, i4⟩ := List.cons.inj i3
      rw [List.append_assoc, List.append_assoc] at i4
      obtain ⟨_, i5⟩ := num_inj (by omega) (by omega) i4
      refine ⟨?_, i5⟩
      rw [take_more (S := S) (i := k + 1) (by omega), take_more (S := S') (i := k + 1) (by omega), q3, q3', ← at_take (S := S) q1, ← at_take (S := S') q1', i1, ep, ec]
  obtain ⟨t1, t2⟩ := key (S.length - 1) (by omega)
  rw [show S.length - 1 + 1 = S.length by omega] at t1 t2
  have eSS : S = S' := by
    rw [List.take_length, List.take_of_length_le (by omega)] at t1
    exact t1
  subst eSS
  rw [stT_end, stT_end, List.append_assoc, List.append_assoc] at t2
  obtain ⟨eP, t3⟩ := num_inj (by omega) (by omega) t2
  have keyP : ∀ k, k ≤ ps.length → ps.take k = ps'.take k ∧ patT ps S k ++ r = patT ps' S k ++ r' := by
    intro k
    induction k with
    | zero => exact fun _ => ⟨rfl, t3⟩
    | succ k ih =>
      intro hk
      obtain ⟨i1, i2⟩ := ih (by omega)
      obtain ⟨p, q1, q2, q3⟩ := g.pat (k := k) (by omega)
      obtain ⟨p', q1', q2', q3'⟩ := g'.pat (k := k) (by omega)
      rw [q3, q3', List.append_assoc, List.append_assoc] at i2
      obtain ⟨ep, i3⟩ := num_inj (by omega) (by omega) i2
      refine ⟨?_, i3⟩
      subst ep
      have e : pat ps k = pat ps' k := q2.symm.trans q2'
      rw [List.take_add_one, List.take_add_one, i1]
      congr 1
      unfold pat at e
      rw [List.getD_eq_getElem?_getD, List.getD_eq_getElem?_getD, List.getElem?_eq_getElem (by omega), List.getElem?_eq_getElem (by omega)] at e
      rw [List.getElem?_eq_getElem (by omega), List.getElem?_eq_getElem (by omega)]
      simp only [Option.getD_some] at e
      rw [e]
  obtain ⟨t4, _⟩ := keyP ps.length (Nat.le_refl _)
  rw [List.take_length, List.take_of_length_le (by omega)] at t4
  exact ⟨t4, rfl⟩

theorem file_inj {ps S ps' S' : List Str} (g : Good ps S) (g' : Good ps' S') (h : fileS ps S = fileS ps' S') : ps = ps' ∧ S = S' := body_inj g g' h
end Go.Proofs.YtibkhphbilfckaaGreatDoor

namespace Go.Proofs.YtibkhphbilfckaaGreatDoor
open Go.RowKit Scour Go.Lib

/-- Bytes that are lent. -/
theorem lent_at {w : World} {g : Nat} {s : Str} (h : w.heap[g]? = some (.cells (lentL s 8).toArray 5 (0, 0))) : BytesAt w (some ⟨g, 0, none⟩) (s.length + 8) s :=
  Or.inr ⟨g, 0, rfl, (Array.getElem?_eq_some_iff.1 h).1, fun j hj => by
    rw [Nat.zero_add, cell_of_blk h]; simp only [List.getElem?_toArray]; exact lentL_low s j hj⟩

/-- Both machines are read; the bytes are given back: what is left in memory. -/
theorem made_read {w w1 w2 w3 w4 : World} {bm bt be : Nat} {g : List Nat} {br gS cS : Nat} {vL : Value} {ps S : List Str} (h1 : Below w.heap.size w w1) (hs1 : w1.heap.size = w.heap.size + 1) (hM : Mach w2 bm bt be g ps S) (hge : w1.heap.size ≤ bm ∧ w1.heap.size ≤ bt ∧ w1.heap.size ≤ be ∧ ∀ k, k ∈ g → w1.heap.size ≤ k) (h2 : Below w1.heap.size w1 w2)
    (hR : RMach w3 br vL gS cS ps S) (hgr : w2.heap.size ≤ br ∧ w2.heap.size ≤ gS ∧ ∀ b, vL.ownBlock = some b → w2.heap.size ≤ b) (h3 : Below w2.heap.size w2 w3) (h4 : w3.grownBy w4 (some w.heap.size)) : Made w w4 bm br ps S := by
  have s2 := h2.size
  have s3 := h3.size
  obtain ⟨a1, a2, a3, a4⟩ := hge
  obtain ⟨b1, b2, b3⟩ := hgr
  have hM3 := hM.below h3
  obtain ⟨l1, l2, l3, l4⟩ := hM3.lts
  have hk : ∀ k, w1.heap.size ≤ k → k < w3.heap.size → w4.heap[k]? = w3.heap[k]? := fun k h1 h2 => h4.block k h2 (by simp; omega)
  have h34 : Below w.heap.size w3 w4 := below_of_grown h4 (by omega) (fun k e => by cases e; exact Nat.le_refl _)
  refine ⟨h1.trans ((h2.mono (by omega)).trans ((h3.mono (by omega)).trans h34)), ⟨bt, be, g, hM3.same h4.size ?_, by omega, by omega, by omega, fun k hk => by have := a4 k hk; omega⟩, ⟨vL, gS, cS, hR.same ?_, by omega, by omega, fun b hb => by have := b3 b hb; omega⟩⟩
  · rintro k (rfl | rfl | rfl | hg)
    · exact hk _ a1 l1
    · exact hk _ a2 l2
    · exact hk _ a3 l3
    · exact hk _ (a4 k hg) (l4 k hg)
  · rintro k hl (rfl | rfl | hv)
    · exact hk _ (by omega) hl
    · exact hk _ (by omega) hl
    · exact hk _ (by have := b3 k hv; omega) hl

set_option maxHeartbeats 4000000 in
set_option maxRecDepth 100000 in
theorem loaded_any (bw : Nat) (T : Nat → Nat) (M : List Ent) (vms vby vli : Value) (E F : List Sl) (mb : Nat → Nat) (s : Str) (w : World) (hW : LW w bw T M vms vby vli E F mb) (hs : s.length < 100000000) (hT : ErrT w) (hMl : M.length < 900000000000) :
    Calls Tryz.prog 29 #[.pointer (some ⟨bw, 0, none⟩), .string ⟨s.toArray⟩] w fun e w' => e = .returned (.bool true) ∧ After bw T M E F w w' := by
  obtain ⟨i0, hi, hz0, hz1, hz2⟩ := info_parts Tryz.infoP
  have HLB := hide (lentBytes_any s w hs)
  have HW := hide hW
  have HT := hide hT
  obtain ⟨tx, htx⟩ : ∃ tx, tx = (⟨s.toArray⟩ : ByteArray) := ⟨_, rfl⟩
  have HRL : Hid (∀ W, Calls Tryz.prog 55 #[.string tx] W (RlPost W s)) := hide (fun W => by rw [htx]; exact rload_any s W hs)
  have HWB : Hid (∀ W g, W.heap[g]? = some (.cells (lentL s 8).toArray 5 (0, 0)) → Calls Tryz.prog 56 #[.slice (some ⟨g, 0, none⟩) s.length (s.length + 8), .string tx] W fun e w' => e = .returned (.bool true) ∧ w'.heap[g]? = some (.cells (overL s (s.length + 8)).toArray 5 (0, 0)) ∧ W.grownBy w' (some g)) := hide (fun W g hg => by rw [htx]; exact wholeBytes_any g s W hs hg)
  rw [← htx] at HLB ⊢
  clear htx hW hT
  have hel := errL_pos s
  go_enter Tryz.func29, Tryz.ntmps29
  go_wp2_with (go_at_call 54; refine (unhide HLB).mono ?_; rintro e w1 ⟨rfl, hg1, hs1, hb1⟩; have HG1 := hide hg1; have HB1 := hide hb1; have HS1 := hide hs1; clear hg1 hb1 hs1)
  refine (load_any _ _ s w1 (lent_at (unhide HG1)) (by omega) (by omega) (by omega) ((unhide HT).below (unhide HB1))).mono ?_
  rintro e w2 (⟨bm, bt, be, g, ps, S, rfl, hM, hc, hf, hge, hb2⟩ | ⟨rfl, hnf, hb2⟩)
  · have HM := hide hM
    have HC := hide hc
    have HF := hide hf
    have HGE := hide hge
    have HB2 := hide hb2
    clear hM hc hf hge hb2
    go_wp2_with fail
    refine (unhide HRL w2).mono ?_
    rintro e w3 (⟨br, vL, gS, cS, ps', S', rfl, hR, hgd, hf', hgr, hb3⟩ | ⟨rfl, hnf, hb3⟩)
    · obtain ⟨rfl, rfl⟩ := file_inj ((unhide HM).good (unhide HC)) hgd ((unhide HF).symm.trans hf')
      have HR := hide hR
      have HGR := hide hgr
      have HB3 := hide hb3
      have hl1 : w.heap.size < w1.heap.size := by have := unhide HS1; omega
      have HG3 : Hid (w3.heap[w.heap.size]? = some (.cells (lentL s 8).toArray 5 (0, 0))) := hide ((hb3.block _ (Nat.lt_of_lt_of_le hl1 (unhide HB2).size)).trans (((unhide HB2).block _ hl1).trans (unhide HG1)))
      clear hR hgr hb3 hf' hgd
      go_wp2_with (first
        | (go_at_call 56; refine (unhide HWB w3 _ (unhide HG3)).mono ?_; rintro e w4 ⟨rfl, _, hg4⟩; have HMD : Hid (Made w w4 bm br ps S) := hide (made_read (unhide HB1) (unhide HS1) (unhide HM) (unhide HGE) (unhide HB2) (unhide HR) (unhide HGR) (unhide HB3) hg4); clear hg4; have HW4 := hide ((unhide HW).below (unhide HMD).below); have HR4 := hide (RowSt.start (o := 0) (unhide HW4).blk rfl (unhide HW4).ms); have c4 := (unhide HR4).cell (by simp))
        | (at_builtin; refine wpList_append_lies _ rfl (.tmp 46) (.tmp 50) 44 rfl 0 83 i0 (.agg #[.pointer none, .pointer none]) 2 16 Tryz.underlying44 hi hz0 hz1 hz2 rfl (by decide) _ M.length (pairCells M) rfl ((unhide HR4).ready #[.pointer (some ⟨bm, 0, none⟩), .pointer (some ⟨br, 0, none⟩)] w4.heap.size rfl).1 ⟨w4.heap.size, 0, none⟩ 1 1 [.pointer (some ⟨bm, 0, none⟩), .pointer (some ⟨br, 0, none⟩)] rfl rfl ((unhide HR4).ready #[.pointer (some ⟨bm, 0, none⟩), .pointer (some ⟨br, 0, none⟩)] w4.heap.size rfl).2 (by intro u hu; simp at hu; rcases hu with rfl | rfl <;> rfl) (by omega) (by unfold maxLen; omega) (by omega) (Nat.zero_le _) (w4.heap.size + 1) (by simp) ?_; intro g5 cg5 w5 ho5 hg5 hat5 hl5; obtain ⟨c5, f5⟩ := (unhide HR4).behind (by decide) (by simp) _ hg5; have HR5 := hide ((unhide HR4).step (by decide) #[.pointer (some ⟨bm, 0, none⟩), .pointer (some ⟨br, 0, none⟩)] w4.heap.size rfl ho5 hg5 hat5); clear ho5 hg5 hat5 hl5))
      go_ret
      obtain ⟨T', k1, k2⟩ := (unhide HMD).more (unhide HW) (unhide HC) (unhide HR5)
      exact ⟨rfl, T', _, _, _, _, _, _, _, k1, k2, by simp, by omega, by omega⟩
    · exact absurd (unhide HF) (hnf ps S ((unhide HM).good (unhide HC)))
  · have HNF := hide hnf
    have HB2 := hide hb2
    clear hnf hb2
    go_wp2_with fail
    refine (unhide HRL w2).mono ?_
    rintro e w3 (⟨br, vL, gS, cS, ps', S', rfl, hR, hgd, hf', hgr, hb3⟩ | ⟨rfl, hnf, hb3⟩)
    · exact absurd hf' (unhide HNF ps' S' hgd)
    · have hl1 : w.heap.size < w1.heap.size := by have := unhide HS1; omega
      have HG3 : Hid (w3.heap[w.heap.size]? = some (.cells (lentL s 8).toArray 5 (0, 0))) := hide ((hb3.block _ (Nat.lt_of_lt_of_le hl1 (unhide HB2).size)).trans (((unhide HB2).block _ hl1).trans (unhide HG1)))
      have s2 := (unhide HB2).size
      have s3 := hb3.size
      have HB03 := hide ((unhide HB1).trans (((unhide HB2).mono (Nat.le_of_lt hl1)).trans (hb3.mono (by omega))))
      clear hnf hb3
      generalize errL s = er at *
      go_wp2_with (go_at_call 56; refine (unhide HWB w3 _ (unhide HG3)).mono ?_; rintro e w4 ⟨rfl, _, hg4⟩; have HB4 : Hid (Below w.heap.size w w4) := hide ((unhide HB03).trans (below_of_grown hg4 (unhide HB03).size (fun k e => by cases e; exact Nat.le_refl _))); clear hg4)
      go_ret
      exact ⟨rfl, T, M, vms, vby, vli, E, F, mb, (unhide HW).below (unhide HB4), fr_below (unhide HB4), by omega, by omega, by omega⟩
end Go.Proofs.YtibkhphbilfckaaGreatDoor

namespace Go.Proofs.YtibkhphbilfckaaGreatDoor
open Go.RowKit Scour Go.Lib

/-- One machine more, of a document's machine that is there already. -/
theorem LW.machine2 {w w' : World} {bw : Nat} {T : Nat → Nat} {M : List Ent} {vms vby vli vms' : Value} {E F : List Sl} {mb : Nat → Nat} {bm br bt be : Nat} {g : List Nat} {gS cS : Nat} {ps S : List Str} {vL : Value} {L : List Nat}
    (h : LW w bw T M vms vby vli E F mb) (hM : Mach w bm bt be g ps S) (hR : RMach w br vL gS cS ps S) (hc : (chk ps).1 = 0)
    (hL : ∀ k, k ∈ L → T k = 9) (hm : bm ∈ L ∧ bt ∈ L ∧ be ∈ L ∧ (∀ k, k ∈ g → k ∈ L) ∧ T br = 1 ∧ T gS = 1 ∧ ∀ b, vL.ownBlock = some b → T b = 1)
    (hst : RowSt w w' bw 0 #[vms, .slice none 0 0, vby, vli, .slice none 0 0] 51 83 2 vms vms' (M.length + 1) (pairCells M ++ [.pointer (some ⟨bm, 0, none⟩), .pointer (some ⟨br, 0, none⟩)])) :
    LW w' bw (tagsM T w L vms') (M ++ [⟨bm, br, ps, S⟩]) vms' vby vli E F mb ∧ Fr T w w' (tagsM T w L vms') := by
  have hbl := (Array.getElem?_eq_some_iff.1 h.blk).1
  have hsz := hst.size
  have hold : ∀ k, k < w.heap.size → T k ≠ 2 → T k ≠ 3 → w'.heap[k]? = w.heap[k]? := fun k hl h2 h3 => hst.frame k hl (fun e => h2 (by rw [e]; exact h.tbw)) (fun e => h3 (h.msown k e))
  have hTo : ∀ k, k < w.heap.size → T k ≠ 9 → tagsM T w L vms' k = T k := fun k hl h9 => by
    unfold tagsM; rw [if_pos hl, if_neg (fun e => h9 (hL k e))]
  have hTn : ∀ k, k < w.heap.size → k ∈ L → tagsM T w L vms' k = 1 := fun k hl hk => by
    unfold tagsM; rw [if_pos hl, if_pos hk]
  have hT1 : ∀ k, k < w.heap.size → T k = 1 → tagsM T w L vms' k = 1 := fun k hl h1 => by
    rw [hTo k hl (by rw [h1]; decide)]; exact h1
  have hL1 : ∀ k, k < w.heap.size → T k = 1 → w'.heap[k]? = w.heap[k]? := fun k hl h1 => hold k hl (by rw [h1]; decide) (by rw [h1]; decide)
  have hLo : ∀ k, k < w.heap.size → k ∈ L → w'.heap[k]? = w.heap[k]? := fun k hl hk => hold k hl (by rw [hL k hk]; decide) (by rw [hL k hk]; decide)
  obtain ⟨m1, m2, m3, m4, m5, m6, m7⟩ := hm
  obtain ⟨l1, l2, l3, l4⟩ := hM.lts
  have lbr := (Array.getElem?_eq_some_iff.1 hR.blk).1
  obtain ⟨cur, hcur⟩ := owns_blk hR.srow
  have lgS := (Array.getElem?_eq_some_iff.1 hcur).1
  refine ⟨⟨?_, ?_, ?_, ?_, ?_, ?_, ?_, ?_⟩, hst.os, hst.tape, hst.output, hsz, fun k hk h0 => ⟨hold k hk (by omega) (by omega), by rw [hTo k hk (by omega)]; exact h0⟩⟩
  · exact hst.blk
  · rw [hTo bw hbl (by rw [h.tbw]; decide)]; exact h.tbw
  · have := hst.row
    rw [show (M ++ [(⟨bm, br, ps, S⟩ : Ent)]).length = M.length + 1 by simp, show pairCells (M ++ [(⟨bm, br, ps, S⟩ : Ent)]) = pairCells M ++ [.pointer (some ⟨bm, 0, none⟩), .pointer (some ⟨br, 0, none⟩)] by simp [pairCells]]
    exact this
  · intro b hb
    rcases hst.lies with e | e
    · have h3 := h.msown b (e ▸ hb)
      obtain ⟨cur, hc⟩ := owns_block h.ms (e ▸ hb)
      rw [hTo b (Array.getElem?_eq_some_iff.1 hc).1 (by rw [h3]; decide)]; exact h3
    · have := e b hb
      unfold tagsM
      rw [if_neg (by omega), if_pos hb]
  · intro e he
    rcases List.mem_append.1 he with he | he
    · exact (h.ents e he).same hsz (fun k hl ht => hold k hl (by rw [ht]; decide) (by rw [ht]; decide)) (fun k hl ht => by rw [hTo k hl (by rw [ht]; decide)]; exact ht)
    · obtain rfl : e = ⟨bm, br, ps, S⟩ := by simpa using he
      refine ⟨⟨bt, be, g, hM.same hsz ?_, hTn _ l1 m1, hTn _ l2 m2, hTn _ l3 m3, fun k hk => hTn k (l4 k hk) (m4 k hk)⟩, ⟨vL, gS, cS, hR.same ?_, hT1 _ lbr m5, hT1 _ lgS m6, ?_⟩, hc⟩
      · rintro k (rfl | rfl | rfl | hg)
        · exact hLo _ l1 m1
        · exact hLo _ l2 m2
        · exact hLo _ l3 m3
        · exact hLo _ (l4 k hg) (m4 k hg)
      · rintro k hl (rfl | rfl | hv)
        · exact hL1 _ hl m5
        · exact hL1 _ hl m6
        · exact hL1 _ hl (m7 k hv)
      · intro b hb
        obtain ⟨cur, hc⟩ := owns_block hR.lrow hb
        exact hT1 b (Array.getElem?_eq_some_iff.1 hc).1 (m7 b hb)
  · refine h.bytes.same (fun k hl ht => ?_) (fun k hl ht => ?_)
    · refine hold k hl ?_ ?_ <;> rcases ht with ht | ⟨i, ht⟩ <;> rw [ht] <;> first | decide | (unfold btag; omega)
    · refine hTo k hl ?_
      rcases ht with ht | ⟨i, ht⟩ <;> rw [ht] <;> first | decide | (unfold btag; omega)
  · refine h.lists.same (fun k hl ht => ?_) (fun k hl ht => ?_)
    · refine hold k hl ?_ ?_ <;> rcases ht with ht | ⟨i, ht⟩ <;> rw [ht] <;> first | decide | (unfold ltag; omega)
    · refine hTo k hl ?_
      rcases ht with ht | ⟨i, ht⟩ <;> rw [ht] <;> first | decide | (unfold ltag; omega)
  · intro k hl
    have hv : vms'.ownBlock ≠ some k := fun e => by
      obtain ⟨cur, hc⟩ := owns_block hst.row e
      have := (Array.getElem?_eq_some_iff.1 hc).1
      omega
    unfold tagsM
    rw [if_neg (by omega), if_neg hv]


theorem grown_drew {w w' : World} {r : Option Nat} (h : w.drew.grownBy w' r) : w.grownBy w' r := by
  have hd : Below w.heap.size w (w.drewN 1) := below_drewN (Below.refl _ _) 1
  exact ⟨h.os.trans hd.os, h.tape.trans hd.tape, h.output.trans hd.output, h.size, fun k hk hr => (h.block k hk hr).trans (hd.block k hk)⟩

set_option maxHeartbeats 8000000 in
set_option maxRecDepth 100000 in
theorem again_any (bw : Nat) (T : Nat → Nat) (M : List Ent) (vms vby vli : Value) (E F : List Sl) (mb : Nat → Nat) (e : Ent) (he : e ∈ M) (w : World) (hW : LW w bw T M vms vby vli E F mb) (hT : ErrT w) (hMl : M.length < 900000000000) (hE : E.length < 900000000000) :
    Calls Tryz.prog 65 #[.pointer (some ⟨bw, 0, none⟩), .agg #[.pointer (some ⟨e.bm, 0, none⟩), .pointer (some ⟨e.br, 0, none⟩)]] w fun r w' => r = .returned (.bool true) ∧ After bw T M E F w w' := by
  obtain ⟨i0, hi, hz0, hz1, hz2⟩ := info_parts Tryz.infoP
  obtain ⟨bm, br, ps, S⟩ := e
  simp only []
  obtain ⟨hz, hfz⟩ := hW.zero (.cells #[.pointer (some ⟨bm, 0, none⟩), .pointer (some ⟨br, 0, none⟩)] 83)
  obtain ⟨bt, be, g, hM, _⟩ := (hz.ents _ he).mach
  have hc := (hz.ents _ he).ok
  simp only [] at hM hc
  obtain ⟨h64, _, _⟩ := chk_ok hc
  have hgd := hM.good hc
  have hfl := hgd.fileLen
  have hnb : (w.alloc (.cells #[.pointer (some ⟨bm, 0, none⟩), .pointer (some ⟨br, 0, none⟩)] 83)).heap[w.heap.size]? = some (.cells #[.pointer (some ⟨bm, 0, none⟩), .pointer (some ⟨br, 0, none⟩)] 83 (0, 0)) := heap_alloc_new w _
  have hb0 : Below w.heap.size w (w.alloc (.cells #[.pointer (some ⟨bm, 0, none⟩), .pointer (some ⟨br, 0, none⟩)] 83)) := (Below.refl _ _).alloc (Nat.le_refl _) _
  have HZ := hide hz
  have HFZ := hide hfz
  have HT0 := hide (hT.below hb0)
  have HSV := hide (save_ok _ bm bt be g ps S hM hc)
  have HNB := hide hnb
  have HGD := hide hgd
  have HTZ : Hid (tag0 T w.heap.size w.heap.size = 0) := hide (by unfold tag0; rw [if_pos rfl])
  have HHE := hide he
  have hs0 : (w.alloc (.cells #[.pointer (some ⟨bm, 0, none⟩), .pointer (some ⟨br, 0, none⟩)] 83)).heap.size = w.heap.size + 1 := by simp
  clear hz hfz hM hnb hb0 hW hT hgd he hc
  generalize hw0 : w.alloc (.cells #[.pointer (some ⟨bm, 0, none⟩), .pointer (some ⟨br, 0, none⟩)] 83) = w0 at *
  generalize tag0 T w.heap.size = T0 at *
  have HW0 := hide hw0
  clear hw0
  go_enter Tryz.func65, Tryz.ntmps65
  go_wp2_with fail
  rw [unhide HW0]
  refine (unhide HSV).mono ?_
  rintro e w1 ⟨fb, fc, rfl, hO, hb1⟩
  obtain ⟨a1, d1, e1, hat⟩ := owns_at hO
  cases e1
  have hfc : (fileS ps S).length ≤ fc ∧ fc ≤ 9223372036854775807 := by
    rcases hO.2 with ⟨h1, _⟩ | ⟨g', cap', cur, h1, _, _, h4, h5, _⟩
    · cases h1
    · cases h1
      exact ⟨h4, by unfold maxLen at h5; omega⟩
  have HO1 := hide hO
  have HB1 := hide hb1
  have HLO := hide (load_any (some ⟨fb, 0, none⟩) fc (fileS ps S) w1 hat hfc.1 hfc.2 (by omega) ((unhide HT0).below hb1))
  clear hO hb1 hat hfc
  go_wp2_with fail
  refine (unhide HLO).mono ?_
  rintro e w2 (⟨bm2, bt2, be2, g2, ps2, S2, rfl, hM2, hc2, hf2, hge, hb2⟩ | ⟨rfl, hnf, hb2⟩)
  · obtain ⟨rfl, rfl⟩ := file_inj (unhide HGD) (hM2.good hc2) hf2
    have hb02 : Below w0.heap.size w0 w2 := (unhide HB1).trans (hb2.mono (unhide HB1).size)
    have hs1 := (unhide HB1).size
    have hs2 := hb2.size
    have HW2 := hide ((unhide HZ).below hb02)
    have hfb : w0.heap.size ≤ fb ∧ fb < w1.heap.size := by
      refine ⟨owns_base (unhide HO1), ?_⟩
      obtain ⟨cu, hcu⟩ := owns_blk (unhide HO1)
      exact (Array.getElem?_eq_some_iff.1 hcu).1
    have HO2 : Hid (w2.ownsRow 0 5 1 (.slice (some ⟨fb, 0, none⟩) (fileS ps S).length fc) (fileS ps S).length ((fileS ps S).map encB)) := hide (owns_zero (owns_kept (unhide HO1) (fun k hk _ => hb2.block k hk)))
    have HKE := hide (keeps_any bw #[vms, .slice none 0 0, vby, vli, .slice none 0 0] 51 vby E ⟨some ⟨fb, 0, none⟩, (fileS ps S).length, fc⟩ ((fileS ps S).map encB) w2 (unhide HW2).blk rfl (by decide) (by decide) (unhide HW2).bytes.row (unhide HO2) (by omega) (by simp only []; omega))
    simp only [Sl.val] at HKE
    have HM2 := hide hM2
    have HC2 := hide hc2
    have HGE := hide hge
    have HB02 := hide hb02
    have HFL := hide hfl
    clear hM2 hc2 hf2 hge hb2 hb02 HLO HO1 HSV HGD
    have hflb : (fileS ps S).length + 3 < 1000000000 := by omega
    generalize hF : fileS ps S = Fs at *
    clear hF
    go_wp2_with (go_at_call 64; refine (unhide HKE).mono ?_; rintro e w3 ⟨rfl, s1, s2, s3, vby2, hK⟩; have HK := hide hK; clear hK)
    have hs9 : ∀ k, (Sl.val ⟨some ⟨fb, 0, none⟩, Fs.length, fc⟩).ownBlock = some k → T0 k = 9 ∧ k < w2.heap.size := fun k hk => by
      have e : fb = k := by simpa [Sl.val, Value.ownBlock] using hk
      rw [← e]
      exact ⟨(unhide HZ).fresh fb hfb.1, by omega⟩
    have hW3 := (unhide HW2).keeps (unhide HK) hs9 (by simp only []; omega)
    have hF3 := (unhide HW2).keepsFr (unhide HK) hs9
    have hnew : ∀ k, w1.heap.size ≤ k → k < w2.heap.size → w3.heap[k]? = w2.heap[k]? ∧ tagsN T0 w2 w3 ⟨some ⟨fb, 0, none⟩, Fs.length, fc⟩ vby2 4 (btag E.length) k = 9 := fun k h1 h2 => by
      have h9 : T0 k = 9 := (unhide HZ).fresh k (by omega)
      have hn : (Sl.val ⟨some ⟨fb, 0, none⟩, Fs.length, fc⟩).ownBlock ≠ some k := fun e => by
        have e2 : fb = k := by simpa [Sl.val, Value.ownBlock] using e
        omega
      refine ⟨(unhide HK).frame k h2 (fun e => by rw [e, (unhide HZ).tbw] at h9; cases h9) (fun e => by have := (unhide HW2).bytes.own k e; rw [h9] at this; cases this) hn, ?_⟩
      rw [tagsN_old h2 hn]; exact h9
    generalize tagsN T0 w2 w3 ⟨some ⟨fb, 0, none⟩, Fs.length, fc⟩ vby2 4 (btag E.length) = T1 at hW3 hF3 hnew
    obtain ⟨l1, l2, l3, l4⟩ := (unhide HM2).lts
    obtain ⟨q1, q2, q3, q4⟩ := unhide HGE
    have hM3 : Mach w3 bm2 bt2 be2 g2 ps S := (unhide HM2).same (unhide HK).size (by
      rintro k (rfl | rfl | rfl | hg)
      · exact (hnew _ q1 l1).1
      · exact (hnew _ q2 l2).1
      · exact (hnew _ q3 l3).1
      · exact (hnew _ (q4 k hg) (l4 k hg)).1)
    have hz3 := hF3.zero w.heap.size (by have := (unhide HB02).size; omega) (unhide HTZ)
    have hp3 : w3.heap[w.heap.size]? = some (.cells #[.pointer (some ⟨bm, 0, none⟩), .pointer (some ⟨br, 0, none⟩)] 83 (0, 0)) := hz3.1.trans (((unhide HB02).block _ (by omega)).trans (unhide HNB))
    have c31 : w3.cell? ⟨w.heap.size, 1, none⟩ = some (.pointer (some ⟨br, 0, none⟩)) := by rw [cell_of_blk hp3]; rfl
    obtain ⟨vL, gS, cS, hR3, r1, r2, r3⟩ := (hW3.ents _ (unhide HHE)).rmach
    simp only [] at hR3 r1
    have HR4 := hide (RowSt.start (o := 0) hW3.blk rfl hW3.ms)
    have c4 := (unhide HR4).cell (by simp)
    have HLM : Hid (∀ (w' : World) (vms' : Value), RowSt w3 w' bw 0 #[vms, .slice none 0 0, vby2, vli, .slice none 0 0] 51 83 2 vms vms' (M.length + 1) (pairCells M ++ [.pointer (some ⟨bm2, 0, none⟩), .pointer (some ⟨br, 0, none⟩)]) → After bw T M E F w w') := hide (fun w' vms' hst => by
      obtain ⟨k1, k2⟩ := hW3.machine2 (L := bm2 :: bt2 :: be2 :: g2) hM3 hR3 (unhide HC2) (fun k hk => by
        simp only [List.mem_cons] at hk
        rcases hk with rfl | rfl | rfl | hk
        · exact (hnew _ q1 l1).2
        · exact (hnew _ q2 l2).2
        · exact (hnew _ q3 l3).2
        · exact (hnew _ (q4 k hk) (l4 k hk)).2) ⟨by simp, by simp, by simp, fun k hk => by simp [hk], r1, r2, r3⟩ hst
      exact ⟨_, _, _, _, _, _, _, _, k1, (((unhide HFZ).trans (fr_below (unhide HB02))).trans hF3).trans k2, by simp, by simp, by omega⟩)
    have HRD := hide ((unhide HR4).ready #[.pointer (some ⟨bm2, 0, none⟩), .pointer (some ⟨br, 0, none⟩)] w3.heap.size rfl)
    have hbw3 : bw < w3.heap.size := (Array.getElem?_eq_some_iff.1 hW3.blk).1
    have hl3 : w.heap.size < w3.heap.size := (Array.getElem?_eq_some_iff.1 hp3).1
    clear hW3 hF3 hnew hM3 hR3 r1 r2 r3 hz3 hp3 hs9 HKE HK q1 q2 q3 q4 l1 l2 l3 l4
    go_wp2_with fail
    go_region_law (refine step_append_lies _ rfl (.tmp 31) (.tmp 36) 44 rfl 0 83 i0 (.agg #[.pointer none, .pointer none]) 2 16 Tryz.underlying44 hi hz0 hz1 hz2 rfl (by decide) _ M.length (pairCells M) (by simp [Act.eval]) (unhide HRD).1 ⟨w3.heap.size, 0, none⟩ 1 1 [.pointer (some ⟨bm2, 0, none⟩), .pointer (some ⟨br, 0, none⟩)] (by simp [Act.eval]) rfl (unhide HRD).2 (by intro u hu; simp at hu; rcases hu with rfl | rfl <;> rfl) (by omega) (by unfold maxLen; omega) (by omega) (Nat.zero_le _) (w3.heap.size + 1) (by simp) ?_; intro g5 cg5 w5 ho5 hg5 hat5 hl5; obtain ⟨c5, f5⟩ := (unhide HR4).behind (by decide) (by simp) _ (grown_drew hg5); have HR5 := hide ((unhide HR4).step (by decide) #[.pointer (some ⟨bm2, 0, none⟩), .pointer (some ⟨br, 0, none⟩)] w3.heap.size rfl ho5 (grown_drew hg5) hat5); clear ho5 hg5 hat5 hl5)
    all_goals go_wp2_with fail
    all_goals go_ret
    all_goals exact ⟨rfl, unhide HLM _ _ (unhide HR5)⟩
  · exact absurd rfl (hnf ps S (unhide HGD))
end Go.Proofs.YtibkhphbilfckaaGreatDoor

namespace Go.Proofs.YtibkhphbilfckaaGreatDoor
open Go.RowKit Scour Go.Lib

theorem After.below {bw : Nat} {T : Nat → Nat} {M : List Ent} {E F : List Sl} {w w1 w' : World} (h : After bw T M E F w1 w') (hb : Below w.heap.size w w1) : After bw T M E F w w' := by
  obtain ⟨T', M', vms', vby', vli', E', F', mb', k1, k2, k3, k4, k5⟩ := h
  exact ⟨T', M', vms', vby', vli', E', F', mb', k1, (fr_below hb).trans k2, k3, k4, k5⟩

set_option maxHeartbeats 4000000 in
set_option maxRecDepth 100000 in
theorem asked_again (bw : Nat) (T : Nat → Nat) (M : List Ent) (vms vby vli : Value) (E F : List Sl) (mb : Nat → Nat) (e : Ent) (he : e ∈ M) (vl : Value) (a b : Int) (s : ByteArray) (w : World) (hW : LW w bw T M vms vby vli E F mb) (hT : ErrT w) (hMl : M.length < 900000000000) (hE : E.length < 900000000000) :
    Calls Tryz.prog 32 #[.pointer (some ⟨bw, 0, none⟩), .agg #[.pointer (some ⟨e.bm, 0, none⟩), .pointer (some ⟨e.br, 0, none⟩)], .agg #[.int .i64 9, .int .i64 a, .int .i64 b, .string s, vl]] w fun r w' => r = .returned (.bool true) ∧ After bw T M E F w w' := by
  have HAG : Hid (∀ W, Below w.heap.size w W → Calls Tryz.prog 65 #[.pointer (some ⟨bw, 0, none⟩), .agg #[.pointer (some ⟨e.bm, 0, none⟩), .pointer (some ⟨e.br, 0, none⟩)]] W fun r w' => r = .returned (.bool true) ∧ After bw T M E F w w') := hide (fun W hb => by
    refine (again_any bw T M vms vby vli E F mb e he W (hW.below hb) (hT.below hb) hMl hE).mono ?_
    rintro r w' ⟨rfl, hA⟩
    exact ⟨rfl, hA.below hb⟩)
  clear hW hT he
  go_enter Tryz.func32, Tryz.ntmps32
  go_wp2_with (go_at_call 65; refine (unhide HAG _ (below_two w _ _)).mono ?_; rintro r w' ⟨rfl, hA⟩; have HA := hide hA; clear hA)
  go_ret
  exact ⟨rfl, unhide HA⟩

set_option maxHeartbeats 4000000 in
set_option maxRecDepth 100000 in
theorem step_load (bw : Nat) (T : Nat → Nat) (M : List Ent) (vms vby vli : Value) (E F : List Sl) (mb : Nat → Nat) (o : OpD) (w : World) (hW : LW w bw T M vms vby vli E F mb) (hs : o.s.size < 100000000) (hk : o.k = 6) (hMl : M.length < 900000000000) (hT : ErrT w) :
    Calls Tryz.prog 18 #[.pointer (some ⟨bw, 0, none⟩), .agg #[.int .i64 o.k, .int .i64 o.a, .int .i64 o.b, .string o.s, .slice o.ap o.ts.length o.cap]] w fun r w' => r = .returned (.bool true) ∧ After bw T M E F w w' := by
  have HC : Hid (∀ ob, Calls Tryz.prog 29 #[.pointer (some ⟨bw, 0, none⟩), .string o.s] (w.alloc ob) fun e w' => e = .returned (.bool true) ∧ After bw T M E F w w') := hide (fun ob => by
    have hb : Below w.heap.size w (w.alloc ob) := (Below.refl _ _).alloc (Nat.le_refl _) _
    have h := loaded_any bw T M vms vby vli E F mb o.s.data.toList (w.alloc ob) (hW.below hb) (by show o.s.data.toList.length < 100000000; rw [Array.length_toList]; exact hs) (hT.below hb) hMl
    refine h.mono ?_
    rintro e w' ⟨rfl, hA⟩
    exact ⟨rfl, hA.below hb⟩)
  clear hW hT hs
  obtain ⟨k, a, b, s, ap, ts, cap⟩ := o
  simp only [] at hk HC ⊢
  subst hk
  go_enter Tryz.func18, Tryz.ntmps18
  go_wp2_with (go_at_call 29; refine (unhide HC _).mono ?_; rintro e w' ⟨rfl, hA⟩; have HA := hide hA; clear hA)
  go_ret
  exact ⟨rfl, unhide HA⟩
end Go.Proofs.YtibkhphbilfckaaGreatDoor
