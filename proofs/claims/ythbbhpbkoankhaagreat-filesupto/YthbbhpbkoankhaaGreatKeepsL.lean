import Derived.Test.YthbbhpbkoankhaaGreatLawW
namespace Go.Proofs.YthbbhpbkoankhaaGreat
open Go.RowKit Scour Go.Lib

theorem Tryz.infoLL : (Tryz.prog.info? 30).map (fun i => (i.zero, i.size, i.bytes)) = some (some (.slice none 0 0), 1, 24) := by kernel_rfl

/-- What was there ahead of the script is as it was. -/
structure Fr (T : Nat → Nat) (w w' : World) (T' : Nat → Nat) : Prop where
  os : w'.os = w.os
  tape : w'.tape = w.tape
  output : w'.output = w.output
  size : w.heap.size ≤ w'.heap.size
  zero : ∀ k, k < w.heap.size → T k = 0 → w'.heap[k]? = w.heap[k]? ∧ T' k = 0

theorem Fr.refl (T : Nat → Nat) (w : World) : Fr T w w T := ⟨rfl, rfl, rfl, Nat.le_refl _, fun _ _ h => ⟨rfl, h⟩⟩
theorem Fr.trans {T T1 T2 : Nat → Nat} {w w1 w2 : World} (h : Fr T w w1 T1) (k : Fr T1 w1 w2 T2) : Fr T w w2 T2 :=
  ⟨k.os.trans h.os, k.tape.trans h.tape, k.output.trans h.output, Nat.le_trans h.size k.size, fun i hi h0 => by
    obtain ⟨a, b⟩ := h.zero i hi h0
    obtain ⟨c, d⟩ := k.zero i (Nat.lt_of_lt_of_le hi h.size) b
    exact ⟨c.trans a, d⟩⟩
theorem fr_below {T : Nat → Nat} {w w' : World} (h : Below w.heap.size w w') : Fr T w w' T := ⟨h.os, h.tape, h.output, h.size, fun k hk h0 => ⟨h.block k hk, h0⟩⟩

/-- Lists of bytes that came out, from the k-th on, which nothing owns. -/
structure Free (w : World) (T : Nat → Nat) (b0 c0 : Nat) (gs cs : Nat → Nat) (ps : List Str) (k : Nat) : Prop where
  row : w.ownsRow 0 57 1 (.slice (some ⟨b0, 0, none⟩) ps.length c0) ps.length (outsF gs cs ps ps.length)
  trow : T b0 = 9
  each : ∀ i, k ≤ i → i < ps.length → w.ownsRow 0 5 1 (.slice (some ⟨gs i, 0, none⟩) (pat ps i).length (cs i)) (pat ps i).length ((pat ps i).map encB)
  teach : ∀ i, k ≤ i → i < ps.length → T (gs i) = 9
  apart : ∀ i j, i < ps.length → j < ps.length → gs i = gs j → i = j

theorem LW.keepsFr {w w' : World} {bw : Nat} {T : Nat → Nat} {M : List Ent} {vms vby vli vby' : Value} {E F : List Sl} {mb : Nat → Nat} {s s1 s2 s3 : Sl} (h : LW w bw T M vms vby vli E F mb) (hK : Kept4 w w' bw 2 #[vms, .slice none 0 0, vby, vli, .slice none 0 0] 36 57 5 vby E s (bx E.length) s1 s2 s3 vby')
    (hs9 : ∀ b, s.val.ownBlock = some b → T b = 9 ∧ b < w.heap.size) : Fr T w w' (tagsN T w w' s vby' 4 (btag E.length)) := by
  refine ⟨hK.os, hK.tape, hK.output, hK.size, fun k hk h0 => ?_⟩
  have hn : s.val.ownBlock ≠ some k := fun e => by have := (hs9 k e).1; omega
  refine ⟨hK.frame k hk (fun e => by rw [e, h.tbw] at h0; cases h0) (fun e => by rw [h.bytes.own k e] at h0; cases h0) hn, ?_⟩
  rw [tagsN_old hk hn]; exact h0

theorem LW.keepsLFr {w w' : World} {bw : Nat} {x : Value} {T : Nat → Nat} {M : List Ent} {vms vby vli vli' : Value} {E F : List Sl} {mb : Nat → Nat} {s s1 s2 s3 : Sl} (h : LW w bw T M vms vby vli E F mb) (hK : Kept4 w w' bw 3 #[vms, .slice none 0 0, vby, vli, .slice none 0 0] 36 30 57 vli F s x s1 s2 s3 vli')
    (hs9 : ∀ b, s.val.ownBlock = some b → T b = 9 ∧ b < w.heap.size) : Fr T w w' (tagsN T w w' s vli' 5 (ltag F.length)) := by
  refine ⟨hK.os, hK.tape, hK.output, hK.size, fun k hk h0 => ?_⟩
  have hn : s.val.ownBlock ≠ some k := fun e => by have := (hs9 k e).1; omega
  refine ⟨hK.frame k hk (fun e => by rw [e, h.tbw] at h0; cases h0) (fun e => by rw [h.lists.own k e] at h0; cases h0) hn, ?_⟩
  rw [tagsN_old hk hn]; exact h0

/-- The k-th list is kept: the others are as they were. -/
theorem Free.step {w w' : World} {bw : Nat} {T : Nat → Nat} {M : List Ent} {vms vby vli vby' : Value} {E F : List Sl} {mb : Nat → Nat} {s1 s2 s3 : Sl} {b0 c0 k : Nat} {gs cs : Nat → Nat} {ps : List Str} (h : LW w bw T M vms vby vli E F mb) (hF : Free w T b0 c0 gs cs ps k) (hk : k < ps.length)
    (hK : Kept4 w w' bw 2 #[vms, .slice none 0 0, vby, vli, .slice none 0 0] 36 57 5 vby E ⟨some ⟨gs k, 0, none⟩, (pat ps k).length, cs k⟩ (bx E.length) s1 s2 s3 vby') : Free w' (tagsN T w w' ⟨some ⟨gs k, 0, none⟩, (pat ps k).length, cs k⟩ vby' 4 (btag E.length)) b0 c0 gs cs ps (k + 1) := by
  obtain ⟨curk, hck⟩ := owns_blk (hF.each k (Nat.le_refl _) hk)
  obtain ⟨cur0, hc0⟩ := owns_blk hF.row
  have l0 := (Array.getElem?_eq_some_iff.1 hc0).1
  have hsame : ∀ b, b < w.heap.size → T b = 9 → b ≠ gs k → w'.heap[b]? = w.heap[b]? ∧ tagsN T w w' ⟨some ⟨gs k, 0, none⟩, (pat ps k).length, cs k⟩ vby' 4 (btag E.length) b = 9 := fun b hb h9 hn => by
    have hn' : (Sl.val ⟨some ⟨gs k, 0, none⟩, (pat ps k).length, cs k⟩).ownBlock ≠ some b := fun e => hn (by simpa [Sl.val, Value.ownBlock] using e.symm)
    refine ⟨hK.frame b hb (fun e => by rw [e, h.tbw] at h9; cases h9) (fun e => by rw [h.bytes.own b e] at h9; cases h9) hn', ?_⟩
    rw [tagsN_old hb hn']; exact h9
  have h0 := hsame b0 l0 hF.trow (two_types hc0 hck (by decide))
  refine ⟨owns_same hF.row h0.1, h0.2, fun i hi hl => ?_, fun i hi hl => ?_, hF.apart⟩
  · obtain ⟨curi, hci⟩ := owns_blk (hF.each i (by omega) hl)
    exact owns_same (hF.each i (by omega) hl) (hsame (gs i) (Array.getElem?_eq_some_iff.1 hci).1 (hF.teach i (by omega) hl) (fun e => by have := hF.apart i k hl hk e; omega)).1
  · obtain ⟨curi, hci⟩ := owns_blk (hF.each i (by omega) hl)
    exact (hsame (gs i) (Array.getElem?_eq_some_iff.1 hci).1 (hF.teach i (by omega) hl) (fun e => by have := hF.apart i k hl hk e; omega)).2

set_option maxHeartbeats 4000000 in
set_option maxRecDepth 100000 in
theorem keepsLists_any (bw : Nat) (T : Nat → Nat) (M : List Ent) (vms vby vli : Value) (E F : List Sl) (mb : Nat → Nat) (b0 c0 : Nat) (gs cs : Nat → Nat) (ps : List Str) (w : World) (hW : LW w bw T M vms vby vli E F mb) (hF : Free w T b0 c0 gs cs ps 0)
    (hps : ps.length ≤ 64) (hpl : ∀ i, i < ps.length → (pat ps i).length ≤ 64) (hE : E.length < 900000000000) (hFl : F.length < 900000000000) :
    Calls Tryz.prog 29 #[.pointer (some ⟨bw, 2, none⟩), .slice (some ⟨b0, 0, none⟩) ps.length c0] w fun e w' => e = .returned (.tuple #[]) ∧ ∃ T' vby' vli' E' F' mb', LW w' bw T' M vms vby' vli' E' F' mb' ∧ Fr T w w' T' ∧ E'.length = E.length + 4 * ps.length ∧ F'.length = F.length + 4 := by
  have HF := hide hF
  have HW := hide hW
  have HPL := hide hpl
  clear hF hW hpl
  go_enter Tryz.func29, Tryz.ntmps29
  go_wp2
  go_loopw [4] (fun v wr => ∃ (k : Nat) (T' : Nat → Nat) (vby' : Value) (E' : List Sl), v = .int .i64 k ∧ k ≤ ps.length ∧ E'.length = E.length + 4 * k ∧ Hid (LW wr bw T' M vms vby' vli E' F mb) ∧ Hid (Fr T w wr T') ∧ Hid (Free wr T' b0 c0 gs cs ps k)) (fun v _ => ps.length - (intOf v).toNat)
  case atStart => exact ⟨0, T, vby, E, rfl, Nat.zero_le _, rfl, HW, hide (Fr.refl _ _), HF⟩
  case round =>
    obtain ⟨k, T', vby', E', rfl, hk, hEl, HW1, HFR, HF1⟩ := hrel
    by_cases hlt : k < ps.length
    · have c1 : wr.cell? ⟨b0, k, none⟩ = some (.slice (some ⟨gs k, 0, none⟩) (pat ps k).length (cs k)) := by
        rw [(unhide HF1).row.cellAt k (by omega), outsF_get _ _ _ _ _ hlt, if_pos hlt]
      have hlk := unhide HPL k hlt
      have HS9 : Hid (∀ b, (Sl.val ⟨some ⟨gs k, 0, none⟩, (pat ps k).length, cs k⟩).ownBlock = some b → T' b = 9 ∧ b < wr.heap.size) := hide (fun b hb => by
        have e : gs k = b := by simpa [Sl.val, Value.ownBlock] using hb
        obtain ⟨cur, hc⟩ := owns_blk ((unhide HF1).each k (Nat.le_refl _) hlt)
        rw [← e]; exact ⟨(unhide HF1).teach k (Nat.le_refl _) hlt, (Array.getElem?_eq_some_iff.1 hc).1⟩)
      have HKE := hide (keeps_any bw #[vms, .slice none 0 0, vby', vli, .slice none 0 0] 36 vby' E' ⟨some ⟨gs k, 0, none⟩, (pat ps k).length, cs k⟩ ((pat ps k).map encB) wr (unhide HW1).blk rfl (by decide) (by decide) (unhide HW1).bytes.row ((unhide HF1).each k (Nat.le_refl _) hlt) (by omega) (by simp only []; omega))
      have HST : Hid (∀ w2 s1 s2 s3 vby2, Kept4 wr w2 bw 2 #[vms, .slice none 0 0, vby', vli, .slice none 0 0] 36 57 5 vby' E' ⟨some ⟨gs k, 0, none⟩, (pat ps k).length, cs k⟩ (.int .u8 (markN E'.length)) s1 s2 s3 vby2 → ∃ T2 E2, E2.length = E.length + 4 * (k + 1) ∧ LW w2 bw T2 M vms vby2 vli E2 F mb ∧ Fr T w w2 T2 ∧ Free w2 T2 b0 c0 gs cs ps (k + 1)) := hide (fun w2 s1 s2 s3 vby2 hK =>
        ⟨_, _, by simp; omega, (unhide HW1).keeps hK (unhide HS9) (by simp only []; omega), (unhide HFR).trans ((unhide HW1).keepsFr hK (unhide HS9)), (unhide HF1).step (unhide HW1) hlt hK⟩)
      have i1 : (k : Int) < (ps.length : Int) := by omega
      simp only [Sl.val] at HKE
      go_wp2_with (go_at_call 35; refine (unhide HKE).mono ?_; rintro e w2 ⟨rfl, s1, s2, s3, vby2, hK⟩; obtain ⟨T2, E2, e1, e2, e3, e4⟩ := unhide HST w2 s1 s2 s3 vby2 hK; have HE2 := hide e2; have HE3 := hide e3; have HE4 := hide e4; clear hK e2 e3 e4)
      go_roundw
      case rel => exact ⟨k + 1, T2, vby2, E2, by go_num, hlt, e1, HE2, HE3, HE4⟩
      case measure => simp [intOf]; omega
    · obtain rfl : k = ps.length := by omega
      obtain ⟨i0, hi, hz0, hz1, hz2⟩ := info_parts Tryz.infoL
      obtain ⟨j0, hj, hy0, hy1, hy2⟩ := info_parts Tryz.infoLL
      obtain ⟨l0, hu, hx0, hx1, hx2⟩ := info_parts Tryz.infoB
      have c2 : wr.cell? ⟨bw, 3, none⟩ = some vli := by rw [cell_of_blk (unhide HW1).blk]; rfl
      obtain ⟨ali, cli, hvli⟩ : ∃ ali cli, vli = .slice ali F.length cli := by
        rcases (unhide HW1).lists.row.2 with ⟨h, h0⟩ | ⟨g, cap, cur, h, _⟩
        · exact ⟨none, 0, by rw [h, h0]⟩
        · exact ⟨_, cap, h⟩
      have c2' := c2
      rw [hvli] at c2'
      have HVL := hide hvli
      clear hvli c2
      have HN : Hid ((1 : Int) + (F.length : Int) / 4 = ((1 + F.length / 4 : Nat) : Int)) := hide (by omega)
      have i1 : ¬ (ps.length : Int) < (ps.length : Int) := by omega
      go_wp2_with (first | (at_make; go_loud (refine wpList_make_full _ rfl (.tmp 28) (.tmp 28) 57 rfl 0 5 l0 (.int .u8 0) 1 Tryz.underlying57 hu hx0 hx1 .i64 .i64 _ _ (1 + F.length / 4) rfl rfl (unhide HN) (unhide HN) (by rw [hx2]; omega) (by unfold maxLen; omega) (Nat.zero_le _) ?_); intro wm hown hgrow; have HGW := hide hgrow; clear hown hgrow))
      have hgm := unhide HGW
      have HWM : Hid (LW wm bw T' M vms vby' vli E' F mb) := hide ((unhide HW1).kept hgm.size (fun k hl _ => hgm.block k hl (by simp)))
      have HFRM : Hid (Fr T w wm T') := hide ((unhide HFR).trans (fr_below (below_of_grown hgm (Nat.le_refl _) (fun k h => by cases h))))
      have HRW : Hid (wm.ownsRow 0 57 1 (.slice (some ⟨b0, 0, none⟩) ps.length c0) ps.length (outsF gs cs ps ps.length)) := hide ((unhide HF1).row.kept hgm (by simp [Value.ownBlock]))
      have HT0 := hide (unhide HF1).trow
      have hbm : wr.heap.size ≤ wm.heap.size := hgm.size
      clear hgm HGW HW1 HFR HF1 HF HW c2'
      generalize wr.heap.size = bm at *
      have hxl : (outsF gs cs ps ps.length).length = ps.length := outsF_length _ _ _ _
      generalize outsF gs cs ps ps.length = xs at *
      have hbl := (Array.getElem?_eq_some_iff.1 (unhide HWM).blk).1
      have hcl : 3 < (#[vms, .slice none 0 0, vby', vli, .slice none 0 0] : Array Value).size := by simp
      have HPB : Hid (¬ (some b0 = some bw ∨ wm.heap.size ≤ bw)) := hide (by
        rintro (h | h)
        · obtain ⟨cur, hc⟩ := owns_blk (unhide HRW)
          exact two_types hc (unhide HWM).blk (by decide) (by simpa using h)
        · omega)
      have HPV : Hid (∀ b, vli.ownBlock = some b → ¬ (some b0 = some b ∨ wm.heap.size ≤ b)) := hide (by
        intro b hb
        obtain ⟨cur, hc⟩ := owns_block (unhide HWM).lists.row hb
        rintro (h | h)
        · obtain ⟨cur2, hc2⟩ := owns_blk (unhide HRW)
          exact two_types hc2 hc (by decide) (by simpa using h)
        · have := (Array.getElem?_eq_some_iff.1 hc).1; omega)
      obtain ⟨P, hP⟩ : ∃ P : Nat → Prop, P = fun b => some b0 = some b ∨ wm.heap.size ≤ b := ⟨_, rfl⟩
      have HPI : Hid (∀ b, P b ↔ (some b0 = some b ∨ wm.heap.size ≤ b)) := hide (fun b => by rw [hP])
      have HPE := hide hP
      clear hP
      go_loopw [6] (fun v wr => ∃ k : Nat, v = .int .i64 k ∧ k ≤ ps.length ∧ Hid (wr.ownsRow 0 57 1 (.slice (some ⟨b0, 0, none⟩) ps.length c0) ps.length (List.replicate k (.slice (some ⟨bm, 0, none⟩) (1 + F.length / 4) (1 + F.length / 4)) ++ xs.drop k)) ∧ Hid (MStep 57 (.slice (some ⟨bm, 0, none⟩) (1 + F.length / 4) (1 + F.length / 4)) P wm wr)) (fun v _ => ps.length - (intOf v).toNat)
      case atStart => exact ⟨0, rfl, Nat.zero_le _, HRW, hide (MStep.refl _ _ _ _)⟩
      case round =>
        obtain ⟨k, rfl, hk2, HR, HM⟩ := hrel
        by_cases hlt : k < ps.length
        · obtain ⟨cur, hcur⟩ := owns_blk (unhide HR)
          have c1 : ∃ u, wr.cell? ⟨b0, k, none⟩ = some u := by
            rw [(unhide HR).cellAt k (by omega)]
            exact ⟨_, List.getElem?_eq_getElem (by simp; omega)⟩
          obtain ⟨u, c1⟩ := c1
          have f1 : wr.frozen? ⟨b0, k, none⟩ = false := (unhide HR).frozenAt k
          have HR2 : Hid ((wr.setCell ⟨b0, k, none⟩ (.slice (some ⟨bm, 0, none⟩) (1 + F.length / 4) (1 + F.length / 4))).ownsRow 0 57 1 (.slice (some ⟨b0, 0, none⟩) ps.length c0) ps.length (List.replicate (k + 1) (.slice (some ⟨bm, 0, none⟩) (1 + F.length / 4) (1 + F.length / 4)) ++ xs.drop (k + 1))) := hide (by
            have := ((unhide HR).stored k (.slice (some ⟨bm, 0, none⟩) (1 + F.length / 4) (1 + F.length / 4))).1
            rw [rep_set (.slice (some ⟨bm, 0, none⟩) (1 + F.length / 4) (1 + F.length / 4)) xs k (by omega)] at this
            exact this)
          have HM2 : Hid (MStep 57 (.slice (some ⟨bm, 0, none⟩) (1 + F.length / 4) (1 + F.length / 4)) P wm (wr.setCell ⟨b0, k, none⟩ (.slice (some ⟨bm, 0, none⟩) (1 + F.length / 4) (1 + F.length / 4)))) := hide ((unhide HM).trans (mstep_setCell wr b0 k cur hcur ((unhide HPI b0).2 (Or.inl rfl))))
          have i1 : (k : Int) < (ps.length : Int) := by omega
          clear hcur
          go_wp2
          go_roundw
          case rel => exact ⟨k + 1, by go_num, hlt, HR2, HM2⟩
          case measure => simp [intOf]; omega
        · obtain rfl : k = ps.length := by omega
          have HM0 : Hid (Marks wr 57 (.slice (some ⟨bm, 0, none⟩) (1 + F.length / 4) (1 + F.length / 4)) P ⟨some ⟨b0, 0, none⟩, ps.length, c0⟩) := hide ⟨by
            have := unhide HR
            rw [List.drop_of_length_le (by omega), List.append_nil] at this
            exact this, fun b hb => (unhide HPI b).2 (Or.inl hb)⟩
          have hszr := (unhide HM).size
          have HNEW : Hid (∀ b, wm.heap.size ≤ b → P b) := hide (fun b hb => (unhide HPI b).2 (Or.inr hb))
          have HSTART : Hid (∀ W, MStep 57 (.slice (some ⟨bm, 0, none⟩) (1 + F.length / 4) (1 + F.length / 4)) P wm W → RowSt W W bw 3 #[vms, .slice none 0 0, vby', vli, .slice none 0 0] 36 30 1 vli vli F.length (F.map Sl.val)) := hide (fun W hW => by
            refine RowSt.start ((hW.out bw hbl (fun h => unhide HPB ((unhide HPI bw).1 h))).trans (unhide HWM).blk) rfl ?_
            exact owns_kept (unhide HWM).lists.row (fun b hl hv => hW.out b hl (fun h => unhide HPV b hv ((unhide HPI b).1 h))))
          go_wp2_with (first | (at_builtin; refine wpList_append_marks _ rfl (.tmp 40) (.tmp 42) 30 rfl 57 i0 (.slice none 0 0) 24 Tryz.underlying30 hi hz0 hz1 hz2 rfl (.slice (some ⟨bm, 0, none⟩) (1 + F.length / 4) (1 + F.length / 4)) rfl P ⟨some ⟨b0, 0, none⟩, ps.length, c0⟩ rfl ((unhide HM0).step ((MStep.refl _ _ _ _).alloc _)) (fun b hb => unhide HNEW b (by simp at hb; omega)) ⟨wr.heap.size, 0, none⟩ 1 1 rfl (World.news_of_block (heap_alloc_new wr _)) (by decide) (by simp only [maxLen]; omega) (by simp only []; omega) ?_; intro ao1 cc1 w1 m1 st1; have hz1' := st1.size; simp only [World.alloc, Array.size_push] at hz1'; have ST1 := (MStep.refl 57 (.slice (some ⟨bm, 0, none⟩) (1 + F.length / 4) (1 + F.length / 4)) P wr).alloc (.cells #[(.slice (some ⟨bm, 0, none⟩) (1 + F.length / 4) (1 + F.length / 4))] 57); have HM01 := hide (((unhide HM0).step ST1).step st1); have HM11 := hide m1; have HW1 := hide (((unhide HM).trans ST1).trans st1); clear m1 st1 ST1) | (at_builtin; refine wpList_append_marks _ rfl (.tmp 44) (.tmp 47) 30 rfl 57 i0 (.slice none 0 0) 24 Tryz.underlying30 hi hz0 hz1 hz2 rfl (.slice (some ⟨bm, 0, none⟩) (1 + F.length / 4) (1 + F.length / 4)) rfl P ⟨some ⟨b0, 0, none⟩, ps.length, c0⟩ rfl ((unhide HM01).step ((MStep.refl _ _ _ _).alloc _)) (fun b hb => unhide HNEW b (by simp at hb; omega)) ⟨w1.heap.size, 0, none⟩ 2 2 rfl (World.news_of_block (heap_alloc_new w1 _)) (by decide) (by simp only [maxLen]; omega) (by simp only []; omega) ?_; intro ao2 cc2 w2 m2 st2; have hz2' := st2.size; simp only [World.alloc, Array.size_push] at hz2'; have ST2 := (MStep.refl 57 (.slice (some ⟨bm, 0, none⟩) (1 + F.length / 4) (1 + F.length / 4)) P w1).alloc (.cells #[(.slice (some ⟨bm, 0, none⟩) (1 + F.length / 4) (1 + F.length / 4)), (.slice (some ⟨bm, 0, none⟩) (1 + F.length / 4) (1 + F.length / 4))] 57); have HM02 := hide (((unhide HM01).step ST2).step st2); have HM12 := hide (((unhide HM11).step ST2).step st2); have HM22 := hide m2; have HW2 := hide (((unhide HW1).trans ST2).trans st2); clear m2 st2 ST2) | (at_builtin; refine wpList_append_marks _ rfl (.tmp 49) (.tmp 53) 30 rfl 57 i0 (.slice none 0 0) 24 Tryz.underlying30 hi hz0 hz1 hz2 rfl (.slice (some ⟨bm, 0, none⟩) (1 + F.length / 4) (1 + F.length / 4)) rfl P ⟨some ⟨b0, 0, none⟩, ps.length, c0⟩ rfl ((unhide HM02).step ((MStep.refl _ _ _ _).alloc _)) (fun b hb => unhide HNEW b (by simp at hb; omega)) ⟨w2.heap.size, 0, none⟩ 3 3 rfl (World.news_of_block (heap_alloc_new w2 _)) (by decide) (by simp only [maxLen]; omega) (by simp only []; omega) ?_; intro ao3 cc3 w3 m3 st3; have hz3' := st3.size; simp only [World.alloc, Array.size_push] at hz3'; have ST3 := (MStep.refl 57 (.slice (some ⟨bm, 0, none⟩) (1 + F.length / 4) (1 + F.length / 4)) P w2).alloc (.cells #[(.slice (some ⟨bm, 0, none⟩) (1 + F.length / 4) (1 + F.length / 4)), (.slice (some ⟨bm, 0, none⟩) (1 + F.length / 4) (1 + F.length / 4)), (.slice (some ⟨bm, 0, none⟩) (1 + F.length / 4) (1 + F.length / 4))] 57); have HM03 := hide (((unhide HM02).step ST3).step st3); have HM13 := hide (((unhide HM12).step ST3).step st3); have HM23 := hide (((unhide HM22).step ST3).step st3); have HM33 := hide m3; have HW3 := hide (((unhide HW2).trans ST3).trans st3); clear m3 st3 ST3; have HR3 := hide (unhide HSTART w3 (unhide HW3)); have c3 := (unhide HR3).cell hcl) | (at_builtin; refine wpList_append_lies _ rfl (.tmp 59) (.tmp 61) 31 rfl 0 30 j0 (.slice none 0 0) 1 24 Tryz.underlying31 hj hy0 hy1 hy2 rfl (by decide) _ (F.length) _ rfl ((unhide HR3).ready #[.slice (some ⟨b0, 0, none⟩) ps.length c0] w3.heap.size rfl).1 ⟨w3.heap.size, 0, none⟩ 1 1 [.slice (some ⟨b0, 0, none⟩) ps.length c0] rfl rfl ((unhide HR3).ready #[.slice (some ⟨b0, 0, none⟩) ps.length c0] w3.heap.size rfl).2 (by intro u hu; simp at hu; subst hu; rfl) (by omega) (by unfold maxLen; omega) (by omega) (Nat.zero_le _) (w3.heap.size + 1) (by simp) ?_; intro g4 cg4 w4 ho4 hg4 hat4 hl4; obtain ⟨c4, f4⟩ := (unhide HR3).behind (by decide) hcl _ hg4; have HR4 := hide ((unhide HR3).step (by decide) #[.slice (some ⟨b0, 0, none⟩) ps.length c0] w3.heap.size rfl ho4 hg4 hat4); have d4 := (unhide HR4).cell hcl; clear ho4 hg4 hat4 hl4) | (at_builtin; refine wpList_append_lies _ rfl (.tmp 69) (.tmp 71) 31 rfl 0 30 j0 (.slice none 0 0) 1 24 Tryz.underlying31 hj hy0 hy1 hy2 rfl (by decide) _ (F.length + 1) _ rfl ((unhide HR4).ready #[.slice ao1 (ps.length + 1) cc1] w4.heap.size (by simp [World.setCell])).1 ⟨w4.heap.size, 0, none⟩ 1 1 [.slice ao1 (ps.length + 1) cc1] rfl rfl ((unhide HR4).ready #[.slice ao1 (ps.length + 1) cc1] w4.heap.size (by simp [World.setCell])).2 (by intro u hu; simp at hu; subst hu; rfl) (by omega) (by unfold maxLen; omega) (by omega) (Nat.zero_le _) (w4.heap.size + 1) (by simp [World.setCell]) ?_; intro g5 cg5 w5 ho5 hg5 hat5 hl5; obtain ⟨c5, f5⟩ := (unhide HR4).behind (by decide) hcl _ hg5; have HR5 := hide ((unhide HR4).step (by decide) #[.slice ao1 (ps.length + 1) cc1] w4.heap.size (by simp [World.setCell]) ho5 hg5 hat5); have d5 := (unhide HR5).cell hcl; clear ho5 hg5 hat5 hl5) | (at_builtin; refine wpList_append_lies _ rfl (.tmp 79) (.tmp 81) 31 rfl 0 30 j0 (.slice none 0 0) 1 24 Tryz.underlying31 hj hy0 hy1 hy2 rfl (by decide) _ (F.length + 1 + 1) _ rfl ((unhide HR5).ready #[.slice ao2 (ps.length + 2) cc2] w5.heap.size (by simp [World.setCell])).1 ⟨w5.heap.size, 0, none⟩ 1 1 [.slice ao2 (ps.length + 2) cc2] rfl rfl ((unhide HR5).ready #[.slice ao2 (ps.length + 2) cc2] w5.heap.size (by simp [World.setCell])).2 (by intro u hu; simp at hu; subst hu; rfl) (by omega) (by unfold maxLen; omega) (by omega) (Nat.zero_le _) (w5.heap.size + 1) (by simp [World.setCell]) ?_; intro g6 cg6 w6 ho6 hg6 hat6 hl6; obtain ⟨c6, f6⟩ := (unhide HR5).behind (by decide) hcl _ hg6; have HR6 := hide ((unhide HR5).step (by decide) #[.slice ao2 (ps.length + 2) cc2] w5.heap.size (by simp [World.setCell]) ho6 hg6 hat6); have d6 := (unhide HR6).cell hcl; clear ho6 hg6 hat6 hl6) | (at_builtin; refine wpList_append_lies _ rfl (.tmp 89) (.tmp 91) 31 rfl 0 30 j0 (.slice none 0 0) 1 24 Tryz.underlying31 hj hy0 hy1 hy2 rfl (by decide) _ (F.length + 1 + 1 + 1) _ rfl ((unhide HR6).ready #[.slice ao3 (ps.length + 3) cc3] w6.heap.size (by simp [World.setCell])).1 ⟨w6.heap.size, 0, none⟩ 1 1 [.slice ao3 (ps.length + 3) cc3] rfl rfl ((unhide HR6).ready #[.slice ao3 (ps.length + 3) cc3] w6.heap.size (by simp [World.setCell])).2 (by intro u hu; simp at hu; subst hu; rfl) (by omega) (by unfold maxLen; omega) (by omega) (Nat.zero_le _) (w6.heap.size + 1) (by simp [World.setCell]) ?_; intro g7 cg7 w7 ho7 hg7 hat7 hl7; obtain ⟨c7, f7⟩ := (unhide HR6).behind (by decide) hcl _ hg7; have HR7 := hide ((unhide HR6).step (by decide) #[.slice ao3 (ps.length + 3) cc3] w6.heap.size (by simp [World.setCell]) ho7 hg7 hat7); have d7 := (unhide HR7).cell hcl; clear ho7 hg7 hat7 hl7))
          go_end0
          have hst := unhide HR7
          have hpe := unhide HPE
          have hw3 := unhide HW3
          have m0 := unhide HM03
          have m1 := unhide HM13
          have m2 := unhide HM23
          have m3 := unhide HM33
          subst hpe
          have hs9 : ∀ b, (Sl.val ⟨some ⟨b0, 0, none⟩, ps.length, c0⟩).ownBlock = some b → T' b = 9 ∧ b < wm.heap.size := fun b hb => by
            have e : b0 = b := by simpa [Sl.val, Value.ownBlock] using hb
            obtain ⟨cur, hc⟩ := owns_blk (unhide HRW)
            rw [← e]; exact ⟨unhide HT0, (Array.getElem?_eq_some_iff.1 hc).1⟩
          simp only [List.append_assoc] at hst
          have hK := kept4_of (s := ⟨some ⟨b0, 0, none⟩, ps.length, c0⟩) (s1 := ⟨ao1, ps.length + 1, cc1⟩) (s2 := ⟨ao2, ps.length + 2, cc2⟩) (s3 := ⟨ao3, ps.length + 3, cc3⟩) (E := F) (by rw [List.map_append]; exact hst) hw3 (unhide HPB) (unhide HPV) m0 m1 m2 m3 (by simp) (by simp) (by simp)
          exact ⟨rfl, _, _, _, _, _, ⟨_, (unhide HWM).keepsL hK hs9 (by simp only []; omega)⟩, (unhide HFRM).trans ((unhide HWM).keepsLFr hK hs9), hEl, by simp⟩
end Go.Proofs.YthbbhpbkoankhaaGreat
