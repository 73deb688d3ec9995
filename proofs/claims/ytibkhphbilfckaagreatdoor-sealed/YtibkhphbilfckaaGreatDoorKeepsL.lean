import Derived.Test.YtibkhphbilfckaaGreatDoorMarks
namespace Go.Proofs.YtibkhphbilfckaaGreatDoor
open Go.RowKit Scour Go.Lib

theorem Tryz.infoLL : (Tryz.prog.info? 30).map (fun i => (i.zero, i.size, i.bytes)) = some (some (.slice none 0 0), 1, 24) := by kernel_rfl

/-- What was there ahead of the script is as it was. -/
structure Fr (T : Nat → Nat) (w w' : World) (T' : Nat → Nat) : Prop where
  os : w'.os = w.os
  tape : w'.tape = w.tape
  output : w'.output = w.output
  size : w.heap.size ≤ w'.heap.size
  zero : ∀ k, k < w.heap.size → T k = 0 → w'.heap[k]? = w.heap[k]? ∧ T' k = 0

theorem Fr.refl (T : Nat → Nat) (w : World) : Fr T w w T := ⟨rfl, rfl, rfl, Nat.le_refl _, fun _ _ h => ⟨rfl, h⟩⟩
theorem Fr.trans {T T1 T2 : Nat → Nat} {w w1 w2 : World} (h : Fr T w w1 T1) (k : Fr T1 w1 w2 T2) : Fr T w w2 T2 :=
  ⟨k.os.trans h.os, k.tape.trans h.tape, k.output.trans h.output, Nat.le_trans h.size k.size, fun i hi h0 => by
    obtain ⟨a, b⟩ := h.zero i hi h0
    obtain ⟨c, d⟩ := k.zero i (Nat.lt_of_lt_of_le hi h.size) b
    exact ⟨c.trans a, d⟩⟩
theorem fr_below {T : Nat → Nat} {w w' : World} (h : Below w.heap.size w w') : Fr T w w' T := ⟨h.os, h.tape, h.output, h.size, fun k hk h0 => ⟨h.block k hk, h0⟩⟩

/-- Lists of bytes that came out, from the k-th on, which nothing owns. -/
structure Free (w : World) (T : Nat → Nat) (b0 c0 : Nat) (gs cs : Nat → Nat) (ps : List Str) (k : Nat) : Prop where
  row : w.ownsRow 0 27 1 (.slice (some ⟨b0, 0, none⟩) ps.length c0) ps.length (outsF gs cs ps ps.length)
  trow : T b0 = 9
  each : ∀ i, k ≤ i → i < ps.length → w.ownsRow 0 5 1 (.slice (some ⟨gs i, 0, none⟩) (pat ps i).length (cs i)) (pat ps i).length ((pat ps i).map encB)
  teach : ∀ i, k ≤ i → i < ps.length → T (gs i) = 9
  apart : ∀ i j, i < ps.length → j < ps.length → gs i = gs j → i = j

theorem LW.keepsFr {w w' : World} {bw : Nat} {T : Nat → Nat} {M : List Ent} {vms vby vli vby' : Value} {E F : List Sl} {mb : Nat → Nat} {s s1 s2 s3 : Sl} (h : LW w bw T M vms vby vli E F mb) (hK : Kept4 w w' bw 2 #[vms, .slice none 0 0, vby, vli, .slice none 0 0] 51 27 5 vby E s (bx E.length) s1 s2 s3 vby')
    (hs9 : ∀ b, s.val.ownBlock = some b → T b = 9 ∧ b < w.heap.size) : Fr T w w' (tagsN T w w' s vby' 4 (btag E.length)) := by
  refine ⟨hK.os, hK.tape, hK.output, hK.size, fun k hk h0 => ?_⟩
  have hn : s.val.ownBlock ≠ some k := fun e => by have := (hs9 k e).1; omega
  refine ⟨hK.frame k hk (fun e => by rw [e, h.tbw] at h0; cases h0) (fun e => by rw [h.bytes.own k e] at h0; cases h0) hn, ?_⟩
  rw [tagsN_old hk hn]; exact h0

theorem LW.keepsLFr {w w' : World} {bw : Nat} {x : Value} {T : Nat → Nat} {M : List Ent} {vms vby vli vli' : Value} {E F : List Sl} {mb : Nat → Nat} {s s1 s2 s3 : Sl} (h : LW w bw T M vms vby vli E F mb) (hK : Kept4 w w' bw 3 #[vms, .slice none 0 0, vby, vli, .slice none 0 0] 51 30 27 vli F s x s1 s2 s3 vli')
    (hs9 : ∀ b, s.val.ownBlock = some b → T b = 9 ∧ b < w.heap.size) : Fr T w w' (tagsN T w w' s vli' 5 (ltag F.length)) := by
  refine ⟨hK.os, hK.tape, hK.output, hK.size, fun k hk h0 => ?_⟩
  have hn : s.val.ownBlock ≠ some k := fun e => by have := (hs9 k e).1; omega
  refine ⟨hK.frame k hk (fun e => by rw [e, h.tbw] at h0; cases h0) (fun e => by rw [h.lists.own k e] at h0; cases h0) hn, ?_⟩
  rw [tagsN_old hk hn]; exact h0

/-- The k-th list is kept: the others are as they were. -/
theorem Free.step {w w' : World} {bw : Nat} {T : Nat → Nat} {M : List Ent} {vms vby vli vby' : Value} {E F : List Sl} {mb : Nat → Nat} {s1 s2 s3 : Sl} {b0 c0 k : Nat} {gs cs : Nat → Nat} {ps : List Str} (h : LW w bw T M vms vby vli E F mb) (hF : Free w T b0 c0 gs cs ps k) (hk : k < ps.length)
    (hK : Kept4 w w' bw 2 #[vms, .slice none 0 0, vby, vli, .slice none 0 0] 51 27 5 vby E ⟨some ⟨gs k, 0, none⟩, (pat ps k).length, cs k⟩ (bx E.length) s1 s2 s3 vby') : Free w' (tagsN T w w' ⟨some ⟨gs k, 0, none⟩, (pat ps k).length, cs k⟩ vby' 4 (btag E.length)) b0 c0 gs cs ps (k + 1) := by
  obtain ⟨curk, hck⟩ := owns_blk (hF.each k (Nat.le_refl _) hk)
  obtain ⟨cur0, hc0⟩ := owns_blk hF.row
  have l0 := (Array.getElem?_eq_some_iff.1 hc0).1
  have hsame : ∀ b, b < w.heap.size → T b = 9 → b ≠ gs k → w'.heap[b]? = w.heap[b]? ∧ tagsN T w w' ⟨some ⟨gs k, 0, none⟩, (pat ps k).length, cs k⟩ vby' 4 (btag E.length) b = 9 := fun b hb h9 hn => by
    have hn' : (Sl.val ⟨some ⟨gs k, 0, none⟩, (pat ps k).length, cs k⟩).ownBlock ≠ some b := fun e => hn (by simpa [Sl.val, Value.ownBlock] using e.symm)
    refine ⟨hK.frame b hb (fun e => by rw [e, h.tbw] at h9; cases h9) (fun e => by rw [h.bytes.own b e] at h9; cases h9) hn', ?_⟩
    rw [tagsN_old hb hn']; exact h9
  have h0 := hsame b0 l0 hF.trow (two_types hc0 hck (by decide))
  refine ⟨owns_same hF.row h0.1, h0.2, fun i hi hl => ?_, fun i hi hl => ?_, hF.apart⟩
  · obtain ⟨curi, hci⟩ := owns_blk (hF.each i (by omega) hl)
    exact owns_same (hF.each i (by omega) hl) (hsame (gs i) (Array.getElem?_eq_some_iff.1 hci).1 (hF.teach i (by omega) hl) (fun e => by have := hF.apart i k hl hk e; omega)).1
  · obtain ⟨curi, hci⟩ := owns_blk (hF.each i (by omega) hl)
    exact (hsame (gs i) (Array.getElem?_eq_some_iff.1 hci).1 (hF.teach i (by omega) hl) (fun e => by have := hF.apart i k hl hk e; omega)).2

set_option maxHeartbeats 4000000 in
set_option maxRecDepth 100000 in
theorem keepsLists_any (bw : Nat) (T : Nat → Nat) (M : List Ent) (vms vby vli : Value) (E F : List Sl) (mb : Nat → Nat) (b0 c0 : Nat) (gs cs : Nat → Nat) (ps : List Str) (w : World) (hW : LW w bw T M vms vby vli E F mb) (hF : Free w T b0 c0 gs cs ps 0)
    (hps : ps.length ≤ 64) (hpl : ∀ i, i < ps.length → (pat ps i).length ≤ 64) (hE : E.length < 900000000000) (hFl : F.length < 900000000000) :
    Calls Tryz.prog 60 #[.pointer (some ⟨bw, 2, none⟩), .slice (some ⟨b0, 0, none⟩) ps.length c0] w fun e w' => e = .returned (.tuple #[]) ∧ ∃ T' vby' vli' E' F' mb', LW w' bw T' M vms vby' vli' E' F' mb' ∧ Fr T w w' T' ∧ E'.length = E.length + 4 * ps.length ∧ F'.length = F.length + 4 := by
  have HF := hide hF
  have HW := hide hW
  have HPL := hide hpl
  clear hF hW hpl
  go_enter Tryz.func60, Tryz.ntmps60
  go_wp2
  go_loopw [4] (fun v wr => ∃ (k : Nat) (T' : Nat → Nat) (vby' : Value) (E' : List Sl), v = .int .i64 k ∧ k ≤ ps.length ∧ E'.length = E.length + 4 * k ∧ Hid (LW wr bw T' M vms vby' vli E' F mb) ∧ Hid (Fr T w wr T') ∧ Hid (Free wr T' b0 c0 gs cs ps k)) (fun v _ => ps.length - (intOf v).toNat)
  case atStart => exact ⟨0, T, vby, E, rfl, Nat.zero_le _, rfl, HW, hide (Fr.refl _ _), HF⟩
  case round =>
    obtain ⟨k, T', vby', E', rfl, hk, hEl, HW1, HFR, HF1⟩ := hrel
    by_cases hlt : k < ps.length
    · have c1 : wr.cell? ⟨b0, k, none⟩ = some (.slice (some ⟨gs k, 0, none⟩) (pat ps k).length (cs k)) := by
        rw [(unhide HF1).row.cellAt k (by omega), outsF_get _ _ _ _ _ hlt, if_pos hlt]
      have hlk := unhide HPL k hlt
      have HS9 : Hid (∀ b, (Sl.val ⟨some ⟨gs k, 0, none⟩, (pat ps k).length, cs k⟩).ownBlock = some b → T' b = 9 ∧ b < wr.heap.size) := hide (fun b hb => by
        have e : gs k = b := by simpa [Sl.val, Value.ownBlock] using hb
        obtain ⟨cur, hc⟩ := owns_blk ((unhide HF1).each k (Nat.le_refl _) hlt)
        rw [← e]; exact ⟨(unhide HF1).teach k (Nat.le_refl _) hlt, (Array.getElem?_eq_some_iff.1 hc).1⟩)
      have HKE := hide (keeps_any bw #[vms, .slice none 0 0, vby', vli, .slice none 0 0] 51 vby' E' ⟨some ⟨gs k, 0, none⟩, (pat ps k).length, cs k⟩ ((pat ps k).map encB) wr (unhide HW1).blk rfl (by decide) (by decide) (unhide HW1).bytes.row ((unhide HF1).each k (Nat.le_refl _) hlt) (by omega) (by simp only []; omega))
      have HST : Hid (∀ w2 s1 s2 s3 vby2, Kept4 wr w2 bw 2 #[vms, .slice none 0 0, vby', vli, .slice none 0 0] 51 27 5 vby' E' ⟨some ⟨gs k, 0, none⟩, (pat ps k).length, cs k⟩ (.int .u8 (markN E'.length)) s1 s2 s3 vby2 → ∃ T2 E2, E2.length = E.length + 4 * (k + 1) ∧ LW w2 bw T2 M vms vby2 vli E2 F mb ∧ Fr T w w2 T2 ∧ Free w2 T2 b0 c0 gs cs ps (k + 1)) := hide (fun w2 s1 s2 s3 vby2 hK =>
        ⟨_, _, by simp; omega, (unhide HW1).keeps hK (unhide HS9) (by simp only []; omega), (unhide HFR).trans ((unhide HW1).keepsFr hK (unhide HS9)), (unhide HF1).step (unhide HW1) hlt hK⟩)
      have i1 : (k : Int) < (ps.length : Int) := by omega
      simp only [Sl.val] at HKE
      go_wp2_with (go_at_call 64; refine (unhide HKE).mono ?_; rintro e w2 ⟨rfl, s1, s2, s3, vby2, hK⟩; obtain ⟨T2, E2, e1, e2, e3, e4⟩ := unhide HST w2 s1 s2 s3 vby2 hK; have HE2 := hide e2; have HE3 := hide e3; have HE4 := hide e4; clear hK e2 e3 e4)
      go_roundw
      case rel => exact ⟨k + 1, T2, vby2, E2, by go_num, hlt, e1, HE2, HE3, HE4⟩
      case measure => simp [intOf]; omega
    · obtain rfl : k = ps.length := by omega
      obtain ⟨i0, hi, hz0, hz1, hz2⟩ := info_parts Tryz.infoL
      obtain ⟨j0, hj, hy0, hy1, hy2⟩ := info_parts Tryz.infoLL
      obtain ⟨l0, hu, hx0, hx1, hx2⟩ := info_parts Tryz.infoB
      have c2 : wr.cell? ⟨bw, 3, none⟩ = some vli := by rw [cell_of_blk (unhide HW1).blk]; rfl
      obtain ⟨ali, cli, hvli⟩ : ∃ ali cli, vli = .slice ali F.length cli := by
        rcases (unhide HW1).lists.row.2 with ⟨h, h0⟩ | ⟨g, cap, cur, h, _⟩
        · exact ⟨none, 0, by rw [h, h0]⟩
        · exact ⟨_, cap, h⟩
      have c2' := c2
      rw [hvli] at c2'
      have HVL := hide hvli
      clear hvli c2
      have HN : Hid ((1 : Int) + (F.length : Int) / 4 = ((1 + F.length / 4 : Nat) : Int)) := hide (by omega)
      have i1 : ¬ (ps.length : Int) < (ps.length : Int) := by omega
      go_wp2_with (first | (at_make; go_loud (refine wpList_make_full _ rfl (.tmp 28) (.tmp 28) 27 rfl 0 5 l0 (.int .u8 0) 1 Tryz.underlying27 hu hx0 hx1 .i64 .i64 _ _ (1 + F.length / 4) rfl rfl (unhide HN) (unhide HN) (by rw [hx2]; omega) (by unfold maxLen; omega) (Nat.zero_le _) ?_); intro wm hown hgrow; have HGW := hide hgrow; clear hown hgrow))
      have hgm := unhide HGW
      have HWM : Hid (LW wm bw T' M vms vby' vli E' F mb) := hide ((unhide HW1).kept hgm.size (fun k hl _ => hgm.block k hl (by simp)))
      have HFRM : Hid (Fr T w wm T') := hide ((unhide HFR).trans (fr_below (below_of_grown hgm (Nat.le_refl _) (fun k h => by cases h))))
      have HRW : Hid (wm.ownsRow 0 27 1 (.slice (some ⟨b0, 0, none⟩) ps.length c0) ps.length (outsF gs cs ps ps.length)) := hide ((unhide HF1).row.kept hgm (by simp [Value.ownBlock]))
      have HT0 := hide (unhide HF1).trow
      have hbm : wr.heap.size ≤ wm.heap.size := hgm.size
      clear hgm HGW HW1 HFR HF1 HF HW c2'
      generalize wr.heap.size = bm at *
      have hxl : (outsF gs cs ps ps.length).length = ps.length := outsF_length _ _ _ _
      generalize outsF gs cs ps ps.length = xs at *
      have hbl := (Array.getElem?_eq_some_iff.1 (unhide HWM).blk).1
      have hcl : 3 < (#[vms, .slice none 0 0, vby', vli, .slice none 0 0] : Array Value).size := by simp
      have HPB : Hid (¬ (some b0 = some bw ∨ wm.heap.size ≤ bw)) := hide (by
        rintro (h | h)
        · obtain ⟨cur, hc⟩ := owns_blk (unhide HRW)
          exact two_types hc (unhide HWM).blk (by decide) (by simpa using h)
        · omega)
      have HPV : Hid (∀ b, vli.ownBlock = some b → ¬ (some b0 = some b ∨ wm.heap.size ≤ b)) := hide (by
        intro b hb
        obtain ⟨cur, hc⟩ := owns_block (unhide HWM).lists.row hb
        rintro (h | h)
        · obtain ⟨cur2, hc2⟩ := owns_blk (unhide HRW)
          exact two_types hc2 hc (by decide) (by simpa using h)
        · have := (Array.getElem?_eq_some_iff.1 hc).1; omega)
      obtain ⟨P, hP⟩ : ∃ P : Nat → Prop, P = fun b => some b0 = some b ∨ wm.heap.size ≤ b := ⟨_, rfl⟩
      have HPI : Hid (∀ b, P b ↔ (some b0 = some b ∨ wm.heap.size ≤ b)) := hide (fun b => by rw [hP])
      have HPE := hide hP
      clear hP
      go_loopw [6] (fun v wr => ∃ k : Nat, v = .int .i64 k ∧ k ≤ ps.length ∧ Hid (wr.ownsRow 0 27 1 (.slice (some ⟨b0, 0, none⟩) ps.length c0) ps.length (List.replicate k (.slice (some ⟨bm, 0, none⟩) (1 + F.length / 4) (1 + F.length / 4)) ++ xs.drop k)) ∧ Hid (MStep 27 (.slice (some ⟨bm, 0, none⟩) (1 + F.length / 4) (1 + F.length / 4)) P wm wr)) (fun v _ => ps.length - (intOf v).toNat)
      case atStart => exact ⟨0, rfl, Nat.zero_le _, HRW, hide (MStep.refl _ _ _ _)⟩
      case round =>
        obtain ⟨k, rfl, hk2, HR, HM⟩ := hrel
        by_cases hlt : k < ps.length
        · obtain ⟨cur, hcur⟩ := owns_blk (unhide HR)
          have c1 : ∃ u, wr.cell? ⟨b0, k, none⟩ = some u := by
            rw [(unhide HR).cellAt k (by omega)]
            exact ⟨_, List.getElem?_eq_getElem (by simp; omega)⟩
          obtain ⟨u, c1⟩ := c1
          have f1 : wr.frozen? ⟨b0, k, none⟩ = false := (unhide HR).frozenAt k
          have HR2 : Hid ((wr.setCell ⟨b0, k, none⟩ (.slice (some ⟨bm, 0, none⟩) (1 + F.length / 4) (1 + F.length / 4))).ownsRow 0 27 1 (.slice (some ⟨b0, 0, none⟩) ps.length c0) ps.length (List.replicate (k + 1) (.slice (some ⟨bm, 0, none⟩) (1 + F.length / 4) (1 + F.length / 4)) ++ xs.drop (k + 1))) := hide (by
            have := ((unhide HR).stored k (.slice (some ⟨bm, 0, none⟩) (1 + F.length / 4) (1 + F.length / 4))).1
            rw [rep_set (.slice (some ⟨bm, 0, none⟩) (1 + F.length / 4) (1 + F.length / 4)) xs k (by omega)] at this
            exact this)
          have HM2 : Hid (MStep 27 (.slice (some ⟨bm, 0, none⟩) (1 + F.length / 4) (1 + F.length / 4)) P wm (wr.setCell ⟨b0, k, none⟩ (.slice (some ⟨bm, 0, none⟩) (1 + F.length / 4) (1 + F.length / 4)))) := hide ((unhide HM).trans (mstep_setCell wr b0 k cur hcur ((unhide HPI b0).2 (Or.inl rfl))))
          have i1 : (k : Int) < (ps.length : Int) := by omega
          clear hcur
          go_wp2
          go_roundw
          case rel => exact ⟨k + 1, by go_num, hlt, HR2, HM2⟩
          case measure => simp [intOf]; omega
        · obtain rfl : k = ps.length := by omega
          have HM0 : Hid (Marks wr 27 (.slice (some ⟨bm, 0, none⟩) (1 + F.length / 4) (1 + F.length / 4)) P ⟨some ⟨b0, 0, none⟩, ps.length, c0⟩) := hide ⟨by
            have := unhide HR
            rw [List.drop_of_length_le (by omega), List.append_nil] at this
            exact this, fun b hb => (unhide HPI b).2 (Or.inl hb)⟩
          have hszr := (unhide HM).size
          have HNEW : Hid (∀ b, wm.heap.size ≤ b → P b) := hide (fun b hb => (unhide HPI b).2 (Or.inr hb))
          have HSTART : Hid (∀ W, MStep 27 (.slice (some ⟨bm, 0, none⟩) (1 + F.length / 4) (1 + F.length / 4)) P wm W → RowSt W W bw 3 #[vms, .slice none 0 0, vby', vli, .slice none 0 0] 51 30 1 vli vli F.length (F.map Sl.val)) := hide (fun W hW => by
            refine RowSt.start ((hW.out bw hbl (fun h => unhide HPB ((unhide HPI bw).1 h))).trans (unhide HWM).blk) rfl ?_
            exact owns_kept (unhide HWM).lists.row (fun b hl hv => hW.out b hl (fun h => unhide HPV b hv ((unhide HPI b).1 h))))
          go_wp2_with (first | (at_builtin; refine wpList_append_marks _ rfl (.tmp 40) (.tmp 42) 30 rfl 27 i0 (.slice none 0 0) 24 Tryz.underlying30 hi hz0 hz1 hz2 rfl (.slice (some ⟨bm, 0, none⟩) (1 + F.length / 4) (1 + F.length / 4)) rfl P ⟨some ⟨b0, 0, none⟩, ps.length, c0⟩ rfl ((unhide HM0).step ((MStep.refl _ _ _ _).alloc _)) (fun b hb => unhide HNEW b (by simp at hb; omega)) ⟨wr.heap.size, 0, none⟩ 1 1 rfl (World.news_of_block (heap_alloc_new wr _)) (by decide) (by simp only [maxLen]; omega) (by simp only []; omega) ?_; intro ao1 cc1 w1 m1 st1; have hz1' := st1.size; simp only [World.alloc, Array.size_push] at hz1'; have ST1 := (MStep.refl 27 (.slice (some ⟨bm, 0, none⟩) (1 + F.length / 4) (1 + F.length / 4)) P wr).alloc (.cells #[(.slice (some ⟨bm, 0, none⟩) (1 + F.length / 4) (1 + F.length / 4))] 27); have HM01 := hide (((unhide HM0).step ST1).step st1); have HM11 := hide m1; have HW1 := hide (((unhide HM).trans ST1).trans st1); clear m1 st1 ST1) | (at_builtin; refine wpList_append_marks _ rfl (.tmp 44) (.tmp 47) 30 rfl 27 i0 (.slice none 0 0) 24 Tryz.underlying30 hi hz0 hz1 hz2 rfl (.slice (some ⟨bm, 0, none⟩) (1 + F.length / 4) (1 + F.length / 4)) rfl P ⟨some ⟨b0, 0, none⟩, ps.length, c0⟩ rfl ((unhide HM01).step ((MStep.refl _ _ _ _).alloc _)) (fun b hb => unhide HNEW b (by simp at hb; omega)) ⟨w1.heap.size, 0, none⟩ 2 2 rfl (World.news_of_block (heap_alloc_new w1 _)) (by decide) (by simp only [maxLen]; omega) (by simp only []; omega) ?_; intro ao2 cc2 w2 m2 st2; have hz2' := st2.size; simp only [World.alloc, Array.size_push] at hz2'; have ST2 := (MStep.refl 27 (.slice (some ⟨bm, 0, none⟩) (1 + F.length / 4) (1 + F.length / 4)) P w1).alloc (.cells #[(.slice (some ⟨bm, 0, none⟩) (1 + F.length / 4) (1 + F.length / 4)), (.slice (some ⟨bm, 0, none⟩) (1 + F.length / 4) (1 + F.length / 4))] 27); have HM02 := hide (((unhide HM01).step ST2).step st2); have HM12 := hide (((unhide HM11).step ST2).step st2); have HM22 := hide m2; have HW2 := hide (((unhide HW1).trans ST2).trans st2); clear m2 st2 ST2) | (at_builtin; refine wpList_append_marks _ rfl (.tmp 49) (.tmp 53) 30 rfl 27 i0 (.slice none 0 0) 24 Tryz.underlying30 hi hz0 hz1 hz2 rfl (.slice (some ⟨bm, 0, none⟩) (1 + F.length / 4) (1 + F.length / 4)) rfl P ⟨some ⟨b0, 0, none⟩, ps.length, c0⟩ rfl ((unhide HM02).step ((MStep.refl _ _ _ _).alloc _)) (fun b hb => unhide HNEW b (by simp at hb; omega)) ⟨w2.heap.size, 0, none⟩ 3 3 rfl (World.news_of_block (heap_alloc_new w2 _)) (by decide) (by simp only [maxLen]; omega) (by simp only []; omega) ?_; intro ao3 cc3 w3 m3 st3; have hz3' := st3.size; simp only [World.alloc, Array.size_push] at hz3'; have ST3 := (MStep.refl 27 (.slice (some ⟨bm, 0, none⟩) (1 + F.length / 4) (1 + F.length / 4)) P w2).alloc (.cells #[(.slice (some ⟨bm, 0, none⟩) (1 + F.length / 4) (1 + F.length / 4)), (.slice (some ⟨bm, 0, none⟩) (1 + F.length / 4) (1 + F.length / 4)), (.slice (some ⟨bm, 0, none⟩) (1 + F.length / 4) (1 + F.length / 4))] 27); have HM03 := hide (((unhide HM02).step ST3).step st3); have HM13 := hide (((unhide HM12).step ST3).step st3); have HM23 := hide (((unhide HM22).step ST3).step st3); have HM33 := hide m3; have HW3 := hide (((unhide HW2).trans ST3).trans st3); clear m3 st3 ST3; have HR3 := hide (unhide HSTART w3 (unhide HW3)); have c3 := (unhide HR3).cell hcl) | (at_builtin; refine wpList_append_lies _ rfl (.tmp 59) (.tmp 61) 46 rfl 0 30 j0 (.slice none 0 0) 1 24 Tryz.underlying46 hj hy0 hy1 hy2 rfl (by decide) _ (F.length) _ rfl ((unhide HR3).ready #[.slice (some ⟨b0, 0, none⟩) ps.length c0] w3.heap.size rfl).1 ⟨w3.heap.size, 0, none⟩ 1 1 [.slice (some ⟨b0, 0, none⟩) ps.length c0] rfl rfl ((unhide HR3).ready #[.slice (some ⟨b0, 0, none⟩) ps.length c0] w3.heap.size rfl).2 (by intro u hu; simp at hu; subst hu; rfl) (by omega) (by unfold maxLen; omega) (by omega) (Nat.zero_le _) (w3.heap.size + 1) (by simp) ?_; intro g4 cg4 w4 ho4 hg4 hat4 hl4; obtain ⟨c4, f4⟩ := (unhide HR3).behind (by decide) hcl _ hg4; have HR4 := hide ((unhide HR3).step (by decide) #[.slice (some ⟨b0, 0, none⟩) ps.length c0] w3.heap.size rfl ho4 hg4 hat4); have d4 := (unhide HR4).cell hcl; clear ho4 hg4 hat4 hl4) | (at_builtin; refine wpList_append_lies _ rfl (.tmp 69) (.tmp 71) 46 rfl 0 30 j0 (.slice none 0 0) 1 24 Tryz.underlying46 hj hy0 hy1 hy2 rfl (by decide) _ (F.length + 1) _ rfl ((unhide HR4).ready #[.slice ao1 (ps.length + 1) cc1] w4.heap.size (by simp [World.setCell])).1 ⟨w4.heap.size, 0, none⟩ 1 1 [.slice ao1 (ps.length + 1) cc1] rfl rfl ((unhide HR4).ready #[.slice ao1 (ps.length + 1) cc1] w4.heap.size (by simp [World.setCell])).2 (by intro u hu; simp at hu; subst hu; rfl) (by omega) (by unfold maxLen; omega) (by omega) (Nat.zero_le _) (w4.heap.size + 1) (by simp [World.setCell]) ?_; intro g5 cg5 w5 ho5 hg5 hat5 hl5; obtain ⟨c5, f5⟩ := (unhide HR4).behind (by decide) hcl _ hg5; have HR5 := hide ((unhide HR4).step (by decide) #[.slice ao1 (ps.length + 1) cc1] w4.heap.size (by simp [World.setCell]) ho5 hg5 hat5); have d5 := (unhide HR5).cell hcl; clear ho5 hg5 hat5 hl5) | (at_builtin; refine wpList_append_lies _ rfl (.tmp 79) (.tmp 81) 46 rfl 0 30 j0 (.slice none 0 0) 1 24 Tryz.underlying46 hj hy0 hy1 hy2 rfl (by decide) _ (F.length + 1 + 1) _ rfl ((unhide HR5).ready #[.slice ao2 (ps.length + 2) cc2] w5.heap.size (by simp [World.setCell])).1 ⟨w5.heap.size, 0, none⟩ 1 1 [.slice ao2 (ps.length + 2) cc2] rfl rfl ((unhide HR5).ready #[.slice ao2 (ps.length + 2) cc2] w5.heap.size (by simp [World.setCell])).2 (by intro u hu; simp at hu; subst hu; rfl) (by omega) (by unfold maxLen; omega) (by omega) (Nat.zero_le _) (w5.heap.size + 1) (by simp [World.setCell]) ?_; intro g6 cg6 w6 ho6 hg6 hat6 hl6; obtain ⟨c6, f6⟩ := (unhide HR5).behind (by decide) hcl _ hg6; have HR6 := hide ((unhide HR5).step (by decide) #[.slice ao2 (ps.length + 2) cc2] w5.heap.size (by simp [World.setCell]) ho6 hg6 hat6); have d6 := (unhide HR6).cell hcl; clear ho6 hg6 hat6 hl6) | (at_builtin; refine wpList_append_lies _ rfl (.tmp 89) (.tmp 91) 46 rfl 0 30 j0 (.slice none 0 0) 1 24 Tryz.underlying46 hj hy0 hy1 hy2 rfl (by decide) _ (F.length + 1 + 1 + 1) _ rfl ((unhide HR6).ready #[.slice ao3 (ps.length + 3) cc3] w6.heap.size (by simp [World.setCell])).1 ⟨w6.heap.size, 0, none⟩ 1 1 [.slice ao3 (ps.length + 3) cc3] rfl rfl ((unhide HR6).ready #[.slice ao3 (ps.length + 3) cc3] w6.heap.size (by simp [World.setCell])).2 (by intro u hu; simp at hu; subst hu; rfl) (by omega) (by unfold maxLen; omega) (by omega) (Nat.zero_le _) (w6.heap.size + 1) (by simp [World.setCell]) ?_; intro g7 cg7 w7 ho7 hg7 hat7 hl7; obtain ⟨c7, f7⟩ := (unhide HR6).behind (by decide) hcl _ hg7; have HR7 := hide ((unhide HR6).step (by decide) #[.slice ao3 (ps.length + 3) cc3] w6.heap.size (by simp [World.setCell]) ho7 hg7 hat7); have d7 := (unhide HR7).cell hcl; clear ho7 hg7 hat7 hl7))
          go_end0
          have hst := unhide HR7
          have hpe := unhide HPE
          have hw3 := unhide HW3
          have m0 := unhide HM03
          have m1 := unhide HM13
          have m2 := unhide HM23
          have m3 := unhide HM33
          subst hpe
          have hs9 : ∀ b, (Sl.val ⟨some ⟨b0, 0, none⟩, ps.length, c0⟩).ownBlock = some b → T' b = 9 ∧ b < wm.heap.size := fun b hb => by
            have e : b0 = b := by simpa [Sl.val, Value.ownBlock] using hb
            obtain ⟨cur, hc⟩ := owns_blk (unhide HRW)
            rw [← e]; exact ⟨unhide HT0, (Array.getElem?_eq_some_iff.1 hc).1⟩
          simp only [List.append_assoc] at hst
          have hK := kept4_of (s := ⟨some ⟨b0, 0, none⟩, ps.length, c0⟩) (s1 := ⟨ao1, ps.length + 1, cc1⟩) (s2 := ⟨ao2, ps.length + 2, cc2⟩) (s3 := ⟨ao3, ps.length + 3, cc3⟩) (E := F) (by rw [List.map_append]; exact hst) hw3 (unhide HPB) (unhide HPV) m0 m1 m2 m3 (by simp) (by simp) (by simp)
          exact ⟨rfl, _, _, _, _, _, ⟨_, (unhide HWM).keepsL hK hs9 (by simp only []; omega)⟩, (unhide HFRM).trans ((unhide HWM).keepsLFr hK hs9), hEl, by simp⟩
end Go.Proofs.YtibkhphbilfckaaGreatDoor

namespace Go.Proofs.YtibkhphbilfckaaGreatDoor
open Go.RowKit Scour Go.Lib

/-- An entry of the book, and its elements. -/
theorem BookOK.entry {w : World} {T : Nat → Nat} {rt et tr : Nat} {tg : Nat → Nat} {x : Nat → Value} {v : Value} {E : List Sl} (h : BookOK w T rt et tr tg x v E) (i : Nat) (hi : i < E.length) :
    ∃ (g cap : Nat) (ao : Option Addr) (n c : Nat), v = .slice (some ⟨g, 0, none⟩) E.length cap ∧ E[i]? = some ⟨ao, n, c⟩ ∧ w.cell? ⟨g, i, none⟩ = some (.slice ao n c) ∧ n < 1000000000 ∧ ∀ j, j < n → ∃ b, ao = some ⟨b, 0, none⟩ ∧ T b = tg i ∧ w.cell? ⟨b, j, none⟩ = some (x i) ∧ w.frozen? ⟨b, j, none⟩ = false := by
  obtain ⟨g, cap, hv, _, _⟩ := h.row.form (by omega)
  have hs : E[i]? = some E[i] := List.getElem?_eq_getElem hi
  have hm := h.each i E[i] hs
  have hl := h.lens E[i] (List.getElem_mem _)
  have hc : w.cell? ⟨g, i, none⟩ = some (E[i]).val := by
    have hr := h.row
    rw [hv] at hr
    rw [hr.cellAt i (by omega)]
    simp [hi]
  generalize E[i] = s at *
  obtain ⟨ao, n, c⟩ := s
  refine ⟨g, cap, ao, n, c, hv, hs, hc, hl, fun j hj => ?_⟩
  obtain ⟨b, cap2, hv2, _, _⟩ := hm.row.form (by simp only []; omega)
  simp only [Sl.val, Value.slice.injEq, true_and] at hv2
  obtain ⟨rfl, rfl⟩ := hv2
  have hr := hm.row
  simp only [Sl.val] at hr
  refine ⟨b, rfl, hm.own b rfl, ?_, hr.frozenAt j⟩
  rw [hr.cellAt j (by omega), List.getElem?_replicate, if_pos hj]

set_option maxHeartbeats 4000000 in
set_option maxRecDepth 100000 in
theorem looks_any (bw : Nat) (T : Nat → Nat) (M : List Ent) (vms vby vli : Value) (E F : List Sl) (mb : Nat → Nat) (w : World) (hW : LW w bw T M vms vby vli E F mb) (hE : E.length < 900000000000) (hFl : F.length < 900000000000) :
    Calls Tryz.prog 19 #[.pointer (some ⟨bw, 2, none⟩)] w fun e w' => e = .returned (.bool true) ∧ Below w.heap.size w w' := by
  have c2 : w.cell? ⟨bw, 2, none⟩ = some vby := by rw [cell_of_blk hW.blk]; rfl
  have c3 : w.cell? ⟨bw, 3, none⟩ = some vli := by rw [cell_of_blk hW.blk]; rfl
  have c4 : w.cell? ⟨bw, 4, none⟩ = some (.slice none 0 0) := by rw [cell_of_blk hW.blk]; rfl
  have HB := hide hW.bytes
  have HL := hide hW.lists
  obtain ⟨aby, cby, hvby⟩ : ∃ aby cby, vby = .slice aby E.length cby := by
    rcases hW.bytes.row.2 with ⟨h, h0⟩ | ⟨g, cap, cur, h, _⟩
    · exact ⟨none, 0, by rw [h, h0]⟩
    · exact ⟨_, cap, h⟩
  subst hvby
  obtain ⟨ali, cli, hvli⟩ : ∃ ali cli, vli = .slice ali F.length cli := by
    rcases hW.lists.row.2 with ⟨h, h0⟩ | ⟨g, cap, cur, h, _⟩
    · exact ⟨none, 0, by rw [h, h0]⟩
    · exact ⟨_, cap, h⟩
  subst hvli
  clear hW
  go_enter Tryz.func19, Tryz.ntmps19
  go_wp2
  go_loopw [3] (fun v wr => ∃ k m : Nat, v = .int .i64 k ∧ wr = w.drewN m ∧ k ≤ E.length) (fun v _ => E.length - (intOf v).toNat)
  case atStart => exact ⟨0, 0, rfl, rfl, Nat.zero_le _⟩
  case round =>
    obtain ⟨k, m, rfl, rfl, hk⟩ := hrel
    by_cases hlt : k < E.length
    · obtain ⟨g, cap, ao, n, c, hv, hEk, ce, hn, hall⟩ := (unhide HB).entry k hlt
      obtain ⟨rfl, rfl⟩ : aby = some ⟨g, 0, none⟩ ∧ cby = cap := by simpa using hv
      have HALL := hide hall
      have i1 : (k : Int) < (E.length : Int) := by omega
      have i2 : (0 : Int) ≤ (k : Int) := by omega
      clear hv hall hEk
      go_wp2
      go_loopw [4] (fun v wz => ∃ j m : Nat, v = .int .i64 j ∧ wz = w.drewN m ∧ j ≤ n) (fun v _ => n - (intOf v).toNat)
      case atStart => exact ⟨0, m, rfl, rfl, Nat.zero_le _⟩
      case round =>
        obtain ⟨j, m2, rfl, rfl, hj⟩ := hrel
        by_cases hjn : j < n
        · obtain ⟨b, rfl, _, cj, _⟩ := unhide HALL j hjn
          unfold bx at cj
          have j1 : (j : Int) < (n : Int) := by omega
          have j2 : (0 : Int) ≤ (j : Int) := by omega
          have hkm : k < 9000000000000000000 := by omega
          have z2 : (w.drewN m2).cell? ⟨bw, 2, none⟩ = some (.slice (some ⟨g, 0, none⟩) E.length cby) := c2
          have z3 : (w.drewN m2).cell? ⟨g, k, none⟩ = some (.slice (some ⟨b, 0, none⟩) n c) := ce
          have z4 : (w.drewN m2).cell? ⟨b, j, none⟩ = some (.int .u8 (markN k)) := cj
          obtain ⟨wz, hwz⟩ : ∃ wz, w.drewN m2 = wz := ⟨_, rfl⟩
          rw [hwz] at z2 z3 z4 ⊢
          have HWZ := hide hwz
          clear hwz
          go_wp2_with fail
          go_quiet ((go_at_call 33; exact Calls.quiet_of_same (mark_any _ _ hkm)))
          go_wp2_with fail
          go_roundw
          case rel => exact ⟨j + 1, m2 + nq, by go_num, by rw [← unhide HWZ, World.drewN_drewN], hjn⟩
          case measure => simp [intOf]; omega
        · obtain rfl : j = n := by omega
          have j1 : ¬ (j : Int) < (j : Int) := by omega
          go_wp2_with fail
          go_roundw
          case rel => exact ⟨k + 1, m2, by go_num, rfl, hlt⟩
          case measure => simp [intOf]; omega
    · obtain rfl : k = E.length := by omega
      have i1 : ¬ (E.length : Int) < (E.length : Int) := by omega
      go_wp2
      go_loopw [5] (fun v wr => ∃ k m : Nat, v = .int .i64 k ∧ wr = w.drewN m ∧ k ≤ F.length) (fun v _ => F.length - (intOf v).toNat)
      case atStart => exact ⟨0, m, rfl, rfl, Nat.zero_le _⟩
      case round =>
        obtain ⟨k, m, rfl, rfl, hk⟩ := hrel
        by_cases hlt : k < F.length
        · obtain ⟨g, cap, ao, n, c, hv, hEk, ce, hn, hall⟩ := (unhide HL).entry k hlt
          obtain ⟨rfl, rfl⟩ : ali = some ⟨g, 0, none⟩ ∧ cli = cap := by simpa using hv
          have HALL := hide hall
          have i1 : (k : Int) < (F.length : Int) := by omega
          have i2 : (0 : Int) ≤ (k : Int) := by omega
          clear hv hall hEk
          go_wp2
          go_loopw [6] (fun v wz => ∃ j m : Nat, v = .int .i64 j ∧ wz = w.drewN m ∧ j ≤ n) (fun v _ => n - (intOf v).toNat)
          case atStart => exact ⟨0, m, rfl, rfl, Nat.zero_le _⟩
          case round =>
            obtain ⟨j, m2, rfl, rfl, hj⟩ := hrel
            by_cases hjn : j < n
            · obtain ⟨b, rfl, _, cj, _⟩ := unhide HALL j hjn
              unfold lxs at cj
              have j1 : (j : Int) < (n : Int) := by omega
              have j2 : (0 : Int) ≤ (j : Int) := by omega
              have hkm : k < 9000000000000000000 := by omega
              go_wp2_with fail
              go_roundw
              case rel => exact ⟨j + 1, m2, by go_num, rfl, hjn⟩
              case measure => simp [intOf]; omega
            · obtain rfl : j = n := by omega
              have j1 : ¬ (j : Int) < (j : Int) := by omega
              go_wp2_with fail
              go_roundw
              case rel => exact ⟨k + 1, m2, by go_num, rfl, hlt⟩
              case measure => simp [intOf]; omega
        · obtain rfl : k = F.length := by omega
          have i1 : ¬ (F.length : Int) < (F.length : Int) := by omega
          go_wp2
          go_loopw [7] (fun v wr => ∃ k m : Nat, v = .int .i64 k ∧ wr = w.drewN m ∧ k = 0) (fun v _ => (intOf v).toNat)
          case atStart => exact ⟨0, m, rfl, rfl, rfl⟩
          case round =>
            obtain ⟨k, m, rfl, rfl, rfl⟩ := hrel
            go_wp2
            go_ret
            exact ⟨rfl, below_drewN (Below.refl _ _) _⟩
end Go.Proofs.YtibkhphbilfckaaGreatDoor

namespace Go.Proofs.YtibkhphbilfckaaGreatDoor
open Go.RowKit Scour Go.Lib

/-- A list, its elements being what they may be. -/
structure Shape (w : World) (e : TypeId) (P : Nat → Prop) (s : Sl) : Prop where
  row : ∃ xs, w.ownsRow 0 e 1 s.val s.n xs
  own : ∀ b, s.val.ownBlock = some b → P b

theorem Marks.shape {w : World} {e : TypeId} {x : Value} {P : Nat → Prop} {s : Sl} (h : Marks w e x P s) : Shape w e P s := ⟨⟨_, h.row⟩, h.own⟩

theorem Shape.step {w w' : World} {e : TypeId} {x : Value} {P : Nat → Prop} {s : Sl} (h : Shape w e P s) (k : MStep e x P w w') : Shape w' e P s := by
  obtain ⟨xs, hr⟩ := h.row
  refine ⟨?_, h.own⟩
  rcases hr.2 with ⟨hv, h0⟩ | ⟨g, cap, cur, hv, h2, h3, h4, h5, h6, h7⟩
  · exact ⟨xs, hr.1, Or.inl ⟨hv, h0⟩⟩
  · obtain ⟨cur', k1, k2, _⟩ := k.ins g cur (h.own g (by rw [hv]; rfl)) h3
    exact ⟨cur'.toList.take (s.n * 1), by rw [List.length_take, Array.length_toList, k2, h6]; omega, Or.inr ⟨g, cap, cur', hv, h2, k1, h4, h5, k2.trans h6, rfl⟩⟩

/-- Its elements. -/
theorem Shape.at {w : World} {e : TypeId} {P : Nat → Prop} {ao : Option Addr} {n c : Nat} (h : Shape w e P ⟨ao, n, c⟩) {j : Nat} (hj : j < n) : ∃ b u cur, ao = some ⟨b, 0, none⟩ ∧ P b ∧ w.cell? ⟨b, j, none⟩ = some u ∧ w.frozen? ⟨b, j, none⟩ = false ∧ w.heap[b]? = some (.cells cur e (0, 0)) := by
  obtain ⟨xs, hr⟩ := h.row
  obtain ⟨b, cap2, hv2, _, _⟩ := hr.form (by simp only []; omega)
  simp only [Sl.val, Value.slice.injEq, true_and] at hv2
  obtain ⟨rfl, rfl⟩ := hv2
  simp only [Sl.val] at hr
  obtain ⟨cur, hc⟩ := owns_blk hr
  have hl : xs.length = n := by have := hr.1; omega
  exact ⟨b, xs[j], cur, rfl, h.own b rfl, by rw [hr.cellAt j (by omega), List.getElem?_eq_getElem (by omega)], hr.frozenAt j, hc⟩

/-- A group of the book: the rest of the book stays while its elements turn. -/
theorem LW.group {w w' : World} {bw : Nat} {T : Nat → Nat} {M : List Ent} {vms vby vli x : Value} {E F : List Sl} {mb : Nat → Nat} {n : Nat} (h : LW w bw T M vms vby vli E F mb) (hs : MStep 5 x (fun b => T b = btag n) w w') :
    w'.heap[bw]? = w.heap[bw]? ∧ w'.ownsRow 0 27 1 vby E.length (E.map Sl.val) ∧ Fr T w w' T ∧ ∀ k, k < w.heap.size → T k ≠ btag n → w'.heap[k]? = w.heap[k]? := by
  have hbl := (Array.getElem?_eq_some_iff.1 h.blk).1
  refine ⟨hs.out bw hbl (by rw [h.tbw]; exact btag_ne (by omega)), owns_kept h.bytes.row (fun b hl hv => hs.out b hl (by rw [h.bytes.own b hv]; exact btag_ne (by omega))), ⟨hs.os, hs.tape, hs.output, hs.size, fun k hk h0 => ⟨hs.out k hk (by rw [h0]; exact btag_ne (by omega)), h0⟩⟩, fun k hk hn => hs.out k hk hn⟩

/-- Behind the marks. -/
theorem LW.again {w w' : World} {bw : Nat} {T : Nat → Nat} {M : List Ent} {vms vby vli : Value} {E F : List Sl} {mb : Nat → Nat} {n : Nat} (h : LW w bw T M vms vby vli E F mb) (hsz : w.heap.size ≤ w'.heap.size) (hs : ∀ k, k < w.heap.size → T k ≠ btag n → w'.heap[k]? = w.heap[k]?)
    (hm : ∀ i s, btag i = btag n → E[i]? = some s → Marks w' 5 (bx i) (fun b => T b = btag i) s) : LW w' bw T M vms vby vli E F mb := by
  have hbl := (Array.getElem?_eq_some_iff.1 h.blk).1
  refine ⟨(hs bw hbl (by rw [h.tbw]; exact btag_ne (by omega))).trans h.blk, h.tbw, owns_kept h.ms (fun b hl hv => hs b hl (by rw [h.msown b hv]; exact btag_ne (by omega))), h.msown, fun e he => (h.ents e he).same hsz (fun k hl ht => hs k hl (by rw [ht]; exact btag_ne (by omega))) (fun _ _ ht => ht), ?_, ?_, fun k hl => h.fresh k (by omega)⟩
  · refine ⟨owns_kept h.bytes.row (fun b hl hv => hs b hl (by rw [h.bytes.own b hv]; exact btag_ne (by omega))), h.bytes.own, fun i s hi => ?_, h.bytes.four, h.bytes.lens⟩
    by_cases e : btag i = btag n
    · exact hm i s e hi
    · exact (h.bytes.each i s hi).same (fun b hl hp => hs b hl (by rw [hp]; exact e))
  · exact h.lists.same (fun k hl ht => hs k hl (by rcases ht with ht | ⟨i, ht⟩ <;> rw [ht]; exact btag_ne (by omega); unfold ltag btag; omega)) (fun _ _ _ => rfl)

theorem btag_group {n i : Nat} (h4 : n % 4 = 0) (h1 : n ≤ i) (h2 : i < n + 4) : btag i = btag n ∧ bx i = bx n := by
  have e : i / 4 = n / 4 := by omega
  unfold btag bx markN; rw [e]; exact ⟨rfl, rfl⟩
theorem mark_group {n i : Nat} (h4 : n % 4 = 0) (h1 : n ≤ i) (h2 : i < n + 4) : markN i = markN n := by
  have e : i / 4 = n / 4 := by omega
  unfold markN; rw [e]
theorem btag_far {n i : Nat} (h4 : n % 4 = 0) (h : i < n ∨ n + 4 ≤ i) : btag i ≠ btag n := by
  unfold btag; omega
theorem mark_not7 (i : Nat) : (((markN i : Nat) : Int) == 7) = false := by
  unfold markN; simp only [beq_eq_false_iff_ne, ne_eq]; omega

theorem mark_below (n : Nat) (w : World) (hn : n < 9000000000000000000) :
    Calls Tryz.prog 33 #[.int .i64 n] w fun e w' => e = .returned (.int .u8 (markN n)) ∧ Below w.heap.size w w' :=
  (mark_any n w hn).mono (fun _ _ h => ⟨h.1, by rw [h.2]; exact Below.refl _ _⟩)

theorem mstep_below {e : TypeId} {x : Value} {P : Nat → Prop} {w w' : World} (h : Below w.heap.size w w') : MStep e x P w w' := mstep_of_grown (grown_of_below h none)

set_option maxHeartbeats 4000000 in
set_option maxRecDepth 100000 in
theorem apart_any (bw : Nat) (T : Nat → Nat) (M : List Ent) (vms vby vli : Value) (E F : List Sl) (mb : Nat → Nat) (w : World) (hW : LW w bw T M vms vby vli E F mb) (hE : E.length < 900000000000) :
    Calls Tryz.prog 20 #[.pointer (some ⟨bw, 2, none⟩)] w fun e w' => e = .returned (.bool true) ∧ LW w' bw T M vms vby vli E F mb ∧ Fr T w w' T := by
  obtain ⟨aby, cby, hvby⟩ : ∃ aby cby, vby = .slice aby E.length cby := by
    rcases hW.bytes.row.2 with ⟨h, h0⟩ | ⟨g, cap, cur, h, _⟩
    · exact ⟨none, 0, by rw [h, h0]⟩
    · exact ⟨_, cap, h⟩
  subst hvby
  have h4 := hW.bytes.four
  have HW := hide hW
  have HCC : Hid (∀ W, LW W bw T M vms (.slice aby E.length cby) vli E F mb → W.cell? ⟨bw, 2, none⟩ = some (.slice aby E.length cby)) := hide (fun W h => by rw [cell_of_blk h.blk]; rfl)
  clear hW
  go_enter Tryz.func20, Tryz.ntmps20
  go_wp2
  go_loopw [3] (fun v wr => ∃ q : Nat, v = .int .i64 (4 * q : Nat) ∧ 4 * q ≤ E.length ∧ Hid (LW wr bw T M vms (.slice aby E.length cby) vli E F mb) ∧ Hid (Fr T w wr T)) (fun v _ => E.length - (intOf v).toNat)
  case atStart => exact ⟨0, rfl, Nat.zero_le _, HW, hide (Fr.refl _ _)⟩
  case round =>
    obtain ⟨q, rfl, hq, HWr, HFr⟩ := hrel
    have c0 := unhide HCC wr (unhide HWr)
    obtain ⟨n, hn⟩ : ∃ n, 4 * q = n := ⟨_, rfl⟩
    rw [hn] at hq ⊢
    have hn4 : n % 4 = 0 := by omega
    have HNQ := hide hn
    clear hn
    by_cases hlt : n < E.length
    · have hn3 : n + 4 ≤ E.length := by omega
      obtain ⟨g, cap, ao', n', c', hv, _⟩ := (unhide HWr).bytes.entry n hlt
      obtain ⟨rfl, rfl⟩ : aby = some ⟨g, 0, none⟩ ∧ cby = cap := by simpa using hv
      clear hv
      have i1 : (n : Int) < (E.length : Int) := by omega
      have HSH : Hid (∀ i, i < E.length → ∃ ao m c, E[i]? = some ⟨ao, m, c⟩ ∧ m < 1000000000 ∧ wr.cell? ⟨g, i, none⟩ = some (.slice ao m c) ∧ Marks wr 5 (bx i) (fun b => T b = btag i) ⟨ao, m, c⟩) := hide (fun i hi => by
        obtain ⟨g2, cap2, ao, m, c, hv, hEi, ce, hm, _⟩ := (unhide HWr).bytes.entry i hi
        obtain ⟨rfl, rfl⟩ : g = g2 ∧ cby = cap2 := by simpa using hv
        exact ⟨ao, m, c, hEi, hm, ce, (unhide HWr).bytes.each i _ hEi⟩)
      have HGR : Hid (∀ x W, MStep 5 x (fun b => T b = btag n) wr W → W.cell? ⟨bw, 2, none⟩ = some (.slice (some ⟨g, 0, none⟩) E.length cby) ∧ (∀ i, W.cell? ⟨g, i, none⟩ = wr.cell? ⟨g, i, none⟩)) := hide (fun x W h => by
        obtain ⟨a1, a2, a3, a4⟩ := (unhide HWr).group h
        refine ⟨(World.cell?_of_block (a := ⟨bw, 2, none⟩) a1).trans c0, fun i => World.cell?_of_block (a := ⟨g, i, none⟩) ?_⟩
        obtain ⟨cur, hc⟩ := owns_blk (unhide HWr).bytes.row
        exact a4 g (Array.getElem?_eq_some_iff.1 hc).1 (by rw [(unhide HWr).bytes.own g rfl]; exact btag_ne (by omega)))
      obtain ⟨w0, hw0⟩ : ∃ w0, w0 = wr := ⟨_, rfl⟩
      subst hw0
      go_wp2
      go_loopw [4] (fun v wr => ∃ i : Nat, v = .int .i64 i ∧ n ≤ i ∧ i ≤ n + 4 ∧ Hid (MStep 5 (.int .u8 7) (fun b => T b = btag n) w0 wr)) (fun v _ => n + 4 - (intOf v).toNat)
      case atStart => exact ⟨n, rfl, Nat.le_refl _, by omega, hide (MStep.refl _ _ _ _)⟩
      case round =>
        obtain ⟨i, rfl, hi1, hi2, HA⟩ := hrel
        have cb := (unhide HGR _ _ (unhide HA)).1
        by_cases hil : i < n + 4
        · obtain ⟨ao, m, c, hEi, hm, ce, hmk⟩ := unhide HSH i (by omega)
          have hbi := (btag_group hn4 hi1 hil).1
          rw [hbi] at hmk
          have ce' := ((unhide HGR _ _ (unhide HA)).2 i).trans ce
          have HMK := hide hmk.shape
          have j1 : (i : Int) < (n : Int) + 4 := by omega
          have j2 : (i : Int) < (E.length : Int) := by omega
          have j3 : (0 : Int) ≤ (i : Int) := by omega
          clear hmk hEi hbi
          go_wp2
          go_loopw [5] (fun v wr => ∃ j : Nat, v = .int .i64 j ∧ j ≤ m ∧ Hid (MStep 5 (.int .u8 7) (fun b => T b = btag n) w0 wr)) (fun v _ => m - (intOf v).toNat)
          case atStart => exact ⟨0, rfl, Nat.zero_le _, HA⟩
          case round =>
            obtain ⟨j, rfl, hj, HA2⟩ := hrel
            have cb2 := (unhide HGR _ _ (unhide HA2)).1
            have ce2 := ((unhide HGR _ _ (unhide HA2)).2 i).trans ce
            by_cases hjm : j < m
            · obtain ⟨b, u, cur, rfl, hPb, cj, fj, hcur⟩ := ((unhide HMK).step (unhide HA2)).at hjm
              have HA3 : Hid (MStep 5 (.int .u8 7) (fun b => T b = btag n) w0 (_)) := hide ((unhide HA2).trans (mstep_setCell _ b j cur hcur hPb))
              have k1 : (j : Int) < (m : Int) := by omega
              have k2 : (0 : Int) ≤ (j : Int) := by omega
              clear hcur hPb
              go_wp2
              go_roundw
              case rel => exact ⟨j + 1, by go_num, hjm, HA3⟩
              case measure => simp [intOf]; omega
            · obtain rfl : j = m := by omega
              have k1 : ¬ (j : Int) < (j : Int) := by omega
              go_wp2
              go_roundw
              case rel => exact ⟨i + 1, by go_num, by omega, by omega, HA2⟩
              case measure => simp [intOf]; omega
        · obtain rfl : i = n + 4 := by omega
          obtain ⟨wB, hwB⟩ : ∃ wB, wB = wr := ⟨_, rfl⟩
          subst hwB
          have j1 : ¬ ((n + 4 : Nat) : Int) < (n : Int) + 4 := by omega
          go_wp2
          go_loop [6] (fun v => ∃ i : Nat, v = .int .i64 i ∧ i ≤ E.length) (fun v => E.length - (intOf v).toNat)
          case atStart => exact ⟨0, rfl, Nat.zero_le _⟩
          case round =>
            obtain ⟨i, rfl, hi⟩ := hrel
            by_cases hil : i < E.length
            · obtain ⟨ao, m, c, hEi, hm, ce, hmk⟩ := unhide HSH i hil
              have ce' := ((unhide HGR _ _ (unhide HA)).2 i).trans ce
              have HALL : Hid (∀ j, j < m → ∃ b, ao = some ⟨b, 0, none⟩ ∧ T b = btag i ∧ w0.cell? ⟨b, j, none⟩ = some (.int .u8 (markN i))) := hide (fun j hj => by
                obtain ⟨b, cap2, hv2, _, _⟩ := hmk.row.form (by simp only []; omega)
                simp only [Sl.val, Value.slice.injEq, true_and] at hv2
                obtain ⟨rfl, rfl⟩ := hv2
                have hr := hmk.row
                simp only [Sl.val] at hr
                exact ⟨b, rfl, hmk.own b rfl, by rw [hr.cellAt j (by omega), List.getElem?_replicate, if_pos hj]; rfl⟩)
              have HFAR : Hid (∀ b, T b = btag i → ∀ j, btag i ≠ btag n → wB.cell? ⟨b, j, none⟩ = w0.cell? ⟨b, j, none⟩) := hide (fun b hb j hne => by
                by_cases hbl : b < w0.heap.size
                · exact World.cell?_of_block (a := ⟨b, j, none⟩) ((unhide HA).out b hbl (by rw [hb]; exact hne))
                · have := (unhide HWr).fresh b (by omega)
                  rw [this] at hb
                  exact absurd hb (btag_ne (by omega)))
              have j2 : (i : Int) < (E.length : Int) := by omega
              have j3 : (0 : Int) ≤ (i : Int) := by omega
              clear hmk hEi
              go_wp2
              go_loop [7] (fun v => ∃ j : Nat, v = .int .i64 j ∧ j ≤ m) (fun v => m - (intOf v).toNat)
              case atStart => exact ⟨0, rfl, Nat.zero_le _⟩
              case round =>
                obtain ⟨j, rfl, hj⟩ := hrel
                by_cases hjm : j < m
                · have k1 : (j : Int) < (m : Int) := by omega
                  have k2 : (0 : Int) ≤ (j : Int) := by omega
                  rcases Nat.lt_or_ge i n with hc | hc
                  · obtain ⟨b, rfl, hPb, cj0⟩ := unhide HALL j hjm
                    have cj : wB.cell? ⟨b, j, none⟩ = some (.int .u8 (markN i)) := (unhide HFAR b hPb j (btag_far hn4 (Or.inl hc))).trans cj0
                    have m7 := mark_not7 i
                    have l1 : decide ((i : Int) < (n : Int)) = true := by simp; omega
                    clear cj0 hPb
                    generalize markN i = y at cj m7
                    go_wp2
                    go_round
                    case rel => exact ⟨j + 1, by go_num, hjm⟩
                    case measure => simp [intOf]; omega
                  · have l1 : decide ((i : Int) < (n : Int)) = false := by simp; omega
                    rcases Nat.lt_or_ge i (n + 4) with hd | hd
                    · have l2 : decide ((n : Int) + 4 ≤ (i : Int)) = false := by simp; omega
                      go_wp2
                      go_round
                      case rel => exact ⟨j + 1, by go_num, hjm⟩
                      case measure => simp [intOf]; omega
                    · obtain ⟨b, rfl, hPb, cj0⟩ := unhide HALL j hjm
                      have cj : wB.cell? ⟨b, j, none⟩ = some (.int .u8 (markN i)) := (unhide HFAR b hPb j (btag_far hn4 (Or.inr hd))).trans cj0
                      have m7 := mark_not7 i
                      have l2 : decide ((n : Int) + 4 ≤ (i : Int)) = true := by simp; omega
                      clear cj0 hPb
                      generalize markN i = y at cj m7
                      go_wp2
                      go_round
                      case rel => exact ⟨j + 1, by go_num, hjm⟩
                      case measure => simp [intOf]; omega
                · obtain rfl : j = m := by omega
                  have k1 : ¬ (j : Int) < (j : Int) := by omega
                  go_wp2
                  go_round
                  case rel => exact ⟨i + 1, by go_num, hil⟩
                  case measure => simp [intOf]; omega
            · obtain rfl : i = E.length := by omega
              have j5 : ¬ (E.length : Int) < (E.length : Int) := by omega
              have HGC : Hid (∀ W, MStep 5 (bx n) (fun b => T b = btag n) wB W → W.cell? ⟨bw, 2, none⟩ = some (.slice (some ⟨g, 0, none⟩) E.length cby) ∧ (∀ i, W.cell? ⟨g, i, none⟩ = w0.cell? ⟨g, i, none⟩) ∧ bw < W.heap.size ∧ g < W.heap.size) := hide (fun W h => by
                have hb0 := (Array.getElem?_eq_some_iff.1 (unhide HWr).blk).1
                obtain ⟨cur, hc⟩ := owns_blk (unhide HWr).bytes.row
                have hg0 := (Array.getElem?_eq_some_iff.1 hc).1
                have s1 := (unhide HA).size
                have s2 := h.size
                obtain ⟨a1, a2⟩ := unhide HGR _ _ (unhide HA)
                refine ⟨?_, fun i => ?_, by omega, by omega⟩
                · rw [← a1]
                  exact World.cell?_of_block (a := ⟨bw, 2, none⟩) (h.out bw (by omega) (by rw [(unhide HWr).tbw]; exact btag_ne (by omega)))
                · rw [← a2 i]
                  exact World.cell?_of_block (a := ⟨g, i, none⟩) (h.out g (by omega) (by rw [(unhide HWr).bytes.own g rfl]; exact btag_ne (by omega))))
              go_wp2
              go_loopw [8] (fun v wr => ∃ i : Nat, v = .int .i64 i ∧ n ≤ i ∧ i ≤ n + 4 ∧ Hid (MStep 5 (bx n) (fun b => T b = btag n) wB wr) ∧ Hid (∀ i' s, n ≤ i' → i' < i → E[i']? = some s → Marks wr 5 (bx n) (fun b => T b = btag n) s)) (fun v _ => n + 4 - (intOf v).toNat)
              case atStart => exact ⟨n, rfl, Nat.le_refl _, by omega, hide (MStep.refl _ _ _ _), hide (fun i' s h1 h2 => by omega)⟩
              case round =>
                obtain ⟨i, rfl, hi1, hi2, HC, HMS⟩ := hrel
                have cb3 := (unhide HGC _ (unhide HC)).1
                by_cases hil : i < n + 4
                · obtain ⟨ao, m, c, hEi, hm, ce, hmk⟩ := unhide HSH i (by omega)
                  have hbi := btag_group hn4 hi1 hil
                  rw [hbi.1] at hmk
                  have ce3 := ((unhide HGC _ (unhide HC)).2.1 i).trans ce
                  have HMK := hide (hmk.shape.step (unhide HA))
                  obtain ⟨ys, hys⟩ := ((unhide HMK).step (unhide HC)).row
                  have HYS := hide hys
                  have hyl : ys.length = m := by have h5 := hys.1; rw [Nat.mul_one] at h5; exact h5
                  have HEI := hide hEi
                  have HMI : Hid ((markN i : Nat) = markN n) := hide (mark_group hn4 hi1 hil)
                  have j1 : (i : Int) < (n : Int) + 4 := by omega
                  have j2 : (i : Int) < (E.length : Int) := by omega
                  have j3 : (0 : Int) ≤ (i : Int) := by omega
                  have hkm : i < 9000000000000000000 := by omega
                  clear hmk hEi hbi hys
                  go_wp2
                  go_loopw [9] (fun v wr => ∃ j : Nat, v = .int .i64 j ∧ j ≤ m ∧ Hid (MStep 5 (bx n) (fun b => T b = btag n) wB wr) ∧ Hid (∀ i' s, n ≤ i' → i' < i → E[i']? = some s → Marks wr 5 (bx n) (fun b => T b = btag n) s) ∧ Hid (wr.ownsRow 0 5 1 (.slice ao m c) m (List.replicate j (bx n) ++ ys.drop j))) (fun v _ => m - (intOf v).toNat)
                  case atStart => exact ⟨0, rfl, Nat.zero_le _, HC, HMS, HYS⟩
                  case round =>
                    obtain ⟨j, rfl, hj, HC2, HMS2, HY2⟩ := hrel
                    obtain ⟨cb4, ce4, lbw, lg⟩ := unhide HGC _ (unhide HC2)
                    have ce5 := (ce4 i).trans ce
                    clear ce4
                    by_cases hjm : j < m
                    · obtain ⟨b, u, cur, rfl, hPb, cj, fj, hcur⟩ := ((unhide HMK).step (unhide HC2)).at hjm
                      have lb := (Array.getElem?_eq_some_iff.1 hcur).1
                      have HNX : Hid (∀ W, Below wr.heap.size wr W → MStep 5 (bx n) (fun b => T b = btag n) wB (W.setCell ⟨b, j, none⟩ (.int .u8 (markN i))) ∧ (∀ i' s, n ≤ i' → i' < i → E[i']? = some s → Marks (W.setCell ⟨b, j, none⟩ (.int .u8 (markN i))) 5 (bx n) (fun b => T b = btag n) s) ∧ (W.setCell ⟨b, j, none⟩ (.int .u8 (markN i))).ownsRow 0 5 1 (.slice (some ⟨b, 0, none⟩) m c) m (List.replicate (j + 1) (bx n) ++ ys.drop (j + 1))) := hide (fun W hb => by
                        rw [unhide HMI]
                        have hcW := (hb.block b lb).trans hcur
                        have st1 : MStep 5 (bx n) (fun b => T b = btag n) wr W := mstep_below hb
                        have st2 : MStep 5 (bx n) (fun b => T b = btag n) W (W.setCell ⟨b, j, none⟩ (bx n)) := mstep_setCell W b j cur hcW hPb
                        refine ⟨((unhide HC2).trans st1).trans st2, fun i' s h1 h2 h3 => ((unhide HMS2 i' s h1 h2 h3).step st1).step st2, ?_⟩
                        have := (((unhide HY2).kept (grown_of_below hb none) (by simp [Value.ownBlock])).stored j (bx n)).1
                        rw [rep_set (bx n) ys j (by omega)] at this
                        exact this)
                      have k1 : (j : Int) < (m : Int) := by omega
                      have k2 : (0 : Int) ≤ (j : Int) := by omega
                      have nbw : ¬ b = bw := fun e => by
                        rw [e, (unhide HWr).tbw] at hPb; exact btag_ne (by omega) hPb
                      have nbg : ¬ b = g := fun e => by
                        rw [e, (unhide HWr).bytes.own g rfl] at hPb; exact btag_ne (by omega) hPb
                      clear hcur hPb
                      go_wp2_with fail
                      go_region_held3 (fun w' => w'.cell? ⟨bw, 2, none⟩ = some (.slice (some ⟨g, 0, none⟩) E.length cby) ∧ w'.cell? ⟨g, i, none⟩ = some (.slice (some ⟨b, 0, none⟩) m c)) (first | go_keep | (refine ⟨?_, ?_⟩ <;> rw [set_far (by omega)] <;> simp [*]))
                        (first | (go_at_call 33; refine (mark_below _ _ hkm).mono ?_; rintro e w' ⟨rfl, hbw⟩; replace hbw := below_undrew hbw; obtain ⟨hbc, hbf⟩ := bcell hbw))
                      rename_i w' hbw hbc hbf
                      obtain ⟨x1, x2, x3⟩ := unhide HNX w' hbw
                      have HX1 := hide x1
                      have HX2 := hide x2
                      have HX3 := hide x3
                      clear hbc hbf hbw x1 x2 x3
                      go_wp2
                      go_roundw
                      case rel => exact ⟨j + 1, by go_num, hjm, HX1, HX2, HX3⟩
                      case measure => simp [intOf]; omega
                    · obtain rfl : j = m := by omega
                      have k1 : ¬ (j : Int) < (j : Int) := by omega
                      have HMS3 : Hid (∀ i' s, n ≤ i' → i' < i + 1 → E[i']? = some s → Marks wr 5 (bx n) (fun b => T b = btag n) s) := hide (fun i' s h1 h2 h3 => by
                        by_cases e : i' = i
                        · subst e
                          have := unhide HEI
                          rw [h3] at this
                          obtain rfl : s = ⟨ao, j, c⟩ := by simpa using this
                          refine ⟨?_, ((unhide HMK).step (unhide HC2)).own⟩
                          have h5 := unhide HY2
                          rw [List.drop_of_length_le (by omega), List.append_nil] at h5
                          exact h5
                        · exact unhide HMS2 i' s h1 (by omega) h3)
                      go_wp2
                      go_roundw
                      case rel => exact ⟨i + 1, by go_num, by omega, by omega, HC2, HMS3⟩
                      case measure => simp [intOf]; omega
                · obtain rfl : i = n + 4 := by omega
                  have j1 : ¬ ((n + 4 : Nat) : Int) < (n : Int) + 4 := by omega
                  have HWN : Hid (LW wr bw T M vms (.slice (some ⟨g, 0, none⟩) E.length cby) vli E F mb) := hide (by
                    refine (unhide HWr).again (n := n) (Nat.le_trans (unhide HA).size (unhide HC).size) (fun k hk hne => ?_) (fun i' s hb he => ?_)
                    · rw [(unhide HC).out k (Nat.lt_of_lt_of_le hk (unhide HA).size) hne]
                      exact (unhide HA).out k hk hne
                    · have hin : n ≤ i' ∧ i' < n + 4 := by unfold btag at hb; omega
                      have hg2 := btag_group hn4 hin.1 hin.2
                      rw [hg2.1, hg2.2]
                      exact unhide HMS i' s hin.1 hin.2 he)
                  have HFN : Hid (Fr T w wr T) := hide ((unhide HFr).trans (((unhide HWr).group (unhide HA)).2.2.1.trans ⟨(unhide HC).os, (unhide HC).tape, (unhide HC).output, (unhide HC).size, fun k hk h0 => ⟨(unhide HC).out k hk (by rw [h0]; exact btag_ne (by omega)), h0⟩⟩))
                  go_wp2
                  go_roundw
                  case rel => exact ⟨q + 1, by rw [show 4 * (q + 1) = n + 4 by have := unhide HNQ; omega]; go_num, by have := unhide HNQ; omega, HWN, HFN⟩
                  case measure => simp [intOf]; omega
    · obtain rfl : n = E.length := by omega
      have i1 : ¬ (E.length : Int) < (E.length : Int) := by omega
      go_wp2
      go_ret
      exact ⟨rfl, unhide HWr, unhide HFr⟩
end Go.Proofs.YtibkhphbilfckaaGreatDoor
