import Derived.Test.YthbbhpbkoankhaaGreatPkD
namespace Go.Proofs.YthbbhpbkoankhaaGreat
open Go.RowKit Scour Go.Lib Go.Shelf Go.Sort

theorem sdn_stop {lt : Nat → Nat → Bool} {hi r : Nat} {d : Array Nat} (h : hi ≤ 2 * r + 1) : siftDown lt hi 0 r d = d := by rw [siftDown, dif_pos h]

theorem sdn_step {lt : Nat → Nat → Bool} {hi r c : Nat} {d : Array Nat} (h : 2 * r + 1 < hi) (hc : (c = 2 * r + 2 ∧ 2 * r + 2 < hi ∧ lt d[2 * r + 1]! d[2 * r + 2]! = true) ∨ (c = 2 * r + 1 ∧ (¬ 2 * r + 2 < hi ∨ lt d[2 * r + 1]! d[2 * r + 2]! = false))) :
    siftDown lt hi 0 r d = if lt d[r]! d[c]! then siftDown lt hi 0 c (swp d r c) else d := by
  rw [siftDown, dif_neg (by omega)]
  simp only [Nat.zero_add]
  rcases hc with ⟨rfl, h1, h2⟩ | ⟨rfl, h1⟩
  · rw [if_pos (by rw [h2]; simp; omega), dif_pos h1]
    cases lt d[r]! d[2 * r + 2]! <;> simp
  · rw [if_neg (by rcases h1 with h1 | h1 <;> simp [h1])]
    cases lt d[r]! d[2 * r + 1]! <;> simp

set_option maxHeartbeats 16000000 in
set_option maxRecDepth 100000 in
theorem down_any (L : Nat → List (Nat × Nat)) (rp gh cap n m hi : Nat) (d : Array Nat) (es : Nat → Value) (w : World) (h : HeapIn w rp gh cap d es) (hK : HOK L es n d) (hm : d.size = m) (hhi : hi ≤ m) :
    Calls Tryz.prog 93 #[.iface 129 (.pointer (some ⟨rp, 0, none⟩)), .int .i64 0, .int .i64 hi] w fun e w' => ∃ v, e = .returned v ∧ Hid (HeapIn w' rp gh cap (siftDown (hlt L) hi 0 0 d) es) ∧ Hid (Mod (fun k => k = gh) w w') := by
  have hm1 := hK.size
  have HH := hide (And.intro h hK)
  have HM := hide hm
  clear h hK
  go_enter Tryz.func93, Tryz.ntmps93
  go_wp2
  go_loopw [7] (fun v wr => ∃ (k : Nat) (d1 : Array Nat), v = .int .i64 k ∧ k ≤ hi ∧ Hid (HeapIn wr rp gh cap d1 es ∧ HOK L es n d1) ∧ Hid (d1.size = m) ∧ Hid (siftDown (hlt L) hi 0 k d1 = siftDown (hlt L) hi 0 0 d) ∧ Hid (Mod (fun k => k = gh) w wr)) (fun v _ => hi - (intOf v).toNat)
  case atStart => exact ⟨0, d, rfl, Nat.zero_le _, HH, HM, hide rfl, hide (Mod.refl _ _)⟩
  case round =>
    clear HH HM
    obtain ⟨k, d1, rfl, hk, HH, HM, HE, HF⟩ := hrel
    have hmm := unhide HM
    have hc := (unhide HH).1.cell
    rw [hmm] at hc
    by_cases hch : 2 * k + 1 < hi
    · obtain ⟨c, hce⟩ : ∃ c : Nat, 2 * k + 1 = c := ⟨_, rfl⟩
      have hci : (2 * (k : Int) + 1) = (c : Int) := by omega
      have HCE := hide hce
      have hc1 : c < hi := by omega
      have hc2 : k < c := by omega
      have hcm : c < m := by omega
      have hml : ∀ q f, _ := fun q f => mLess rp _ (wr.drewN q) hc f
      have hml0 := mLess rp _ wr hc
      have HL : Hid (∀ q x y, x < m → y < m → Calls Tryz.prog 154 #[.slice (some ⟨gh, 0, none⟩) m cap, .int .i64 x, .int .i64 y] (wr.drewN q) fun e w' => e = .returned (.bool (hlt L d1[y]! d1[x]!)) ∧ ∃ q2, w' = wr.drewN (q + q2)) := hide (by
        intro q x y hx hy
        have := rless_any L rp gh cap n d1 es (wr.drewN q) ((unhide HH).1.drewN q) (unhide HH).2.es (unhide HH).2.mem (unhide HH).2.n x y (by omega) (by omega) (by omega)
        rw [hmm] at this
        refine this.mono ?_
        rintro e w' ⟨rfl, q2, rfl⟩
        exact ⟨rfl, q2, drewN2 _ _ _⟩)
      have HSW : Hid (∀ q y, y < m → Calls Tryz.prog 157 #[.slice (some ⟨gh, 0, none⟩) m cap, .int .i64 k, .int .i64 y] (wr.drewN q) fun e w' => e = .returned (.tuple #[]) ∧ Hid (HeapIn w' rp gh cap (swp d1 k y) es) ∧ Hid (Mod (fun k => k = gh) (wr.drewN q) w')) := hide (by
        intro q y hy
        have := rswap_any rp gh cap d1 es (wr.drewN q) ((unhide HH).1.drewN q) (unhide HH).2.form k y (by omega) (by omega) (by omega)
        rw [hmm] at this
        exact this)
      have hms : ∀ q f, _ := fun q f => mSwap rp _ (wr.drewN q) hc f
      have hng : ¬ ((c : Int) < 0) := by omega
      clear hce hch hmm hc
      by_cases h2 : c + 1 < hi
      · have h2i : (c : Int) + 1 < (hi : Int) := by omega
        have HLa : Hid (Calls Tryz.prog 154 #[.slice (some ⟨gh, 0, none⟩) m cap, .int .i64 ((c : Int) + 1), .int .i64 c] wr fun e w' => e = .returned (.bool (hlt L d1[c]! d1[c + 1]!)) ∧ ∃ q2, w' = wr.drewN q2) := hide (by
          refine (unhide HL 0 (c + 1) c (by omega) (by omega)).mono ?_
          rintro e w' ⟨rfl, q2, hq⟩
          exact ⟨rfl, 0 + q2, hq⟩)
        cases hb : hlt L d1[c]! d1[c + 1]! with
        | true =>
          rw [hb] at HLa
          have HC : Hid (siftDown (hlt L) hi 0 k d1 = if hlt L d1[k]! d1[c + 1]! then siftDown (hlt L) hi 0 (c + 1) (swp d1 k (c + 1)) else d1) := hide (by
            have e := unhide HCE
            subst e
            exact sdn_step (by omega) (Or.inl ⟨rfl, by omega, hb⟩))
          clear hb
          have HLb : Hid (∀ q, Calls Tryz.prog 154 #[.slice (some ⟨gh, 0, none⟩) m cap, .int .i64 ((c : Int) + 1), .int .i64 k] (wr.drewN q) fun e w' => e = .returned (.bool (hlt L d1[k]! d1[(c + 1)]!)) ∧ ∃ q2, w' = wr.drewN (q + q2)) := hide (by
            intro q
            refine (unhide HL q (c + 1) k (by omega) (by omega)).mono ?_
            rintro e w' ⟨rfl, q2, hq⟩
            exact ⟨rfl, q2, hq⟩)
          have HSb : Hid (∀ q, Calls Tryz.prog 157 #[.slice (some ⟨gh, 0, none⟩) m cap, .int .i64 k, .int .i64 ((c : Int) + 1)] (wr.drewN q) fun e w' => e = .returned (.tuple #[]) ∧ Hid (HeapIn w' rp gh cap (swp d1 k (c + 1)) es) ∧ Hid (Mod (fun k => k = gh) (wr.drewN q) w')) := hide fun q => unhide HSW q (c + 1) (by omega)
          cases hb2 : hlt L d1[k]! d1[(c + 1)]! with
          | true =>
            rw [hb2] at HLb HC
            clear hb2
            go_wp2_with (first | (go_at_call 154; refine (unhide HLb q).mono ?_; rintro e w1 ⟨rfl, q2, rfl⟩) | (go_at_call 154; refine (unhide HLa).mono ?_; rintro e w1 ⟨rfl, q, rfl⟩) | (go_at_call 157; refine (unhide HSb _).mono ?_; rintro e w2 ⟨rfl, HH2, HF2⟩))
            go_roundw
            case rel =>
              refine ⟨(c + 1), swp d1 k (c + 1), by congr 1, by omega, hide ⟨unhide HH2, (unhide HH).2.swp (by rw [unhide HM]; omega) (by rw [unhide HM]; omega)⟩, hide (by rw [size_swp]; exact unhide HM), hide ?_, hide (((unhide HF).trans (Mod.drewN _ (q + q2)) (fun _ _ e => e)).trans (unhide HF2) (fun _ _ e => e))⟩
              rw [← unhide HE, unhide HC]
              rfl
            case measure => simp [intOf]; omega
          | false =>
            rw [hb2] at HLb HC
            clear hb2
            go_wp2_with (first | (go_at_call 154; refine (unhide HLb q).mono ?_; rintro e w1 ⟨rfl, q2, rfl⟩) | (go_at_call 154; refine (unhide HLa).mono ?_; rintro e w1 ⟨rfl, q, rfl⟩))
            go_ret
            refine ⟨_, rfl, hide ?_, hide ((unhide HF).trans (Mod.drewN _ (q + q2)) (fun _ _ e => e))⟩
            rw [← unhide HE, unhide HC]
            exact (unhide HH).1.drewN _
        | false =>
          rw [hb] at HLa
          have HC : Hid (siftDown (hlt L) hi 0 k d1 = if hlt L d1[k]! d1[c]! then siftDown (hlt L) hi 0 c (swp d1 k c) else d1) := hide (by
            have e := unhide HCE
            subst e
            exact sdn_step (by omega) (Or.inr ⟨rfl, Or.inr hb⟩))
          clear hb
          have HLb : Hid (∀ q, Calls Tryz.prog 154 #[.slice (some ⟨gh, 0, none⟩) m cap, .int .i64 (c), .int .i64 k] (wr.drewN q) fun e w' => e = .returned (.bool (hlt L d1[k]! d1[c]!)) ∧ ∃ q2, w' = wr.drewN (q + q2)) := hide (by
            intro q
            refine (unhide HL q c k (by omega) (by omega)).mono ?_
            rintro e w' ⟨rfl, q2, hq⟩
            exact ⟨rfl, q2, hq⟩)
          have HSb : Hid (∀ q, Calls Tryz.prog 157 #[.slice (some ⟨gh, 0, none⟩) m cap, .int .i64 k, .int .i64 (c)] (wr.drewN q) fun e w' => e = .returned (.tuple #[]) ∧ Hid (HeapIn w' rp gh cap (swp d1 k c) es) ∧ Hid (Mod (fun k => k = gh) (wr.drewN q) w')) := hide fun q => unhide HSW q c (by omega)
          cases hb2 : hlt L d1[k]! d1[c]! with
          | true =>
            rw [hb2] at HLb HC
            clear hb2
            go_wp2_with (first | (go_at_call 154; refine (unhide HLb q).mono ?_; rintro e w1 ⟨rfl, q2, rfl⟩) | (go_at_call 154; refine (unhide HLa).mono ?_; rintro e w1 ⟨rfl, q, rfl⟩) | (go_at_call 157; refine (unhide HSb _).mono ?_; rintro e w2 ⟨rfl, HH2, HF2⟩))
            go_roundw
            case rel =>
              refine ⟨c, swp d1 k c, by congr 1, by omega, hide ⟨unhide HH2, (unhide HH).2.swp (by rw [unhide HM]; omega) (by rw [unhide HM]; omega)⟩, hide (by rw [size_swp]; exact unhide HM), hide ?_, hide (((unhide HF).trans (Mod.drewN _ (q + q2)) (fun _ _ e => e)).trans (unhide HF2) (fun _ _ e => e))⟩
              rw [← unhide HE, unhide HC]
              rfl
            case measure => simp [intOf]; omega
          | false =>
            rw [hb2] at HLb HC
            clear hb2
            go_wp2_with (first | (go_at_call 154; refine (unhide HLb q).mono ?_; rintro e w1 ⟨rfl, q2, rfl⟩) | (go_at_call 154; refine (unhide HLa).mono ?_; rintro e w1 ⟨rfl, q, rfl⟩))
            go_ret
            refine ⟨_, rfl, hide ?_, hide ((unhide HF).trans (Mod.drewN _ (q + q2)) (fun _ _ e => e))⟩
            rw [← unhide HE, unhide HC]
            exact (unhide HH).1.drewN _
      · have h2i : decide ((c : Int) + 1 < (hi : Int)) = false := by simp; omega
        have HC : Hid (siftDown (hlt L) hi 0 k d1 = if hlt L d1[k]! d1[c]! then siftDown (hlt L) hi 0 c (swp d1 k c) else d1) := hide (by
          have e := unhide HCE
          subst e
          exact sdn_step (by omega) (Or.inr ⟨rfl, Or.inl (by omega)⟩))
        have HLb : Hid (Calls Tryz.prog 154 #[.slice (some ⟨gh, 0, none⟩) m cap, .int .i64 (c), .int .i64 k] wr fun e w' => e = .returned (.bool (hlt L d1[k]! d1[c]!)) ∧ ∃ q2, w' = wr.drewN q2) := hide (by
          refine (unhide HL 0 c k (by omega) (by omega)).mono ?_
          rintro e w' ⟨rfl, q2, hq⟩
          exact ⟨rfl, 0 + q2, hq⟩)
        have HSb : Hid (∀ q, Calls Tryz.prog 157 #[.slice (some ⟨gh, 0, none⟩) m cap, .int .i64 k, .int .i64 (c)] (wr.drewN q) fun e w' => e = .returned (.tuple #[]) ∧ Hid (HeapIn w' rp gh cap (swp d1 k c) es) ∧ Hid (Mod (fun k => k = gh) (wr.drewN q) w')) := hide fun q => unhide HSW q c (by omega)
        cases hb2 : hlt L d1[k]! d1[c]! with
        | true =>
          rw [hb2] at HLb HC
          clear hb2
          go_wp2_with (first | (go_at_call 154; refine (unhide HLb).mono ?_; rintro e w1 ⟨rfl, q2, rfl⟩) | (go_at_call 157; refine (unhide HSb _).mono ?_; rintro e w2 ⟨rfl, HH2, HF2⟩))
          go_roundw
          case rel =>
            refine ⟨c, swp d1 k c, by congr 1, by omega, hide ⟨unhide HH2, (unhide HH).2.swp (by rw [unhide HM]; omega) (by rw [unhide HM]; omega)⟩, hide (by rw [size_swp]; exact unhide HM), hide ?_, hide (((unhide HF).trans (Mod.drewN _ q2) (fun _ _ e => e)).trans (unhide HF2) (fun _ _ e => e))⟩
            rw [← unhide HE, unhide HC]
            rfl
          case measure => simp [intOf]; omega
        | false =>
          rw [hb2] at HLb HC
          clear hb2
          go_wp2_with (first | (go_at_call 154; refine (unhide HLb).mono ?_; rintro e w1 ⟨rfl, q2, rfl⟩))
          go_ret
          refine ⟨_, rfl, hide ?_, hide ((unhide HF).trans (Mod.drewN _ q2) (fun _ _ e => e))⟩
          rw [← unhide HE, unhide HC]
          exact (unhide HH).1.drewN _
    · go_wp2
      go_ret
      refine ⟨⟨_, rfl⟩, hide ?_, HF⟩
      rw [← unhide HE, sdn_stop (by omega)]
      exact (unhide HH).1
end Go.Proofs.YthbbhpbkoankhaaGreat
