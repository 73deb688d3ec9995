import Derived.Test.YthbbhpbkoankhaaGreatComp
namespace Go.Proofs.YthbbhpbkoankhaaGreat
open Go.RowKit Scour Go.Lib

theorem below_two (w : World) (o1 o2 : Obj) : Below w.heap.size w ((w.alloc o1).alloc o2) := ((Below.refl _ _).alloc (Nat.le_refl _) _).alloc (by simp) _

theorem mach_short {w : World} {bm bt be : Nat} {g : List Nat} {ps S : List Str} (hM : Mach w bm bt be g ps S) (hc : (chk ps).1 = 0) {k : Nat} (hk : k < S.length) : (at' S k).length < 1000 := by
  obtain ⟨_, cap, par, lst, E, hT, hS, _⟩ := hM.ex
  obtain ⟨_, hlen, _⟩ := chk_ok hc
  rcases (hS.mem _).1 (at_mem hk) with h | ⟨i, hi, _, h2, _⟩
  · rw [h]; decide
  · have := hlen i hi; omega

/-- The program's Next and the document's answer the same. -/
theorem nexts {w : World} {bm bt be : Nat} {g : List Nat} {br gS cS : Nat} {vL : Value} {ps S : List Str} (hM : Mach w bm bt be g ps S) (hR : RMach w br vL gS cS ps S) (hc : (chk ps).1 = 0) (n : Int) (b : UInt8) :
    ∃ x y : Int, (∀ W, Below w.heap.size w W → Calls Tryz.prog 31 #[.pointer (some ⟨bm, 0, none⟩), .int .i64 n, .int .u8 b.toNat] W fun e w' => e = .returned (.tuple #[.int .i64 x, .int .i64 y]) ∧ Below W.heap.size W w') ∧
      ∀ W, Below w.heap.size w W → Calls Tryz.prog 32 #[.pointer (some ⟨br, 0, none⟩), .int .i64 n, .int .u8 b.toNat] W fun e w' => e = .returned (.tuple #[.int .i64 x, .int .i64 y]) ∧ Below W.heap.size W w' := by
  by_cases h0 : n < 0
  · refine ⟨0, 1, fun W hb => (mnext_low _ _ n W h0).mono ?_, fun W hb => (rNext_low _ n _ W h0).mono ?_⟩ <;> (rintro e w' ⟨rfl, rfl⟩; exact ⟨rfl, Below.refl _ _⟩)
  · by_cases h1 : (S.length : Int) ≤ n
    · refine ⟨0, 1, fun W hb => (mnext_high bm bt be g ps S W (hM.below hb) n _ h1).mono ?_, fun W hb => (rNext_high br gS cS vL ps S n _ W (hR.below hb) h1).mono ?_⟩ <;> (rintro e w' ⟨rfl, rfl⟩; exact ⟨rfl, Below.refl _ _⟩)
    · obtain ⟨k, rfl⟩ : ∃ k : Nat, n = k := ⟨n.toNat, by omega⟩
      exact ⟨_, 0, fun W hb => mnext_in bm bt be g ps S W (hM.below hb) k b (by omega), fun W hb => rNext_in br gS cS vL ps S k b W (hR.below hb) (by omega) (mach_short hM hc (by omega))⟩

set_option maxHeartbeats 2000000 in
set_option maxRecDepth 100000 in
theorem asked_states (vw vl : Value) (a b : Int) (s : ByteArray) (bm bt be : Nat) (g : List Nat) (br gS cS : Nat) (vL : Value) (ps S : List Str) (w : World) (hM : Mach w bm bt be g ps S) (hR : RMach w br vL gS cS ps S) :
    Calls Tryz.prog 15 #[vw, .agg #[.pointer (some ⟨bm, 0, none⟩), .pointer (some ⟨br, 0, none⟩)], .agg #[.int .i64 3, .int .i64 a, .int .i64 b, .string s, vl]] w fun e w' => e = .returned (.bool true) ∧ Below w.heap.size w w' := by
  have lbr := (Array.getElem?_eq_some_iff.1 hR.blk).1
  have cr : w.cell? ⟨br, 1, none⟩ = some (.slice (some ⟨gS, 0, none⟩) S.length cS) := by rw [cell_of_blk hR.blk]; rfl
  have cb : ∀ o1 o2, ((w.alloc o1).alloc o2).cell? ⟨br, 1, none⟩ = some (.slice (some ⟨gS, 0, none⟩) S.length cS) := fun o1 o2 => ((below_two w o1 o2).cell (p := ⟨br, 1, none⟩) lbr).trans cr
  have HST : Hid (∀ W, Below w.heap.size w W → Calls Tryz.prog 30 #[.pointer (some ⟨bm, 0, none⟩)] W fun e w' => e = .returned (.int .i64 S.length) ∧ w' = W) := hide (fun W hb => states_any _ _ _ _ _ _ W (hM.below hb))
  clear hM hR
  go_enter Tryz.func15, Tryz.ntmps15
  go_wp2_with (go_at_call 30; refine (unhide HST _ (below_two w _ _)).mono ?_; rintro e w' ⟨rfl, hw⟩; have hw' := hw.symm; clear hw; subst hw')
  go_ret
  exact ⟨rfl, below_two w _ _⟩

set_option maxHeartbeats 2000000 in
set_option maxRecDepth 100000 in
theorem asked_next (vw vl : Value) (a b : Int) (s : ByteArray) (bm bt be : Nat) (g : List Nat) (br gS cS : Nat) (vL : Value) (ps S : List Str) (w : World) (hM : Mach w bm bt be g ps S) (hR : RMach w br vL gS cS ps S) (hc : (chk ps).1 = 0) (hs : s.size < 1000000000000) :
    Calls Tryz.prog 15 #[vw, .agg #[.pointer (some ⟨bm, 0, none⟩), .pointer (some ⟨br, 0, none⟩)], .agg #[.int .i64 4, .int .i64 a, .int .i64 b, .string s, vl]] w fun e w' => e = .returned (.bool true) ∧ Below w.heap.size w w' := by
  by_cases h0 : 0 < s.size
  · obtain ⟨x, y, h1, h2⟩ := nexts hM hR hc b s[0]
    have H1 := hide h1
    have H2 := hide h2
    clear h1 h2 hM hR hc
    go_enter Tryz.func15, Tryz.ntmps15
    go_wp2_with (first | (go_at_call 31; refine (unhide H1 _ (below_two w _ _)).mono ?_; rintro e w1 ⟨rfl, hb1⟩; have HB1 : Hid (Below w.heap.size w w1) := hide ((below_two w _ _).trans (hb1.mono (below_two w _ _).size)); have c1 := hb1.cell (p := ⟨w.heap.size, 1, none⟩) (by simp only [World.alloc, Array.size_push]; omega); have c2 := hb1.cell (p := ⟨w.heap.size + 1, 2, none⟩) (by simp only [World.alloc, Array.size_push]; omega); clear hb1) | (go_at_call 32; refine (unhide H2 _ (unhide HB1)).mono ?_; rintro e w2 ⟨rfl, hb2⟩; have HB2 := hide ((unhide HB1).trans (hb2.mono (unhide HB1).size)); clear hb2))
    go_ret
    exact ⟨rfl, unhide HB2⟩
  · obtain ⟨x, y, h1, h2⟩ := nexts hM hR hc b 0
    have e0 : s.size = 0 := by omega
    have H1 := hide h1
    have H2 := hide h2
    clear h1 h2 hM hR hc
    go_enter Tryz.func15, Tryz.ntmps15
    go_wp2_with (first | (go_at_call 31; refine (unhide H1 _ (below_two w _ _)).mono ?_; rintro e w1 ⟨rfl, hb1⟩; have HB1 : Hid (Below w.heap.size w w1) := hide ((below_two w _ _).trans (hb1.mono (below_two w _ _).size)); have c1 := hb1.cell (p := ⟨w.heap.size, 1, none⟩) (by simp only [World.alloc, Array.size_push]; omega); have c2 := hb1.cell (p := ⟨w.heap.size + 1, 2, none⟩) (by simp only [World.alloc, Array.size_push]; omega); clear hb1) | (go_at_call 32; refine (unhide H2 _ (unhide HB1)).mono ?_; rintro e w2 ⟨rfl, hb2⟩; have HB2 := hide ((unhide HB1).trans (hb2.mono (unhide HB1).size)); clear hb2))
    go_ret
    exact ⟨rfl, unhide HB2⟩
end Go.Proofs.YthbbhpbkoankhaaGreat

namespace Go.Proofs.YthbbhpbkoankhaaGreat
open Go.RowKit Scour Go.Lib

theorem Outs.free {w1 : World} {B b0 : Nat} {gs cs : Nat → Nat} {ps : List Str} {T : Nat → Nat} {n : Nat} (hO : Outs w1 B b0 gs cs ps ps.length) (hB : n ≤ B) (hT : ∀ k, n ≤ k → T k = 9) : Free w1 T b0 ps.length gs cs ps 0 :=
  ⟨owns_zero hO.row, hT _ (Nat.le_trans hB (owns_base hO.row)), fun i _ hi => owns_zero (hO.each i hi), fun i _ hi => hT _ (Nat.le_trans hB (owns_base (hO.each i hi))), hO.apart⟩

set_option maxHeartbeats 4000000 in
set_option maxRecDepth 100000 in
theorem asked_patterns (bw : Nat) (T : Nat → Nat) (M : List Ent) (vms vby vli : Value) (E F : List Sl) (mb : Nat → Nat) (vl : Value) (a b : Int) (s : ByteArray) (bm bt be : Nat) (g : List Nat) (br gS cS : Nat) (vL : Value) (ps S : List Str) (w : World) (hW : LW w bw T M vms vby vli E F mb) (hM : Mach w bm bt be g ps S) (hR : RMach w br vL gS cS ps S) (hc : (chk ps).1 = 0)
    (hE : E.length < 900000000000) (hF : F.length < 900000000000) :
    Calls Tryz.prog 15 #[.pointer (some ⟨bw, 0, none⟩), .agg #[.pointer (some ⟨bm, 0, none⟩), .pointer (some ⟨br, 0, none⟩)], .agg #[.int .i64 2, .int .i64 a, .int .i64 b, .string s, vl]] w fun e w' => e = .returned (.bool true) ∧ ∃ T' vby' vli' E' F' mb', LW w' bw T' M vms vby' vli' E' F' mb' ∧ Fr T w w' T' ∧ E'.length = E.length + 4 * ps.length ∧ F'.length = F.length + 4 := by
  obtain ⟨h64, hlen, hch⟩ := chk_ok hc
  have lbr := (Array.getElem?_eq_some_iff.1 hR.blk).1
  have cr : w.cell? ⟨br, 0, none⟩ = some vL := by rw [cell_of_blk hR.blk]; rfl
  obtain ⟨aL, cL, hvL⟩ : ∃ aL cL, vL = .slice aL ps.length cL := by
    rcases hR.lrow.2 with ⟨h, h0⟩ | ⟨g, cap, cur, h, _⟩
    · exact ⟨none, 0, by rw [h, h0]⟩
    · exact ⟨_, cap, h⟩
  subst hvL
  have HLC : Hid (0 < ps.length → ∃ gL, gL < w.heap.size ∧ aL = some ⟨gL, 0, none⟩ ∧ ∀ i, i < ps.length → w.cell? ⟨gL, i, none⟩ = some (.string ⟨(pat ps i).toArray⟩)) := hide (fun h0 => by
    rcases hR.lrow.2 with ⟨h, h1⟩ | ⟨gL, cap, cur, h, _, hg, _⟩
    · omega
    · obtain ⟨rfl, rfl⟩ : aL = some ⟨gL, 0, none⟩ ∧ cL = cap := by simpa using h
      exact ⟨gL, (Array.getElem?_eq_some_iff.1 hg).1, rfl, fun i hi => cellT hR.lrow rfl i hi⟩)
  have HPA : Hid (∀ W, Below w.heap.size w W → Calls Tryz.prog 28 #[.pointer (some ⟨bm, 0, none⟩)] W fun e w' => ∃ b0 gs cs, e = .returned (.slice (some ⟨b0, 0, none⟩) ps.length ps.length) ∧ Outs w' W.heap.size b0 gs cs ps ps.length ∧ Below W.heap.size W w') := hide (fun W hb => patterns_any bm bt be g ps S W (hM.below hb) h64 hlen)
  have HPL : Hid (∀ i, i < ps.length → (pat ps i).length ≤ 64) := hide (fun i hi => (hlen i hi).2)
  have HW := hide hW
  clear hM hR hc hW hlen hch
  go_enter Tryz.func15, Tryz.ntmps15
  go_wp2_with (go_at_call 28; refine (unhide HPA _ (below_two w _ _)).mono ?_; rintro e w1 ⟨b0, gs, cs, rfl, hO, hb1⟩; have HB1 : Hid (Below w.heap.size w w1) := hide ((below_two w _ _).trans (hb1.mono (below_two w _ _).size)); have c1 := hb1.cell (p := ⟨w.heap.size, 1, none⟩) (by simp only [World.alloc, Array.size_push]; omega); have c2 := ((unhide HB1).cell (p := ⟨br, 0, none⟩) lbr).trans cr; have HF : Hid (Free w1 T b0 ps.length gs cs ps 0) := hide (hO.free (below_two w _ _).size (unhide HW).fresh); clear hb1 hO)
  simp at c1
  go_loopw [8, 9] (fun v8 v9 wz => ∃ k m : Nat, v8 = .bool true ∧ v9 = .int .i64 k ∧ k ≤ ps.length ∧ wz = w1.drewN m) (fun _ v9 _ => ps.length - (intOf v9).toNat)
  case atStart => exact ⟨0, 0, by simp, rfl, Nat.zero_le _, rfl⟩
  case round =>
    obtain ⟨k, m, rfl, rfl, hk, rfl⟩ := hrel
    by_cases hlt : k < ps.length
    · obtain ⟨gL, lgL, rfl, hcell⟩ := unhide HLC (by omega)
      have z1 : (w1.drewN m).cell? ⟨w.heap.size, 1, none⟩ = some (.pointer (some ⟨br, 0, none⟩)) := c1
      have z2 : (w1.drewN m).cell? ⟨br, 0, none⟩ = some (.slice (some ⟨gL, 0, none⟩) ps.length cL) := c2
      have z3 : (w1.drewN m).cell? ⟨gL, k, none⟩ = some (.string ⟨(pat ps k).toArray⟩) := ((unhide HB1).cell (p := ⟨gL, k, none⟩) lgL).trans (hcell k hlt)
      have z4 : (w1.drewN m).cell? ⟨b0, k, none⟩ = some (.slice (some ⟨gs k, 0, none⟩) (pat ps k).length (cs k)) := by
        have := (unhide HF).row.cellAt k (by omega)
        rw [outsF_get _ _ _ _ _ hlt, if_pos hlt] at this
        exact this
      have hcv : ∀ q, (convert 57 9 (.slice (some ⟨gs k, 0, none⟩) (pat ps k).length (cs k))).run Tryz.prog ((w1.drewN m).drewN q) = .ok (.string ⟨(pat ps k).toArray⟩) ((w1.drewN m).drewN q) := fun q => conv_back (fun j hj => by
        rw [Nat.zero_add]
        have := ((unhide HF).each k (Nat.zero_le _) hlt).cellAt j (by simpa using hj)
        refine Eq.trans this ?_
        simp [encB, hj, List.getD])
      obtain ⟨wz, hwz⟩ : ∃ wz, w1.drewN m = wz := ⟨_, rfl⟩
      rw [hwz] at z1 z2 z3 z4 hcv ⊢
      have HWZ := hide hwz
      clear hwz hcell
      have i1 : (k : Int) < (ps.length : Int) := by omega
      have i2 : (0 : Int) ≤ (k : Int) := by omega
      generalize (pat ps k) = sk at *
      go_wp2_with fail
      go_quiet (fail)
      go_wp2_with fail
      go_roundw
      case rel => exact ⟨k + 1, m + nq, by simp, by go_num, hlt, by rw [← unhide HWZ, World.drewN_drewN]⟩
      case measure => simp [intOf]; omega
    · obtain rfl : k = ps.length := by omega
      have i1 : ¬ (ps.length : Int) < (ps.length : Int) := by omega
      have HF2 : Hid (Free (w1.drewN m) T b0 ps.length gs cs ps 0) := hide ⟨(unhide HF).row, (unhide HF).trow, (unhide HF).each, (unhide HF).teach, (unhide HF).apart⟩
      have HB2 : Hid (Below w.heap.size w (w1.drewN m)) := hide (below_drewN (unhide HB1) m)
      have HKL := hide (keepsLists_any bw T M vms vby vli E F mb b0 ps.length gs cs ps (w1.drewN m) ((unhide HW).below (unhide HB2)) (unhide HF2) h64 (unhide HPL) hE hF)
      generalize w1.drewN m = wz at *
      go_wp2_with (go_at_call 29; refine (unhide HKL).mono ?_; rintro e w2 ⟨rfl, T', vby', vli', E', F', mb', k1, k2, k3, k4⟩; have HK1 := hide k1; have HK2 := hide k2; have HK3 := hide k3; have HK4 := hide k4; clear k1 k2 k3 k4)
      go_ret
      exact ⟨rfl, T', vby', vli', E', F', mb', unhide HK1, (fr_below (unhide HB2)).trans (unhide HK2), unhide HK3, unhide HK4⟩
end Go.Proofs.YthbbhpbkoankhaaGreat
