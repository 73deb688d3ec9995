import Derived.Test.YtibkhphbilfckaaGreatDoorUSortD
import Derived.Test.YtibkhphbilfckaaGreatDoorShelf
import Derived.Sort.LotD1
import Derived.Laws.BitsLemmas
namespace Go.Proofs.YtibkhphbilfckaaGreatDoor
open Go.RowKit Go.Shelf Go.Lib Go.Sort

set_option maxHeartbeats 8000000 in
set_option maxRecDepth 100000 in
theorem uPivot (w0 : World) (blk off cap a b n : Nat) (d : Array Int) (w : World) (hn : d.size = n) (h : URow w0 blk off d w) (hab : a + 12 < b) (hb : b ≤ n) (hsz : n < 2305843009213693952) :
    Calls Tryz.prog 151 #[.slice (some ⟨blk, off, none⟩) n cap, .int .i64 a, .int .i64 b] w fun e w' => ∃ (p : Nat) (t : Int), e = .returned (.tuple #[.int .i64 p, .int .i64 t]) ∧ Hid (a ≤ p ∧ p < b) ∧ Hid (URow w0 blk off d w') := by
  obtain ⟨l, hl⟩ : ∃ l, l = b - a := ⟨_, rfl⟩
  have hli : (b : Int) - (a : Int) = (l : Int) := by omega
  obtain ⟨q, hq⟩ : ∃ q, q = l / 4 := ⟨_, rfl⟩
  have hqi : (l : Int).tdiv 4 = (q : Int) := by rw [Int.tdiv_eq_ediv_of_nonneg (by omega)]; omega
  obtain ⟨i1, hi1⟩ : ∃ i1, i1 = a + q := ⟨_, rfl⟩
  have hi1i : (a : Int) + (q : Int) = (i1 : Int) := by omega
  obtain ⟨j1, hj1⟩ : ∃ j1, j1 = a + q * 2 := ⟨_, rfl⟩
  have hj1i : (a : Int) + (q : Int) * 2 = (j1 : Int) := by omega
  obtain ⟨k1, hk1⟩ : ∃ k1, k1 = a + q * 3 := ⟨_, rfl⟩
  have hk1i : (a : Int) + (q : Int) * 3 = (k1 : Int) := by omega
  have hq3 : q * 4 ≤ n := by omega
  have f1 : a < i1 ∧ i1 + 1 < b := by omega
  have f2 : a < j1 ∧ j1 + 1 < b := by omega
  have f3 : a < k1 ∧ k1 + 1 < b := by omega
  have h8 : 8 ≤ l := by omega
  have HC : Hid (∀ s, UCnt w0 blk off d w.heap.size (w.alloc (.cells #[.int .i64 s] 3))) := hide fun s => ⟨h.alloc _, ⟨s, by simp⟩, by simp, h.sw.le⟩
  have HA : Hid (∀ x W, 0 < x → x + 1 < n → UCnt w0 blk off d w.heap.size W → Calls Tryz.prog 163 #[.slice (some ⟨blk, off, none⟩) n cap, .int .i64 x, .pointer (some ⟨w.heap.size, 0, none⟩)] W fun e w' => ∃ y : Nat, e = .returned (.int .i64 y) ∧ Hid (x - 1 ≤ y ∧ y ≤ x + 1) ∧ Hid (UCnt w0 blk off d w.heap.size w')) :=
    hide fun x W h1 h2 hW => uMedianAdj w0 blk off cap w.heap.size x n d W hn hW h1 h2 hsz
  have HM : Hid (∀ x y z W, x < n → y < n → z < n → UCnt w0 blk off d w.heap.size W → Calls Tryz.prog 164 #[.slice (some ⟨blk, off, none⟩) n cap, .int .i64 x, .int .i64 y, .int .i64 z, .pointer (some ⟨w.heap.size, 0, none⟩)] W fun e w' => ∃ t : Nat, e = .returned (.int .i64 t) ∧ Hid (t = x ∨ t = y ∨ t = z) ∧ Hid (UCnt w0 blk off d w.heap.size w')) :=
    hide fun x y z W h1 h2 h3 hW => uMedian w0 blk off cap w.heap.size x y z n d W hn hW h1 h2 h3 hsz
  clear h hn hl hq hi1 hj1 hk1
  go_enter Tryz.func151, Tryz.ntmps151
  by_cases h50 : 50 ≤ l
  · go_wp2_with fail
    refine (unhide HA i1 _ (by omega) (by omega) (unhide HC 0)).mono ?_
    rintro e w1 ⟨x1, rfl, K1, H1⟩
    go_wp2_with fail
    refine (unhide HA j1 _ (by omega) (by omega) (unhide H1)).mono ?_
    rintro e w2 ⟨x2, rfl, K2, H2⟩
    go_wp2_with fail
    refine (unhide HA k1 _ (by omega) (by omega) (unhide H2)).mono ?_
    rintro e w3 ⟨x3, rfl, K3, H3⟩
    go_wp2_with fail
    refine (unhide HM x1 x2 x3 _ (by have := unhide K1; omega) (by have := unhide K2; omega) (by have := unhide K3; omega) (unhide H3)).mono ?_
    rintro e w4 ⟨x4, rfl, K4, H4⟩
    obtain ⟨s, hs⟩ := (unhide H4).cell
    go_wp2
    all_goals go_ret2
    all_goals exact ⟨x4, _, rfl, hide (by have := unhide K1; have := unhide K2; have := unhide K3; have := unhide K4; omega), hide (unhide H4).row⟩
  · go_wp2_with fail
    refine (unhide HM i1 j1 k1 _ (by omega) (by omega) (by omega) (unhide HC 0)).mono ?_
    rintro e w4 ⟨x4, rfl, K4, H4⟩
    obtain ⟨s, hs⟩ := (unhide H4).cell
    go_wp2
    all_goals go_ret2
    all_goals exact ⟨x4, _, rfl, hide (by have := unhide K4; omega), hide (unhide H4).row⟩

/-- The row beside the sort's random number. -/
structure URnd (w0 : World) (blk off : Nat) (d : Array Int) (c R : Nat) (W : World) : Prop where
  row : URow w0 blk off d W
  cell : W.cell? ⟨c, 0, none⟩ = some (.int .u64 R)
  fz : W.frozen? ⟨c, 0, none⟩ = false
  ge : w0.heap.size ≤ c
  lt : R < 18446744073709551616

theorem URnd.drewN {w0 W : World} {blk off c R : Nat} {d : Array Int} (h : URnd w0 blk off d c R W) (q : Nat) : URnd w0 blk off d c R (W.drewN q) := ⟨h.row.drewN q, h.cell, h.fz, h.ge, h.lt⟩
theorem URnd.set {w0 W : World} {blk off c R : Nat} {d : Array Int} (h : URnd w0 blk off d c R W) (s : Nat) (hs : s < 18446744073709551616) : URnd w0 blk off d c s (W.setCell ⟨c, 0, none⟩ (.int .u64 s)) :=
  ⟨h.row.setNew c 0 _ h.ge, World.cell?_setCell_same' _ _ _ (by rw [h.cell]; rfl), by rw [World.frozen?_setCell]; exact h.fz, h.ge, hs⟩
theorem URnd.swap {w0 W : World} {blk off c R : Nat} {d : Array Int} (h : URnd w0 blk off d c R W) (i j : Nat) (hi : i < d.size) (hj : j < d.size) :
    URnd w0 blk off (swp d i j) c R ((W.setCell ⟨blk, off + i, none⟩ (eU d[j]!)).setCell ⟨blk, off + j, none⟩ (eU d[i]!)) := by
  have h1 := h.row.lt
  have h2 := h.ge
  refine ⟨h.row.swap i j hi hj, ?_, by rw [World.frozen?_setCell, World.frozen?_setCell]; exact h.fz, h.ge, h.lt⟩
  rw [World.cell?_setCell_other _ _ _ _ (by intro e; simp only [Addr.mk.injEq] at e; omega), World.cell?_setCell_other _ _ _ _ (by intro e; simp only [Addr.mk.injEq] at e; omega)]
  exact h.cell

theorem uXor (rb X : Nat) (hX : X < 18446744073709551616) (w : World) (hc : w.cell? ⟨rb, 0, none⟩ = some (.int .u64 X)) (hf : w.frozen? ⟨rb, 0, none⟩ = false) :
    Calls Tryz.prog 159 #[.pointer (some ⟨rb, 0, none⟩)] w fun e w' => e = .returned (.int .u64 (xorNextN X : Nat)) ∧ w' = (w.setCell ⟨rb, 0, none⟩ (.int .u64 (xorNextN X : Nat))).drewN 3 :=
  AnyF.xorshift_Next { Tryz.sortL with } rb 0 X hX w hc hf
theorem uPow (n : Nat) (hn : n < 4611686018427387904) (w : World) :
    Calls Tryz.prog 158 #[.int .i64 n] w fun e w' => e = .returned (.int .u64 ((1 <<< bitsLen n : Nat) : Int)) ∧ w' = w :=
  AnyF.nextPowerOfTwo { Tryz.sortL with } n hn w
end Go.Proofs.YtibkhphbilfckaaGreatDoor

namespace Go.Proofs.YtibkhphbilfckaaGreatDoor
open Go.RowKit Go.Shelf Go.Lib Go.Sort

set_option maxHeartbeats 16000000 in
set_option maxRecDepth 100000 in
theorem uBreak (w0 : World) (blk off cap a b n : Nat) (d : Array Int) (w : World) (hn : d.size = n) (h : URow w0 blk off d w) (hab : a + 12 < b) (hb : b ≤ n) (hsz : n < 2305843009213693952) :
    Calls Tryz.prog 150 #[.slice (some ⟨blk, off, none⟩) n cap, .int .i64 a, .int .i64 b] w fun e w' => e = .returned (.tuple #[]) ∧ ∃ d', Hid (d'.size = n ∧ PermIn a b d d') ∧ Hid (URow w0 blk off d' w') := by
  obtain ⟨l, hl⟩ : ∃ l, l = b - a := ⟨_, rfl⟩
  have hli : (b : Int) - (a : Int) = (l : Int) := by omega
  obtain ⟨q, hq⟩ : ∃ q, q = l / 4 := ⟨_, rfl⟩
  have hqi : (l : Int).tdiv 4 = (q : Int) := by rw [Int.tdiv_eq_ediv_of_nonneg (by omega)]; omega
  obtain ⟨x0, hx0⟩ : ∃ x0, x0 = a + q * 2 - 1 := ⟨_, rfl⟩
  have hx0i : (a : Int) + (q : Int) * 2 - 1 = (x0 : Int) := by omega
  obtain ⟨x2, hx2⟩ : ∃ x2, x2 = x0 + 2 := ⟨_, rfl⟩
  have hx2i : (a : Int) + (q : Int) * 2 + 1 = (x2 : Int) := by omega
  have hq3 : q * 4 ≤ n := by omega
  have f1 : a ≤ x0 ∧ x0 + 2 < b := by omega
  have h8 : 8 ≤ l := by omega
  have hlb : a + l = b := by omega
  obtain ⟨M, hM⟩ : ∃ M : Nat, M = 1 <<< bitsLen l := ⟨_, rfl⟩
  have hM1 : 1 ≤ M := by rw [hM, Nat.one_shiftLeft]; exact Nat.two_pow_pos _
  have hM2 : M ≤ 2 * l := by rw [hM, Nat.one_shiftLeft]; exact two_pow_bitsLen_le (by omega)
  have HP : Hid (∀ W, Calls Tryz.prog 158 #[.int .i64 l] W fun e w' => e = .returned (.int .u64 (M : Int)) ∧ w' = W) := hide fun W => by rw [hM]; exact uPow l (by omega) W
  have HC : Hid (URnd w0 blk off d w.heap.size l (w.alloc (.cells #[.int .u64 (l : Int)] 257))) := hide ⟨h.alloc _, by simp, by simp, h.sw.le, by omega⟩
  have HN := hide hn
  clear h hn hl hq hM hx0
  go_enter Tryz.func150, Tryz.ntmps150
  go_wp2_with (go_at_call 158; refine (unhide HP _).mono ?_; rintro e w' ⟨rfl, rfl⟩)
  go_loopw [9] (fun v wr => ∃ (x R : Nat) (dk : Array Int), v = .int .i64 x ∧ x0 ≤ x ∧ x ≤ x0 + 3 ∧ Hid (dk.size = n ∧ PermIn a b d dk) ∧ Hid (URnd w0 blk off dk w.heap.size R wr)) (fun v _ => x0 + 3 - (intOf v).toNat)
  case atStart => exact ⟨x0, l, d, rfl, Nat.le_refl _, by omega, hide ⟨unhide HN, permIn_refl d a b⟩, HC⟩
  case round =>
    clear HC
    obtain ⟨x, R, dk, rfl, hx1, hx3, HK, HR⟩ := hrel
    by_cases hxx : x ≤ x2
    · have HNX : Hid (Calls Tryz.prog 159 #[.pointer (some ⟨w.heap.size, 0, none⟩)] wr fun e w' => e = .returned (.int .u64 (xorNextN R : Nat)) ∧ w' = (wr.setCell ⟨w.heap.size, 0, none⟩ (.int .u64 (xorNextN R : Nat))).drewN 3) := hide (uXor w.heap.size R (unhide HR).lt wr (unhide HR).cell (unhide HR).fz)
      have lR := xorNextN_lt R (unhide HR).lt
      have HX : Hid (URnd w0 blk off dk w.heap.size (xorNextN R) ((wr.setCell ⟨w.heap.size, 0, none⟩ (.int .u64 (xorNextN R : Nat))).drewN 3)) := hide (((unhide HR).set _ lR).drewN 3)
      obtain ⟨G, hG, hU⟩ := (unhide HX).row.cells
      rw [(unhide HK).1] at hU
      have hcw := hU.c
      have hfw := hU.f
      have HG := hide hG
      clear hG hU
      generalize (wr.setCell ⟨w.heap.size, 0, none⟩ (.int .u64 (xorNextN R : Nat))).drewN 3 = w2 at *
      obtain ⟨O, hO⟩ : ∃ O : Nat, O = xorNextN R &&& (M - 1) := ⟨_, rfl⟩
      have lO : O ≤ M - 1 := by rw [hO]; exact Nat.and_le_right
      have eAnd : bits .and .u64 (xorNextN R : Int) ((M : Int) - 1) = (O : Int) := by
        rw [show ((M : Int) - 1) = ((M - 1 : Nat) : Int) by omega, bits_and_u64_nat _ _ lR (by omega), hO]
      clear hO
      by_cases hLO : l ≤ O
      · skip
        obtain ⟨O2, hO2⟩ : ∃ O2, O2 = O - l := ⟨_, rfl⟩
        have hO2i : (O : Int) - (l : Int) = (O2 : Int) := by omega
        obtain ⟨t, ht⟩ : ∃ t, t = a + O2 := ⟨_, rfl⟩
        have hti : (a : Int) + (O2 : Int) = (t : Int) := by omega
        have htb : a ≤ t ∧ t < b := by omega
        clear ht hO2
        go_wp2_with (go_at_call 159; refine (unhide HNX).mono ?_; rintro e w' ⟨rfl, hw'⟩; obtain rfl : w2 = w' := hw'.symm)
        rcases Nat.lt_trichotomy x t with hxt | hxt | hxt
        · skip
          go_region
          all_goals go_wp2
          go_roundw
          case rel =>
            refine ⟨x + 1, xorNextN R, swp dk x t, by congr 1, by omega, by omega, hide ⟨by rw [size_swp]; exact (unhide HK).1, permIn_trans _ _ _ _ _ (unhide HK).2 (swp_permIn dk a b x t (by omega) (by omega) (by omega) (by omega) (by rw [(unhide HK).1]; omega))⟩, hide ?_⟩
            rw [unhide HG, unhide HG]
            exact ((unhide HX).drewN 1).swap x t (by rw [(unhide HK).1]; omega) (by rw [(unhide HK).1]; omega)
          case measure => simp [intOf]; omega
        · subst hxt
          go_region
          all_goals go_wp2
          go_roundw
          case rel =>
            refine ⟨x + 1, xorNextN R, swp dk x x, by congr 1, by omega, by omega, hide ⟨by rw [size_swp]; exact (unhide HK).1, permIn_trans _ _ _ _ _ (unhide HK).2 (swp_permIn dk a b x x (by omega) (by omega) (by omega) (by omega) (by rw [(unhide HK).1]; omega))⟩, hide ?_⟩
            rw [unhide HG]
            exact ((unhide HX).drewN 1).swap x x (by rw [(unhide HK).1]; omega) (by rw [(unhide HK).1]; omega)
          case measure => simp [intOf]; omega
        · skip
          go_region
          all_goals go_wp2
          go_roundw
          case rel =>
            refine ⟨x + 1, xorNextN R, swp dk x t, by congr 1, by omega, by omega, hide ⟨by rw [size_swp]; exact (unhide HK).1, permIn_trans _ _ _ _ _ (unhide HK).2 (swp_permIn dk a b x t (by omega) (by omega) (by omega) (by omega) (by rw [(unhide HK).1]; omega))⟩, hide ?_⟩
            rw [unhide HG, unhide HG]
            exact ((unhide HX).drewN 1).swap x t (by rw [(unhide HK).1]; omega) (by rw [(unhide HK).1]; omega)
          case measure => simp [intOf]; omega
      · skip
        obtain ⟨t, ht⟩ : ∃ t, t = a + O := ⟨_, rfl⟩
        have hti : (a : Int) + (O : Int) = (t : Int) := by omega
        have htb : a ≤ t ∧ t < b := by omega
        clear ht 
        go_wp2_with (go_at_call 159; refine (unhide HNX).mono ?_; rintro e w' ⟨rfl, hw'⟩; obtain rfl : w2 = w' := hw'.symm)
        rcases Nat.lt_trichotomy x t with hxt | hxt | hxt
        · skip
          go_region
          all_goals go_wp2
          go_roundw
          case rel =>
            refine ⟨x + 1, xorNextN R, swp dk x t, by congr 1, by omega, by omega, hide ⟨by rw [size_swp]; exact (unhide HK).1, permIn_trans _ _ _ _ _ (unhide HK).2 (swp_permIn dk a b x t (by omega) (by omega) (by omega) (by omega) (by rw [(unhide HK).1]; omega))⟩, hide ?_⟩
            rw [unhide HG, unhide HG]
            exact ((unhide HX).drewN 1).swap x t (by rw [(unhide HK).1]; omega) (by rw [(unhide HK).1]; omega)
          case measure => simp [intOf]; omega
        · subst hxt
          go_region
          all_goals go_wp2
          go_roundw
          case rel =>
            refine ⟨x + 1, xorNextN R, swp dk x x, by congr 1, by omega, by omega, hide ⟨by rw [size_swp]; exact (unhide HK).1, permIn_trans _ _ _ _ _ (unhide HK).2 (swp_permIn dk a b x x (by omega) (by omega) (by omega) (by omega) (by rw [(unhide HK).1]; omega))⟩, hide ?_⟩
            rw [unhide HG]
            exact ((unhide HX).drewN 1).swap x x (by rw [(unhide HK).1]; omega) (by rw [(unhide HK).1]; omega)
          case measure => simp [intOf]; omega
        · skip
          go_region
          all_goals go_wp2
          go_roundw
          case rel =>
            refine ⟨x + 1, xorNextN R, swp dk x t, by congr 1, by omega, by omega, hide ⟨by rw [size_swp]; exact (unhide HK).1, permIn_trans _ _ _ _ _ (unhide HK).2 (swp_permIn dk a b x t (by omega) (by omega) (by omega) (by omega) (by rw [(unhide HK).1]; omega))⟩, hide ?_⟩
            rw [unhide HG, unhide HG]
            exact ((unhide HX).drewN 1).swap x t (by rw [(unhide HK).1]; omega) (by rw [(unhide HK).1]; omega)
          case measure => simp [intOf]; omega
    · go_wp2
      go_end0
      exact ⟨rfl, dk, HK, hide (unhide HR).row⟩
end Go.Proofs.YtibkhphbilfckaaGreatDoor
