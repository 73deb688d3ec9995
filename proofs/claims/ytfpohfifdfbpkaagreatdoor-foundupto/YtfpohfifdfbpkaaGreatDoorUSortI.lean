import Derived.Test.YtfpohfifdfbpkaaGreatDoorUSortD
import Derived.Test.YtfpohfifdfbpkaaGreatDoorShelf
import Derived.Sort.LotD1
import Derived.Laws.BitsLemmas
import Derived.Test.YtfpohfifdfbpkaaGreatDoorUSortG
import Derived.Sort.LotD3
import Derived.Deep.DeepCutAuto
namespace Go.Proofs.YtfpohfifdfbpkaaGreatDoor
open Go.RowKit Go.Shelf Go.Lib Go.Sort
set_option maxHeartbeats 8000000 in
set_option maxRecDepth 100000 in
theorem uPivot (w0 : World) (blk off cap a b n : Nat) (d : Array Int) (w : World) (hn : d.size = n) (h : zR w0 blk off d w) (hab : a + 12 < b) (hb : b <= n) (hsz : n < 2305843009213693952) :
 Calls Tryz.prog 169 #[.slice (some ⟨blk, off, none⟩) n cap, .int .i64 a, .int .i64 b] w fun e w' => ∃ (p : Nat) (t : Int), e = .returned (.tuple #[.int .i64 p, .int .i64 t]) /\ Hid (a <= p /\ p < b) /\ Hid (zR w0 blk off d w') := by
 obtain ⟨l, hl⟩ : ∃ l, l = b - a := ⟨_, rfl⟩
 have hli : (b : Int) - (a : Int) = (l : Int) := by omega
 obtain ⟨q, hq⟩ : ∃ q, q = l / 4 := ⟨_, rfl⟩
 have hqi : (l : Int).tdiv 4 = (q : Int) := by rw [Int.tdiv_eq_ediv_of_nonneg (by omega)]; omega
 obtain ⟨i1, hi1⟩ : ∃ i1, i1 = a + q := ⟨_, rfl⟩
 have hi1i : (a : Int) + (q : Int) = (i1 : Int) := by omega
 obtain ⟨j1, hj1⟩ : ∃ j1, j1 = a + q * 2 := ⟨_, rfl⟩
 have hj1i : (a : Int) + (q : Int) * 2 = (j1 : Int) := by omega
 obtain ⟨k1, hk1⟩ : ∃ k1, k1 = a + q * 3 := ⟨_, rfl⟩
 have hk1i : (a : Int) + (q : Int) * 3 = (k1 : Int) := by omega
 have hq3 : q * 4 <= n := by omega
 have f1 : a < i1 /\ i1 + 1 < b := by omega
 have f2 : a < j1 /\ j1 + 1 < b := by omega
 have f3 : a < k1 /\ k1 + 1 < b := by omega
 have h8 : 8 <= l := by omega
 have HC : Hid (∀ s, UCnt w0 blk off d w.heap.size (w.alloc (.cells #[.int .i64 s] 3))) := zB fun s => ⟨h.alloc _, ⟨s, by simp⟩, by simp, h.sw.le⟩
 have HA : Hid (∀ x W, 0 < x -> x + 1 < n -> UCnt w0 blk off d w.heap.size W -> Calls Tryz.prog 181 #[.slice (some ⟨blk, off, none⟩) n cap, .int .i64 x, .pointer (some ⟨w.heap.size, 0, none⟩)] W fun e w' => ∃ y : Nat, e = .returned (.int .i64 y) /\ Hid (x - 1 <= y /\ y <= x + 1) /\ Hid (UCnt w0 blk off d w.heap.size w')) :=
  zB fun x W h1 h2 hW => uMedianAdj w0 blk off cap w.heap.size x n d W hn hW h1 h2 hsz
 have HM : Hid (∀ x y z W, x < n -> y < n -> z < n -> UCnt w0 blk off d w.heap.size W -> Calls Tryz.prog 182 #[.slice (some ⟨blk, off, none⟩) n cap, .int .i64 x, .int .i64 y, .int .i64 z, .pointer (some ⟨w.heap.size, 0, none⟩)] W fun e w' => ∃ t : Nat, e = .returned (.int .i64 t) /\ Hid (t = x \/ t = y \/ t = z) /\ Hid (UCnt w0 blk off d w.heap.size w')) :=
  zB fun x y z W h1 h2 h3 hW => uMedian w0 blk off cap w.heap.size x y z n d W hn hW h1 h2 h3 hsz
 clear h hn hl hq hi1 hj1 hk1
 go_enter Tryz.func169, Tryz.ntmps169
 by_cases h50 : 50 <= l
 ·go_wp2_with fail
  refine (zA HA i1 _ (by omega) (by omega) (zA HC 0)).mono ?_
  rintro e w1 ⟨x1, rfl, K1, H1⟩
  go_wp2_with fail
  refine (zA HA j1 _ (by omega) (by omega) (zA H1)).mono ?_
  rintro e w2 ⟨x2, rfl, K2, H2⟩
  go_wp2_with fail
  refine (zA HA k1 _ (by omega) (by omega) (zA H2)).mono ?_
  rintro e w3 ⟨x3, rfl, K3, H3⟩
  go_wp2_with fail
  refine (zA HM x1 x2 x3 _ (by have := zA K1; omega) (by have := zA K2; omega) (by have := zA K3; omega) (zA H3)).mono ?_
  rintro e w4 ⟨x4, rfl, K4, H4⟩
  obtain ⟨s, hs⟩ := (zA H4).cell
  go_wp2
  all_goals go_ret2
  all_goals exact ⟨x4, _, rfl, zB (by have := zA K1; have := zA K2; have := zA K3; have := zA K4; omega), zB (zA H4).row⟩
 ·go_wp2_with fail
  refine (zA HM i1 j1 k1 _ (by omega) (by omega) (by omega) (zA HC 0)).mono ?_
  rintro e w4 ⟨x4, rfl, K4, H4⟩
  obtain ⟨s, hs⟩ := (zA H4).cell
  go_wp2
  all_goals go_ret2
  all_goals exact ⟨x4, _, rfl, zB (by have := zA K4; omega), zB (zA H4).row⟩
structure URnd (w0 : World) (blk off : Nat) (d : Array Int) (c R : Nat) (W : World) : Prop where
 row : zR w0 blk off d W
 cell : W.cell? ⟨c, 0, none⟩ = some (.int .u64 R)
 fz : W.frozen? ⟨c, 0, none⟩ = false
 ge : w0.heap.size <= c
 lt : R < 18446744073709551616
theorem URnd.drewN {w0 W : World} {blk off c R : Nat} {d : Array Int} (h : URnd w0 blk off d c R W) (q : Nat) : URnd w0 blk off d c R (W.drewN q) := ⟨h.row.drewN q, h.cell, h.fz, h.ge, h.lt⟩
theorem URnd.set {w0 W : World} {blk off c R : Nat} {d : Array Int} (h : URnd w0 blk off d c R W) (s : Nat) (hs : s < 18446744073709551616) : URnd w0 blk off d c s (W.setCell ⟨c, 0, none⟩ (.int .u64 s)) :=
 ⟨h.row.setNew c 0 _ h.ge, World.cell?_setCell_same' _ _ _ (by rw [h.cell]; rfl), by rw [World.frozen?_setCell]; exact h.fz, h.ge, hs⟩
theorem URnd.swap {w0 W : World} {blk off c R : Nat} {d : Array Int} (h : URnd w0 blk off d c R W) (i j : Nat) (hi : i < d.size) (hj : j < d.size) :
 URnd w0 blk off (swp d i j) c R ((W.setCell ⟨blk, off + i, none⟩ (eU d[j]!)).setCell ⟨blk, off + j, none⟩ (eU d[i]!)) := by
 have h1 := h.row.lt
 have h2 := h.ge
 refine ⟨h.row.swap i j hi hj, ?_, by rw [World.frozen?_setCell, World.frozen?_setCell]; exact h.fz, h.ge, h.lt⟩
 rw [World.cell?_setCell_other _ _ _ _ (by intro e; simp only [Addr.mk.injEq] at e; omega), World.cell?_setCell_other _ _ _ _ (by intro e; simp only [Addr.mk.injEq] at e; omega)]
 exact h.cell
theorem uXor (rb X : Nat) (hX : X < 18446744073709551616) (w : World) (hc : w.cell? ⟨rb, 0, none⟩ = some (.int .u64 X)) (hf : w.frozen? ⟨rb, 0, none⟩ = false) :
 Calls Tryz.prog 177 #[.pointer (some ⟨rb, 0, none⟩)] w fun e w' => e = .returned (.int .u64 (xorNextN X : Nat)) /\ w' = (w.setCell ⟨rb, 0, none⟩ (.int .u64 (xorNextN X : Nat))).drewN 3 :=
 AnyF.xorshift_Next { Tryz.sortL with } rb 0 X hX w hc hf
theorem uPow (n : Nat) (hn : n < 4611686018427387904) (w : World) :
 Calls Tryz.prog 176 #[.int .i64 n] w fun e w' => e = .returned (.int .u64 ((1 <<< bitsLen n : Nat) : Int)) /\ w' = w :=
 AnyF.nextPowerOfTwo { Tryz.sortL with } n hn w
end Go.Proofs.YtfpohfifdfbpkaaGreatDoor
namespace Go.Proofs.YtfpohfifdfbpkaaGreatDoor
open Go.RowKit Go.Shelf Go.Lib Go.Sort
set_option maxHeartbeats 16000000 in
set_option maxRecDepth 100000 in
theorem uBreak (w0 : World) (blk off cap a b n : Nat) (d : Array Int) (w : World) (hn : d.size = n) (h : zR w0 blk off d w) (hab : a + 12 < b) (hb : b <= n) (hsz : n < 2305843009213693952) :
 Calls Tryz.prog 168 #[.slice (some ⟨blk, off, none⟩) n cap, .int .i64 a, .int .i64 b] w fun e w' => e = .returned (.tuple #[]) /\ ∃ d', Hid (d'.size = n /\ PermIn a b d d') /\ Hid (zR w0 blk off d' w') := by
 obtain ⟨l, hl⟩ : ∃ l, l = b - a := ⟨_, rfl⟩
 have hli : (b : Int) - (a : Int) = (l : Int) := by omega
 obtain ⟨q, hq⟩ : ∃ q, q = l / 4 := ⟨_, rfl⟩
 have hqi : (l : Int).tdiv 4 = (q : Int) := by rw [Int.tdiv_eq_ediv_of_nonneg (by omega)]; omega
 obtain ⟨x0, hx0⟩ : ∃ x0, x0 = a + q * 2 - 1 := ⟨_, rfl⟩
 have hx0i : (a : Int) + (q : Int) * 2 - 1 = (x0 : Int) := by omega
 obtain ⟨x2, hx2⟩ : ∃ x2, x2 = x0 + 2 := ⟨_, rfl⟩
 have hx2i : (a : Int) + (q : Int) * 2 + 1 = (x2 : Int) := by omega
 have hq3 : q * 4 <= n := by omega
 have f1 : a <= x0 /\ x0 + 2 < b := by omega
 have h8 : 8 <= l := by omega
 have hlb : a + l = b := by omega
 obtain ⟨M, hM⟩ : ∃ M : Nat, M = 1 <<< bitsLen l := ⟨_, rfl⟩
 have hM1 : 1 <= M := by rw [hM, Nat.one_shiftLeft]; exact Nat.two_pow_pos _
 have hM2 : M <= 2 * l := by rw [hM, Nat.one_shiftLeft]; exact two_pow_bitsLen_le (by omega)
 have HP : Hid (∀ W, Calls Tryz.prog 176 #[.int .i64 l] W fun e w' => e = .returned (.int .u64 (M : Int)) /\ w' = W) := zB fun W => by rw [hM]; exact uPow l (by omega) W
 have HC : Hid (URnd w0 blk off d w.heap.size l (w.alloc (.cells #[.int .u64 (l : Int)] 274))) := zB ⟨h.alloc _, by simp, by simp, h.sw.le, by omega⟩
 have HN := zB hn
 clear h hn hl hq hM hx0
 go_enter Tryz.func168, Tryz.ntmps168
 go_wp2_with (go_at_call 176; refine (zA HP _).mono ?_; rintro e w' ⟨rfl, rfl⟩)
 go_loopw [9] (fun v wr => ∃ (x R : Nat) (dk : Array Int), v = .int .i64 x /\ x0 <= x /\ x <= x0 + 3 /\ Hid (dk.size = n /\ PermIn a b d dk) /\ Hid (URnd w0 blk off dk w.heap.size R wr)) (fun v _ => x0 + 3 - (intOf v).toNat)
 case atStart => exact ⟨x0, l, d, rfl, Nat.le_refl _, by omega, zB ⟨zA HN, permIn_refl d a b⟩, HC⟩
 case round =>
  clear HC
  obtain ⟨x, R, dk, rfl, hx1, hx3, HK, HR⟩ := hrel
  by_cases hxx : x <= x2
  ·have HNX : Hid (Calls Tryz.prog 177 #[.pointer (some ⟨w.heap.size, 0, none⟩)] wr fun e w' => e = .returned (.int .u64 (xorNextN R : Nat)) /\ w' = (wr.setCell ⟨w.heap.size, 0, none⟩ (.int .u64 (xorNextN R : Nat))).drewN 3) := zB (uXor w.heap.size R (zA HR).lt wr (zA HR).cell (zA HR).fz)
   have lR := xorNextN_lt R (zA HR).lt
   have HX : Hid (URnd w0 blk off dk w.heap.size (xorNextN R) ((wr.setCell ⟨w.heap.size, 0, none⟩ (.int .u64 (xorNextN R : Nat))).drewN 3)) := zB (((zA HR).set _ lR).drewN 3)
   obtain ⟨G, hG, hU⟩ := (zA HX).row.cells
   rw [(zA HK).1] at hU
   have hcw := hU.c
   have hfw := hU.f
   have HG := zB hG
   clear hG hU
   generalize (wr.setCell ⟨w.heap.size, 0, none⟩ (.int .u64 (xorNextN R : Nat))).drewN 3 = w2 at *
   obtain ⟨O, hO⟩ : ∃ O : Nat, O = xorNextN R &&& (M - 1) := ⟨_, rfl⟩
   have lO : O <= M - 1 := by rw [hO]; exact Nat.and_le_right
   have eAnd : bits .and .u64 (xorNextN R : Int) ((M : Int) - 1) = (O : Int) := by
    rw [show ((M : Int) - 1) = ((M - 1 : Nat) : Int) by omega, bits_and_u64_nat _ _ lR (by omega), hO]
   clear hO
   by_cases hLO : l <= O
   ·skip
    obtain ⟨O2, hO2⟩ : ∃ O2, O2 = O - l := ⟨_, rfl⟩
    have hO2i : (O : Int) - (l : Int) = (O2 : Int) := by omega
    obtain ⟨t, ht⟩ : ∃ t, t = a + O2 := ⟨_, rfl⟩
    have hti : (a : Int) + (O2 : Int) = (t : Int) := by omega
    have htb : a <= t /\ t < b := by omega
    clear ht hO2
    go_wp2_with (go_at_call 177; refine (zA HNX).mono ?_; rintro e w' ⟨rfl, hw'⟩; obtain rfl : w2 = w' := hw'.symm)
    rcases Nat.lt_trichotomy x t with hxt | hxt | hxt
    ·skip
     go_region
     all_goals go_wp2
     go_roundw
     case rel =>
      refine ⟨x + 1, xorNextN R, swp dk x t, by congr 1, by omega, by omega, zB ⟨by rw [size_swp]; exact (zA HK).1, permIn_trans _ _ _ _ _ (zA HK).2 (swp_permIn dk a b x t (by omega) (by omega) (by omega) (by omega) (by rw [(zA HK).1]; omega))⟩, zB ?_⟩
      rw [zA HG, zA HG]
      exact ((zA HX).drewN 1).swap x t (by rw [(zA HK).1]; omega) (by rw [(zA HK).1]; omega)
     case measure => simp [intOf]; omega
    ·subst hxt
     go_region
     all_goals go_wp2
     go_roundw
     case rel =>
      refine ⟨x + 1, xorNextN R, swp dk x x, by congr 1, by omega, by omega, zB ⟨by rw [size_swp]; exact (zA HK).1, permIn_trans _ _ _ _ _ (zA HK).2 (swp_permIn dk a b x x (by omega) (by omega) (by omega) (by omega) (by rw [(zA HK).1]; omega))⟩, zB ?_⟩
      rw [zA HG]
      exact ((zA HX).drewN 1).swap x x (by rw [(zA HK).1]; omega) (by rw [(zA HK).1]; omega)
     case measure => simp [intOf]; omega
    ·skip
     go_region
     all_goals go_wp2
     go_roundw
     case rel =>
      refine ⟨x + 1, xorNextN R, swp dk x t, by congr 1, by omega, by omega, zB ⟨by rw [size_swp]; exact (zA HK).1, permIn_trans _ _ _ _ _ (zA HK).2 (swp_permIn dk a b x t (by omega) (by omega) (by omega) (by omega) (by rw [(zA HK).1]; omega))⟩, zB ?_⟩
      rw [zA HG, zA HG]
      exact ((zA HX).drewN 1).swap x t (by rw [(zA HK).1]; omega) (by rw [(zA HK).1]; omega)
     case measure => simp [intOf]; omega
   ·skip
    obtain ⟨t, ht⟩ : ∃ t, t = a + O := ⟨_, rfl⟩
    have hti : (a : Int) + (O : Int) = (t : Int) := by omega
    have htb : a <= t /\ t < b := by omega
    clear ht 
    go_wp2_with (go_at_call 177; refine (zA HNX).mono ?_; rintro e w' ⟨rfl, hw'⟩; obtain rfl : w2 = w' := hw'.symm)
    rcases Nat.lt_trichotomy x t with hxt | hxt | hxt
    ·skip
     go_region
     all_goals go_wp2
     go_roundw
     case rel =>
      refine ⟨x + 1, xorNextN R, swp dk x t, by congr 1, by omega, by omega, zB ⟨by rw [size_swp]; exact (zA HK).1, permIn_trans _ _ _ _ _ (zA HK).2 (swp_permIn dk a b x t (by omega) (by omega) (by omega) (by omega) (by rw [(zA HK).1]; omega))⟩, zB ?_⟩
      rw [zA HG, zA HG]
      exact ((zA HX).drewN 1).swap x t (by rw [(zA HK).1]; omega) (by rw [(zA HK).1]; omega)
     case measure => simp [intOf]; omega
    ·subst hxt
     go_region
     all_goals go_wp2
     go_roundw
     case rel =>
      refine ⟨x + 1, xorNextN R, swp dk x x, by congr 1, by omega, by omega, zB ⟨by rw [size_swp]; exact (zA HK).1, permIn_trans _ _ _ _ _ (zA HK).2 (swp_permIn dk a b x x (by omega) (by omega) (by omega) (by omega) (by rw [(zA HK).1]; omega))⟩, zB ?_⟩
      rw [zA HG]
      exact ((zA HX).drewN 1).swap x x (by rw [(zA HK).1]; omega) (by rw [(zA HK).1]; omega)
     case measure => simp [intOf]; omega
    ·skip
     go_region
     all_goals go_wp2
     go_roundw
     case rel =>
      refine ⟨x + 1, xorNextN R, swp dk x t, by congr 1, by omega, by omega, zB ⟨by rw [size_swp]; exact (zA HK).1, permIn_trans _ _ _ _ _ (zA HK).2 (swp_permIn dk a b x t (by omega) (by omega) (by omega) (by omega) (by rw [(zA HK).1]; omega))⟩, zB ?_⟩
      rw [zA HG, zA HG]
      exact ((zA HX).drewN 1).swap x t (by rw [(zA HK).1]; omega) (by rw [(zA HK).1]; omega)
     case measure => simp [intOf]; omega
  ·go_wp2
   go_end0
   exact ⟨rfl, dk, HK, zB (zA HR).row⟩
end Go.Proofs.YtfpohfifdfbpkaaGreatDoor
namespace Go.Proofs.YtfpohfifdfbpkaaGreatDoor
open Go.RowKit Go.Shelf Go.Lib Go.Sort
structure UGoal (d : Array Int) (a0 b0 : Nat) (dk : Array Int) (a b : Nat) : Prop where
 bel : Sort.Below ltInt a b dk
 fin : ∀ R, PermIn a b dk R -> SortedIn ltInt a b R -> PermIn a0 b0 d R /\ SortedIn ltInt a0 b0 R
theorem UGoal.perm {d dk d1 : Array Int} {a0 b0 a b : Nat} (h : UGoal d a0 b0 dk a b) (hb : b <= dk.size) (hp : PermIn a b dk d1) : UGoal d a0 b0 d1 a b :=
 ⟨h.bel.perm hb hp, fun R h1 h2 => h.fin R (permIn_trans _ _ _ _ _ hp h1) h2⟩
def UPdq (w0 : World) (blk off cap n m : Nat) : Prop := ∀ (a b lim : Nat) (d : Array Int) (w : World), d.size = n -> zR w0 blk off d w -> a <= b -> b <= n -> b - a <= m -> lim < 4611686018427387904 -> Sort.Below ltInt a b d ->
 Calls Tryz.prog 144 #[.slice (some ⟨blk, off, none⟩) n cap, .int .i64 a, .int .i64 b, .int .i64 lim] w fun e w' => e = .returned (.tuple #[]) /\ ∃ d', Hid (d'.size = n /\ PermIn a b d d' /\ SortedIn ltInt a b d') /\ Hid (zR w0 blk off d' w')
set_option maxHeartbeats 64000000 in
set_option maxRecDepth 100000 in
theorem uPdqStep (w0 : World) (blk off cap n m : Nat) (hsz : n < 2305843009213693952) (IH : ∀ m', m' < m -> UPdq w0 blk off cap n m') : UPdq w0 blk off cap n m := by
 intro a0 b0 lim0 d w hn h hab0 hb0 hm0 hlim0 hbel
 have HIH := zB IH
 have H := zB h
 have HN := zB hn
 have HB := zB hbel
 clear IH h hn hbel
 go_enter Tryz.func144, Tryz.ntmps144
 go_wp2
 go_loopg [1, 2, 3, 8, 9] (b0 - a0) (fun g v1 v2 v3 v8 v9 wr => ∃ (a b lim : Nat) (wb wp : Bool) (dk : Array Int), v1 = .int .i64 a /\ v2 = .int .i64 b /\ v3 = .int .i64 lim /\ v8 = .bool wb /\ v9 = .bool wp /\ a <= b /\ b <= b0 /\ b - a <= g /\ g <= m /\ lim < 4611686018427387904 /\ Hid (dk.size = n) /\ Hid (UGoal d a0 b0 dk a b) /\ Hid (zR w0 blk off dk wr))
 case atStart => exact ⟨a0, b0, lim0, true, true, d, rfl, rfl, rfl, rfl, rfl, hab0, Nat.le_refl _, Nat.le_refl _, hm0, hlim0, HN, zB ⟨zA HB, fun R h1 h2 => ⟨h1, h2⟩⟩, H⟩
 case round =>
  clear H HN HB
  obtain ⟨a, b, lim, wb, wp, dk, rfl, rfl, rfl, rfl, rfl, hab, hbb, hgk, hgm, hlim, HS, HG, HR⟩ := hrel
  obtain ⟨l, hl⟩ : ∃ l, l = b - a := ⟨_, rfl⟩
  have hli : (b : Int) - (a : Int) = (l : Int) := by omega
  have hbn : b <= n := by omega
  by_cases h12 : l <= 12
  ·have HC := zB (uInsertion w0 blk off cap a b n dk wr (zA HS) (zA HR) hab hbn (by omega))
   go_wp2_with (go_at_call 166; refine (zA HC).mono ?_; rintro e w1 ⟨rfl, hR1⟩)
   have HR1 := zB hR1
   clear hR1
   (try simp only [Exit.inBlock, Exit.then])
   refine bodyPost_ret (results_none rfl _ _ _) rfl ?_
   have hi := insertionSort_holds (lt := ltInt) swo_ltInt dk a b hab (by rw [zA HS]; exact hbn)
   have hf := (zA HG).fin _ hi.1 hi.2
   exact ⟨rfl, _, zB ⟨hi.1.1.trans (zA HS), hf.1, hf.2⟩, HR1⟩
  ·by_cases h0 : lim = 0
   ·subst h0
    have HC := zB (uHeap w0 blk off cap a b n dk wr (zA HS) (zA HR) hab hbn hsz)
    go_wp2_with (go_at_call 167; refine (zA HC).mono ?_; rintro e w1 ⟨rfl, hR1⟩)
    have HR1 := zB hR1
    clear hR1
    (try simp only [Exit.inBlock, Exit.then])
    refine bodyPost_ret (results_none rfl _ _ _) rfl ?_
    have hi := heapSort_holds (lt := ltInt) swo_ltInt dk a b hab (by rw [zA HS]; exact hbn)
    have hf := (zA HG).fin _ hi.1 hi.2
    exact ⟨rfl, _, zB ⟨hi.1.1.trans (zA HS), hf.1, hf.2⟩, HR1⟩
   ·have hlt12 : a + 12 < b := by omega
    go_upto_if 35 with fail
    go_cut [3] (fun v wx => ∃ (lim2 : Nat) (d1 : Array Int), v = .int .i64 lim2 /\ lim2 <= lim /\ Hid (d1.size = n) /\ Hid (UGoal d a0 b0 d1 a b) /\ Hid (zR w0 blk off d1 wx))
    case first =>
     cases wb
     ·have HC := zB (uBreak w0 blk off cap a b n dk wr (zA HS) (zA HR) hlt12 hbn hsz)
      go_wp2_with (go_at_call 168; refine (zA HC).mono ?_; rintro e w1 ⟨rfl, d1, K1, HR1⟩)
      go_meet
      exact ⟨lim - 1, d1, by congr 1; omega, by omega, zB (zA K1).1, zB ((zA HG).perm (by rw [zA HS]; exact hbn) (zA K1).2), HR1⟩
     ·go_wp2
      go_meet
      exact ⟨lim, dk, rfl, Nat.le_refl _, HS, HG, HR⟩
    case rest =>
     clear HS HG HR
     obtain ⟨lim2, d1, rfl, hlim2, HS1, HG1, HR1⟩ := hcut
     go_wp2_with fail
     refine (uPivot w0 blk off cap a b n d1 wc (zA HS1) (zA HR1) hlt12 hbn hsz).mono ?_
     rintro e w2 ⟨p, t, rfl, HP, HR2⟩
     clear HR1
     go_upto_if 50 with fail
     go_cut [11, 12] (fun v11 v12 wx => ∃ (p2 : Nat) (t2 : Int) (d2 : Array Int), v11 = .int .i64 p2 /\ v12 = .int .i64 t2 /\ Hid (a <= p2 /\ p2 < b) /\ Hid (d2.size = n) /\ Hid (UGoal d a0 b0 d2 a b) /\ Hid (zR w0 blk off d2 wx))
     case first =>
      by_cases ht : t = 2
      ·subst ht
       have HC := zB (uReverse w0 blk off cap a b n d1 w2 (zA HS1) (zA HR2) (by omega) hbn hsz)
       have hp1 : a <= p := (zA HP).1
       have hp2 : p < b := (zA HP).2
       go_wp2_with (go_at_call 170; refine (zA HC).mono ?_; rintro e w3 ⟨rfl, hR3⟩; have HR3 := zB hR3; clear hR3)
       go_meet
       have hv := reverseRange_holds d1 a b hab (by rw [zA HS1]; exact hbn)
       exact ⟨(b - 1) - (p - a), 1, _, by congr 1; omega, rfl, zB (by omega), zB (hv.1.trans (zA HS1)), zB ((zA HG1).perm (by rw [zA HS1]; exact hbn) hv), HR3⟩
      ·go_wp2
       go_meet
       exact ⟨p, t, d1, rfl, rfl, HP, HS1, HG1, HR2⟩
     case rest =>
      clear HS1 HG1 HR2 HP
      obtain ⟨p2, t2, d2, rfl, rfl, HP, HS2, HG2, HR2⟩ := hcut
      go_upto_region 15 with fail
      go_cut [68] (fun v wx => ∃ bb : Bool, v = .bool bb /\ Hid (zR w0 blk off d2 wx))
      case first =>
       by_cases htt : t2 = 1
       ·subst htt
        cases wb <;> cases wp
        all_goals go_wp2
        all_goals go_meet
        all_goals exact ⟨_, rfl, HR2⟩
       ·cases wb <;> cases wp
        all_goals go_wp2
        all_goals go_meet
        all_goals exact ⟨_, rfl, HR2⟩
      case rest =>
      clear HR2
      obtain ⟨bb, rfl, HR2⟩ := hcut
      go_upto_if 68 with fail
      go_cut [11] (fun v11 wx => ∃ d3 : Array Int, v11 = .int .i64 p2 /\ Hid (d3.size = n) /\ Hid (UGoal d a0 b0 d3 a b) /\ Hid (zR w0 blk off d3 wx))
      case first =>
       have hp := partialInsertionSort_holds (lt := ltInt) swo_ltInt d2 a b (by omega) (by rw [zA HS2]; exact hbn) (zA HG2).bel
       have HC := zB (uPartial w0 blk off cap a b n d2 wc (zA HS2) (zA HR2) (by omega) hbn hsz)
       generalize partialInsertionSort ltInt d2 a b = res at *
       obtain ⟨d3, bq⟩ := res
       have HPI := zB hp
       clear hp
       simp only [] at HPI HC
       cases bb
       ·go_wp2
        go_meet
        exact ⟨d2, rfl, HS2, HG2, HR2⟩
       ·cases bq
        ·go_wp2_with (go_at_call 171; refine (zA HC).mono ?_; rintro e w3 ⟨rfl, hR3⟩; have HR3 := zB hR3; clear hR3)
         go_meet
         exact ⟨d3, rfl, zB ((zA HPI).1.1.trans (zA HS2)), zB ((zA HG2).perm (by rw [zA HS2]; exact hbn) (zA HPI).1), HR3⟩
        ·go_wp2_with (go_at_call 171; refine (zA HC).mono ?_; rintro e w3 ⟨rfl, hR3⟩; have HR3 := zB hR3; clear hR3)
         (try simp only [Exit.inBlock, Exit.then])
         refine bodyPost_ret (results_none rfl _ _ _) rfl ?_
         have hf := (zA HG2).fin _ (zA HPI).1 ((zA HPI).2 trivial)
         exact ⟨rfl, _, zB ⟨(zA HPI).1.1.trans (zA HS2), hf.1, hf.2⟩, HR3⟩
      case rest =>
       clear HS2 HG2 HR2
       obtain ⟨d3, rfl, HS, HG, HR⟩ := hcut
       obtain ⟨G, hG, hU⟩ := (zA HR).cells
       rw [zA HS] at hU
       have hcw := hU.c
       have hfw := hU.f
       have HGG := zB hG
       clear hG hU
       have hp1 : a <= p2 := (zA HP).1
       have hp2 : p2 < b := (zA HP).2
       have hpn : p2 < n := by omega
       go_wp2
       by_cases ha0 : 0 < a
       ·go_quiet (first | (go_at_call 172; refine Calls.quiet_of_same (zF _ _ _)))
        go_wp2_with fail
        ·rename (!ltInt (G (a - 1)) (G p2)) = true => hnl
         have HNL : Hid (ltInt d3[a - 1]! d3[p2]! = false) := zB (by rw [← zA HGG, ← zA HGG]; simpa using hnl)
         have HRq : Hid (zR w0 blk off d3 (wc.drewN nq)) := zB ((zA HR).drewN nq)
         obtain ⟨mid, d4, hx⟩ : ∃ mid d4, partitionEqual ltInt d3 a b p2 = (mid, d4) := ⟨_, _, rfl⟩
         have HC := zB (uPartEq w0 blk off cap a b p2 n d3 (wc.drewN nq) (zA HS) (zA HRq) hp1 hp2 hbn hsz)
         rw [hx] at HC
         have hre := round_eq swo_ltInt (partitionEqual_holds ltInt) ha0 hp1 hp2 (by rw [zA HS]; exact hbn) (zA HG).bel (zA HNL) hx
         have hm1 := hre.1
         have hm2 := hre.2.1
         have HRE := zB hre
         clear hre hx hnl hcw hfw
         generalize wc.drewN nq = wz at *
         refine (zA HC).mono ?_
         rintro e w5 ⟨rfl, hR5⟩
         have HR5 := zB hR5
         clear hR5
         go_wp2
         go_roundg (b - mid)
         case measure => omega
         case rel => exact ⟨mid, b, lim2, wb, wp, d4, rfl, rfl, rfl, rfl, rfl, by omega, hbb, by omega, by omega, by omega, zB ((zA HRE).2.2.1.trans (zA HS)), zB ⟨(zA HRE).2.2.2.1, fun R h1 h2 => (zA HG).fin R ((zA HRE).2.2.2.2 R h1 h2).1 ((zA HRE).2.2.2.2 R h1 h2).2⟩, HR5⟩
        ·have HRq : Hid (zR w0 blk off d3 (wc.drewN nq)) := zB ((zA HR).drewN nq)
         clear hcw hfw
         generalize wc.drewN nq = wz at *
         obtain ⟨mid, ap, d4, hx⟩ : ∃ mid ap d4, partition ltInt d3 a b p2 = (mid, ap, d4) := ⟨_, _, _, rfl⟩
         have HC := zB (uPart w0 blk off cap a b p2 n d3 wz (zA HS) (zA HRq) hp1 hp2 hbn hsz)
         rw [hx] at HC
         have hre := round_part swo_ltInt (partition_holds ltInt) hp1 hp2 (by rw [zA HS]; exact hbn) (zA HG).bel hx
         have hm1 := hre.1
         have hm2 := hre.2.1
         have HRE := zB hre
         clear hre hx
         refine (zA HC).mono ?_
         rintro e w5 ⟨rfl, hR5⟩
         have HR5 := zB hR5
         clear hR5
         obtain ⟨u, hu⟩ : ∃ u, u = mid - a := ⟨_, rfl⟩
         have hui : (mid : Int) - (a : Int) = (u : Int) := by omega
         obtain ⟨v, hv⟩ : ∃ v, v = b - mid := ⟨_, rfl⟩
         have hvi : (b : Int) - (mid : Int) = (v : Int) := by omega
         obtain ⟨q8, hq8⟩ : ∃ q8, q8 = l / 8 := ⟨_, rfl⟩
         have hq8i : (l : Int).tdiv 8 = (q8 : Int) := by rw [Int.tdiv_eq_ediv_of_nonneg (by omega)]; omega
         have hs4 : d4.size = n := (zA HRE).2.2.1.trans (zA HS)
         have HS4 := zB hs4
         clear hs4
         by_cases huv : u < v
         ·have HL := zB (zA HIH (mid - a) (by omega) a mid lim2 d4 w5 (zA HS4) (zA HR5) hm1 (by omega) (Nat.le_refl _) (by omega) (zA HRE).2.2.2.1)
          clear hu hv hq8
          go_wp2_with (go_at_call 144; refine (zA HL).mono ?_; rintro e w6 ⟨rfl, d5, K5, HR6⟩)
          go_roundg (b - (mid + 1))
          case measure => omega
          case rel =>
           have h6 := (zA HRE).2.2.2.2.2.1 d5 (zA K5).2.1 (zA K5).2.2
           exact ⟨mid + 1, b, lim2, _, ap, d5, by congr 1, rfl, rfl, rfl, rfl, by omega, hbb, by omega, by omega, by omega, zB (zA K5).1, zB ⟨h6.1, fun R h1 h2 => (zA HG).fin R (h6.2 R h1 h2).1 (h6.2 R h1 h2).2⟩, HR6⟩
         ·have HL := zB (zA HIH (b - (mid + 1)) (by omega) (mid + 1) b lim2 d4 w5 (zA HS4) (zA HR5) (by omega) hbn (Nat.le_refl _) (by omega) (zA HRE).2.2.2.2.1)
          have e1 : ((mid + 1 : Nat) : Int) = (mid : Int) + 1 := by omega
          rw [e1] at HL
          clear hu hv hq8 e1
          go_wp2_with (go_at_call 144; refine (zA HL).mono ?_; rintro e w6 ⟨rfl, d5, K5, HR6⟩)
          go_roundg (mid - a)
          case measure => omega
          case rel =>
           have h6 := (zA HRE).2.2.2.2.2.2 d5 (zA K5).2.1 (zA K5).2.2
           exact ⟨a, mid, lim2, _, ap, d5, rfl, rfl, rfl, rfl, rfl, hm1, by omega, by omega, by omega, by omega, zB (zA K5).1, zB ⟨h6.1, fun R h1 h2 => (zA HG).fin R (h6.2 R h1 h2).1 (h6.2 R h1 h2).2⟩, HR6⟩
       ·go_quiet (first | (go_at_call 172; refine Calls.quiet_of_same (zF _ _ _)))
        go_wp2_with fail
        have HRq : Hid (zR w0 blk off d3 (wc.drewN nq)) := zB ((zA HR).drewN nq)
        clear hcw hfw
        generalize wc.drewN nq = wz at *
        obtain ⟨mid, ap, d4, hx⟩ : ∃ mid ap d4, partition ltInt d3 a b p2 = (mid, ap, d4) := ⟨_, _, _, rfl⟩
        have HC := zB (uPart w0 blk off cap a b p2 n d3 wz (zA HS) (zA HRq) hp1 hp2 hbn hsz)
        rw [hx] at HC
        have hre := round_part swo_ltInt (partition_holds ltInt) hp1 hp2 (by rw [zA HS]; exact hbn) (zA HG).bel hx
        have hm1 := hre.1
        have hm2 := hre.2.1
        have HRE := zB hre
        clear hre hx
        refine (zA HC).mono ?_
        rintro e w5 ⟨rfl, hR5⟩
        have HR5 := zB hR5
        clear hR5
        obtain ⟨u, hu⟩ : ∃ u, u = mid - a := ⟨_, rfl⟩
        have hui : (mid : Int) - (a : Int) = (u : Int) := by omega
        obtain ⟨v, hv⟩ : ∃ v, v = b - mid := ⟨_, rfl⟩
        have hvi : (b : Int) - (mid : Int) = (v : Int) := by omega
        obtain ⟨q8, hq8⟩ : ∃ q8, q8 = l / 8 := ⟨_, rfl⟩
        have hq8i : (l : Int).tdiv 8 = (q8 : Int) := by rw [Int.tdiv_eq_ediv_of_nonneg (by omega)]; omega
        have hs4 : d4.size = n := (zA HRE).2.2.1.trans (zA HS)
        have HS4 := zB hs4
        clear hs4
        by_cases huv : u < v
        ·have HL := zB (zA HIH (mid - a) (by omega) a mid lim2 d4 w5 (zA HS4) (zA HR5) hm1 (by omega) (Nat.le_refl _) (by omega) (zA HRE).2.2.2.1)
         clear hu hv hq8
         go_wp2_with (go_at_call 144; refine (zA HL).mono ?_; rintro e w6 ⟨rfl, d5, K5, HR6⟩)
         go_roundg (b - (mid + 1))
         case measure => omega
         case rel =>
          have h6 := (zA HRE).2.2.2.2.2.1 d5 (zA K5).2.1 (zA K5).2.2
          exact ⟨mid + 1, b, lim2, _, ap, d5, by congr 1, rfl, rfl, rfl, rfl, by omega, hbb, by omega, by omega, by omega, zB (zA K5).1, zB ⟨h6.1, fun R h1 h2 => (zA HG).fin R (h6.2 R h1 h2).1 (h6.2 R h1 h2).2⟩, HR6⟩
        ·have HL := zB (zA HIH (b - (mid + 1)) (by omega) (mid + 1) b lim2 d4 w5 (zA HS4) (zA HR5) (by omega) hbn (Nat.le_refl _) (by omega) (zA HRE).2.2.2.2.1)
         have e1 : ((mid + 1 : Nat) : Int) = (mid : Int) + 1 := by omega
         rw [e1] at HL
         clear hu hv hq8 e1
         go_wp2_with (go_at_call 144; refine (zA HL).mono ?_; rintro e w6 ⟨rfl, d5, K5, HR6⟩)
         go_roundg (mid - a)
         case measure => omega
         case rel =>
          have h6 := (zA HRE).2.2.2.2.2.2 d5 (zA K5).2.1 (zA K5).2.2
          exact ⟨a, mid, lim2, _, ap, d5, rfl, rfl, rfl, rfl, rfl, hm1, by omega, by omega, by omega, by omega, zB (zA K5).1, zB ⟨h6.1, fun R h1 h2 => (zA HG).fin R (h6.2 R h1 h2).1 (h6.2 R h1 h2).2⟩, HR6⟩
theorem uPdq (w0 : World) (blk off cap n : Nat) (hsz : n < 2305843009213693952) : ∀ m, UPdq w0 blk off cap n m := by
 intro m
 induction m using Nat.strongRecOn with
 | ind m ih => exact uPdqStep w0 blk off cap n m hsz ih
end Go.Proofs.YtfpohfifdfbpkaaGreatDoor
namespace Go.Proofs.YtfpohfifdfbpkaaGreatDoor
open Go.RowKit Go.Shelf Go.Lib Go.Sort
theorem uLen (n : Nat) (hn : n < 4611686018427387904) (w : World) :
 Calls Tryz.prog 142 #[.int .u64 (n : Int)] w fun e w' => e = .returned (.int .i64 (bitsLen n : Nat)) /\ w' = w := by
 have h := Any.bits_Len (SlLaysF0.n15.bits { Tryz.sortL with }) (n : Int) w (by omega) (by omega)
 rw [Int.toNat_natCast, bitLen_eq _ (by omega)] at h
 exact h
set_option maxHeartbeats 4000000 in
set_option maxRecDepth 100000 in
theorem uSort (blk off cap n : Nat) (d : Array Int) (w : World) (hn : d.size = n) (hH : Holds eU w blk off d) (hblk : blk < w.heap.size) (hsz : n < 2305843009213693952) :
 Calls Tryz.prog 116 #[.slice (some ⟨blk, off, none⟩) n cap] w fun e w' => e = .returned (.tuple #[]) /\ ∃ d', Hid (d'.size = n /\ PermIn 0 n d d' /\ SortedIn ltInt 0 n d') /\ Hid (zR w blk off d' w') := by
 have HL := zB (uLen n (by omega) w)
 have hk : bitsLen n <= 62 := (bitsLen_le_iff n 62).2 (by omega)
 have HC := zB (uPdq w blk off cap n hsz n 0 n (bitsLen n) d w hn ⟨SW.start hH, hH, hblk⟩ (Nat.zero_le _) (Nat.le_refl _) (by omega) (by omega) (Or.inl rfl))
 clear hn hH
 generalize bitsLen n = lim at *
 go_enter Tryz.func116, Tryz.ntmps116
 go_wp2_with (first | (go_at_call 142; refine (zA HL).mono ?_; rintro e w' ⟨rfl, rfl⟩) | (go_at_call 144; refine (zA HC).mono ?_; rintro e w1 ⟨rfl, d1, K1, HR1⟩))
 go_end0
 exact ⟨rfl, d1, K1, HR1⟩
set_option maxHeartbeats 4000000 in
theorem uInsNil (w : World) : Calls Tryz.prog 166 #[.slice none 0 0, .int .i64 0, .int .i64 0] w fun e w' => e = .returned (.tuple #[]) /\ w' = w := by
 go_enter Tryz.func166, Tryz.ntmps166
 go_wp2
 go_loopw [6] (fun v wr => v = .int .i64 1 /\ wr = w) (fun _ _ => 0)
 case atStart => exact ⟨rfl, rfl⟩
 case round =>
  obtain ⟨rfl, rfl⟩ := hrel
  go_wp2
  go_end0
  exact ⟨rfl, rfl⟩
set_option maxHeartbeats 4000000 in
set_option maxRecDepth 100000 in
theorem uPdqNil (w : World) : Calls Tryz.prog 144 #[.slice none 0 0, .int .i64 0, .int .i64 0, .int .i64 0] w fun e w' => e = .returned (.tuple #[]) /\ w' = w := by
 have HC := zB (uInsNil w)
 go_enter Tryz.func144, Tryz.ntmps144
 go_wp2
 go_loopw [1, 2, 3, 8, 9] (fun v1 v2 v3 v8 v9 wr => v1 = .int .i64 0 /\ v2 = .int .i64 0 /\ v3 = .int .i64 0 /\ v8 = .bool true /\ v9 = .bool true /\ wr = w) (fun _ _ _ _ _ _ => 0)
 case atStart => exact ⟨rfl, rfl, rfl, rfl, rfl, rfl⟩
 case round =>
  obtain ⟨rfl, rfl, rfl, rfl, rfl, rfl⟩ := hrel
  go_wp2_with (go_at_call 166; refine (zA HC).mono ?_; rintro e w' ⟨rfl, rfl⟩)
  (try simp only [Exit.inBlock, Exit.then])
  refine bodyPost_ret (results_none rfl _ _ _) rfl ?_
  exact ⟨rfl, rfl⟩
set_option maxHeartbeats 4000000 in
theorem uSortNil (w : World) : Calls Tryz.prog 116 #[.slice none 0 0] w fun e w' => e = .returned (.tuple #[]) /\ w' = w := by
 have HL := zB (uLen 0 (by omega) w)
 rw [show bitsLen 0 = 0 from rfl] at HL
 have HC := zB (uPdqNil w)
 go_enter Tryz.func116, Tryz.ntmps116
 go_wp2_with (first | (go_at_call 142; refine (zA HL).mono ?_; rintro e w' ⟨rfl, rfl⟩) | (go_at_call 144; refine (zA HC).mono ?_; rintro e w1 ⟨rfl, rfl⟩))
 go_end0
 exact ⟨rfl, rfl⟩
set_option maxHeartbeats 4000000 in
theorem uCompactNil (w : World) : Calls Tryz.prog 117 #[.slice none 0 0] w fun e w' => e = .returned (.slice none 0 0) /\ w' = w := by
 go_enter Tryz.func117, Tryz.ntmps117
 go_wp2
 go_ret
 exact ⟨rfl, rfl⟩
theorem uCompact (blk off cap : Nat) (d : Array Int) (w : World) (hH : Holds eU w blk off d) (hsz : d.size < 2305843009213693952) (hcap : d.size <= cap) :
 Calls Tryz.prog 117 #[.slice (some ⟨blk, off, none⟩) d.size cap] w fun e w' => e = .returned (.slice (some ⟨blk, off, none⟩) (compactUpTo d d.size).length cap) /\ ∃ q, w' = putRow eU (Sort.ahead w q) blk off (compactUpTo d d.size ++ List.replicate (d.size - (compactUpTo d d.size).length) 0).toArray :=
 AnyE.slices_Compact Tryz.compL eU (fun _ => rfl) (EqlAt.intD _ _ _) (NeqAt.intD _ _ _) 0 Tryz.zeroValue5 blk off cap d w hH (by omega) hcap
end Go.Proofs.YtfpohfifdfbpkaaGreatDoor
