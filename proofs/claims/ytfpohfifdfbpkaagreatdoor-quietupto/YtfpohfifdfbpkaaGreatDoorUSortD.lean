import Derived.Test.YtfpohfifdfbpkaaGreatDoorUSortA
import Derived.Sort.LotC
namespace Go.Proofs.YtfpohfifdfbpkaaGreatDoor
open Go.RowKit Go.Shelf Go.Lib Go.Sort
theorem usift_size (hi F r : Nat) (d : Array Int) : (siftDown ltInt hi F r d).size = d.size := size_siftDown ltInt hi F _ r d (Nat.le_refl _)
set_option maxHeartbeats 8000000 in
set_option maxRecDepth 100000 in
theorem uHeap (w0 : World) (blk off cap a b n : Nat) (d : Array Int) (w : World) (hn : d.size = n) (h : zR w0 blk off d w) (hab : a <= b) (hb : b <= n) (hsz : n < 2305843009213693952) :
 Calls Tryz.prog 167 #[.slice (some ⟨blk, off, none⟩) n cap, .int .i64 a, .int .i64 b] w fun e w' => e = .returned (.tuple #[]) /\ zR w0 blk off (heapSort ltInt d a b) w' := by
 obtain ⟨m, hm⟩ : ∃ m, b = a + m := ⟨b - a, by omega⟩
 have hmi : (b : Int) - (a : Int) = (m : Int) := by omega
 have hq : ((m : Int) - 1).tdiv 2 = (((m - 1) / 2 + 1 : Nat) : Int) - 1 := by
  rcases Nat.eq_zero_or_pos m with e | e
  ·subst e; rfl
  ·rw [Int.tdiv_eq_ediv_of_nonneg (by omega)]; omega
 have HE : Hid (heapSort ltInt d a b = heapPop ltInt a m (heapBuild ltInt m a ((m - 1) / 2 + 1) d)) := zB (by unfold heapSort; rw [show b - a = m by omega])
 obtain ⟨k0, hk0⟩ : ∃ k0, (m - 1) / 2 + 1 = k0 := ⟨_, rfl⟩
 rw [hk0] at hq HE
 have hk1 : k0 <= m + 1 := by omega
 have H := zB h
 have HN := zB hn
 have HM := zB hm
 have ham : a + m <= n := by omega
 clear h hn hm hk0
 go_enter Tryz.func167, Tryz.ntmps167
 go_wp2
 go_loopw [9] (fun vi wr => ∃ (k : Nat) (dk : Array Int), vi = .int .i64 ((k : Int) - 1) /\ k <= k0 /\ Hid (dk.size = n /\ zR w0 blk off dk wr /\ heapBuild ltInt m a k dk = heapBuild ltInt m a k0 d)) (fun vi _ => (intOf vi + 1).toNat)
 case atStart => exact ⟨k0, d, rfl, Nat.le_refl _, zB ⟨zA HN, zA H, rfl⟩⟩
 case round =>
  obtain ⟨k, dk, rfl, hk, HK⟩ := hrel
  cases k with
  | zero =>
    have e0 : (((0 : Nat) : Int) - 1) = -1 := rfl
    rw [e0]
    go_wp2
    go_loopw [10] (fun vi wr => ∃ (k : Nat) (dj : Array Int), vi = .int .i64 ((k : Int) - 1) /\ k <= m /\ Hid (dj.size = n /\ zR w0 blk off dj wr /\ heapPop ltInt a k dj = heapPop ltInt a m dk)) (fun vi _ => (intOf vi + 1).toNat)
    case atStart => exact ⟨m, dk, rfl, Nat.le_refl _, zB ⟨(zA HK).1, (zA HK).2.1, rfl⟩⟩
    case round =>
     obtain ⟨k, dj, rfl, hk, HJ⟩ := hrel
     cases k with
     | zero =>
       go_wp2
       go_end0
       refine ⟨rfl, ?_⟩
       have e : heapSort ltInt d a b = dj := by
        rw [zA HE, ← (zA HK).2.2]
        exact (zA HJ).2.2.symm
       rw [e]
       exact (zA HJ).2.1
     | succ k =>
       obtain ⟨G, hG, hU⟩ := (zA HJ).2.1.cells
       rw [(zA HJ).1] at hU
       have hcw := hU.c
       have hfw := hU.f
       have HG := zB hG
       clear hG hU
       have hkc : ((k + 1 : Nat) : Int) - 1 = (k : Int) := by omega
       have hw1 : IntKind.i64.wrap ((a : Int) + (k : Int)) = (a : Int) + (k : Int) := IntWalk.i64_in _ (by omega)
       have hcall : Hid (∀ W, zR w0 blk off (swp dj a (a + k)) W -> Calls Tryz.prog 180 #[.slice (some ⟨blk, off, none⟩) n cap, .int .i64 (0 : Nat), .int .i64 k, .int .i64 a] W fun e w' => e = .returned (.tuple #[]) /\ zR w0 blk off (siftDown ltInt k a 0 (swp dj a (a + k))) w') :=
        zB fun W hW => uSift w0 blk off cap 0 k a n _ W (by rw [size_swp]; exact (zA HJ).1) hW (Nat.zero_le _) (by omega) hsz
       rw [hkc]
       rcases Nat.eq_zero_or_pos k with hk0 | hkp
       ·subst hk0
        go_wp2_with fail
        go_region
        go_wp2_with (go_at_call 180; refine (zA hcall _ (by rw [zA HG]; exact ((zA HJ).2.1.drewN _).swap a (a + 0) (by rw [(zA HJ).1]; omega) (by rw [(zA HJ).1]; omega))).mono ?_; rintro e w1 ⟨rfl, hR⟩; have HR := zB hR; clear hR)
        go_roundw
        case rel => exact ⟨0, _, by simp, by omega, zB ⟨by rw [usift_size, size_swp]; exact (zA HJ).1, zA HR, (zA HJ).2.2⟩⟩
        case measure => simp [intOf]
       ·go_wp2_with fail
        go_region
        go_wp2_with (go_at_call 180; refine (zA hcall _ (by rw [zA HG, zA HG]; exact ((zA HJ).2.1.drewN _).swap a (a + k) (by rw [(zA HJ).1]; omega) (by rw [(zA HJ).1]; omega))).mono ?_; rintro e w1 ⟨rfl, hR⟩; have HR := zB hR; clear hR)
        go_roundw
        case rel => exact ⟨k, _, rfl, by omega, zB ⟨by rw [usift_size, size_swp]; exact (zA HJ).1, zA HR, (zA HJ).2.2⟩⟩
        case measure => simp [intOf]
  | succ k =>
    have hkc : ((k + 1 : Nat) : Int) - 1 = (k : Int) := by omega
    rw [hkc]
    have hcall : Hid (Calls Tryz.prog 180 #[.slice (some ⟨blk, off, none⟩) n cap, .int .i64 k, .int .i64 m, .int .i64 a] wr fun e w' => e = .returned (.tuple #[]) /\ zR w0 blk off (siftDown ltInt m a k dk) w') :=
     zB (uSift w0 blk off cap k m a n _ wr (zA HK).1 (zA HK).2.1 (by omega) (by omega) hsz)
    go_wp2_with (go_at_call 180; refine (zA hcall).mono ?_; rintro e w1 ⟨rfl, hR⟩; have HR := zB hR; clear hR)
    go_roundw
    case rel => exact ⟨k, _, rfl, by omega, zB ⟨by rw [usift_size]; exact (zA HK).1, zA HR, (zA HK).2.2⟩⟩
    case measure => simp [intOf]
end Go.Proofs.YtfpohfifdfbpkaaGreatDoor
namespace Go.Proofs.YtfpohfifdfbpkaaGreatDoor
open Go.RowKit Go.Shelf Go.Lib Go.Sort
theorem zR.setNew {w0 W : World} {blk off : Nat} {d : Array Int} (h : zR w0 blk off d W) (c o : Nat) (v : Value) (hc : w0.heap.size <= c) : zR w0 blk off d (W.setCell ⟨c, o, none⟩ v) := by
 refine ⟨h.sw.setCell_new c o v hc, fun j hj => ?_, h.lt⟩
 have hne := h.lt
 rw [World.cell?_setCell_other _ _ _ _ (by intro e; simp only [Addr.mk.injEq] at e; omega), World.frozen?_setCell]
 exact h.hold j hj
theorem zR.alloc {w0 W : World} {blk off : Nat} {d : Array Int} (h : zR w0 blk off d W) (o : Obj) : zR w0 blk off d (W.alloc o) := by
 refine ⟨h.sw.alloc o, fun j hj => ?_, h.lt⟩
 rw [alloc_eq_grow, cell?_grow _ _ _ (by exact Nat.lt_of_lt_of_le h.lt h.sw.le), frozen?_grow _ _ _ (by exact Nat.lt_of_lt_of_le h.lt h.sw.le)]
 exact h.hold j hj
structure UCnt (w0 : World) (blk off : Nat) (d : Array Int) (c : Nat) (W : World) : Prop where
 row : zR w0 blk off d W
 cell : ∃ s, W.cell? ⟨c, 0, none⟩ = some (.int .i64 s)
 fz : W.frozen? ⟨c, 0, none⟩ = false
 ge : w0.heap.size <= c
theorem UCnt.drewN {w0 W : World} {blk off c : Nat} {d : Array Int} (h : UCnt w0 blk off d c W) (q : Nat) : UCnt w0 blk off d c (W.drewN q) := ⟨h.row.drewN q, h.cell, h.fz, h.ge⟩
theorem UCnt.set {w0 W : World} {blk off c : Nat} {d : Array Int} (h : UCnt w0 blk off d c W) (s : Int) : UCnt w0 blk off d c (W.setCell ⟨c, 0, none⟩ (.int .i64 s)) := by
 obtain ⟨s0, h0⟩ := h.cell
 exact ⟨h.row.setNew c 0 _ h.ge, ⟨s, World.cell?_setCell_same' _ _ _ (by rw [h0]; rfl)⟩, by rw [World.frozen?_setCell]; exact h.fz, h.ge⟩
set_option maxHeartbeats 4000000 in
set_option maxRecDepth 100000 in
theorem uOrder2 (w0 : World) (blk off cap c a b n : Nat) (d : Array Int) (w : World) (hn : d.size = n) (h : UCnt w0 blk off d c w) (ha : a < n) (hb : b < n) (_hsz : n < 2305843009213693952) :
 Calls Tryz.prog 184 #[.slice (some ⟨blk, off, none⟩) n cap, .int .i64 a, .int .i64 b, .pointer (some ⟨c, 0, none⟩)] w fun e w' => ∃ x y : Nat, e = .returned (.tuple #[.int .i64 x, .int .i64 y]) /\ Hid ((x = a /\ y = b) \/ (x = b /\ y = a)) /\ Hid (UCnt w0 blk off d c w') := by
 obtain ⟨G, hG, hU⟩ := h.row.cells
 rw [hn] at hU
 have hcw := hU.c
 have hfw := hU.f
 have H := zB h
 obtain ⟨s, hs⟩ := h.cell
 have hz := h.fz
 clear hG hU h hn
 go_enter Tryz.func184, Tryz.ntmps184
 go_wp2
 go_quiet (first | (go_at_call 172; refine Calls.quiet_of_same (zF _ _ _)))
 go_wp2
 ·go_ret2
  exact ⟨b, a, rfl, zB (Or.inr ⟨rfl, rfl⟩), zB (((zA H).drewN _).set _)⟩
 ·go_ret2
  exact ⟨a, b, rfl, zB (Or.inl ⟨rfl, rfl⟩), zB ((zA H).drewN _)⟩
set_option maxHeartbeats 4000000 in
set_option maxRecDepth 100000 in
theorem uMedian (w0 : World) (blk off cap c a b k n : Nat) (d : Array Int) (w : World) (hn : d.size = n) (h : UCnt w0 blk off d c w) (ha : a < n) (hb : b < n) (hk : k < n) (hsz : n < 2305843009213693952) :
 Calls Tryz.prog 182 #[.slice (some ⟨blk, off, none⟩) n cap, .int .i64 a, .int .i64 b, .int .i64 k, .pointer (some ⟨c, 0, none⟩)] w fun e w' => ∃ x : Nat, e = .returned (.int .i64 x) /\ Hid (x = a \/ x = b \/ x = k) /\ Hid (UCnt w0 blk off d c w') := by
 have HC : Hid (∀ x y W, x < n -> y < n -> UCnt w0 blk off d c W -> Calls Tryz.prog 184 #[.slice (some ⟨blk, off, none⟩) n cap, .int .i64 x, .int .i64 y, .pointer (some ⟨c, 0, none⟩)] W fun e w' => ∃ x' y' : Nat, e = .returned (.tuple #[.int .i64 x', .int .i64 y']) /\ Hid ((x' = x /\ y' = y) \/ (x' = y /\ y' = x)) /\ Hid (UCnt w0 blk off d c w')) :=
  zB fun x y W hx hy hW => uOrder2 w0 blk off cap c x y n d W hn hW hx hy hsz
 have H := zB h
 clear h hn
 go_enter Tryz.func182, Tryz.ntmps182
 go_wp2_with fail
 refine (zA HC a b _ ha hb (zA H)).mono ?_
 rintro e w1 ⟨x1, y1, rfl, K1, H1⟩
 have hx1 : x1 < n := by have := zA K1; omega
 have hy1 : y1 < n := by have := zA K1; omega
 go_wp2_with fail
 refine (zA HC y1 k _ hy1 hk (zA H1)).mono ?_
 rintro e w2 ⟨x2, y2, rfl, K2, H2⟩
 have hx2 : x2 < n := by have := zA K2; omega
 go_wp2_with fail
 refine (zA HC x1 x2 _ hx1 hx2 (zA H2)).mono ?_
 rintro e w3 ⟨x3, y3, rfl, K3, H3⟩
 go_wp2
 go_ret
 exact ⟨y3, rfl, zB (by have := zA K1; have := zA K2; have := zA K3; omega), H3⟩
set_option maxHeartbeats 4000000 in
set_option maxRecDepth 100000 in
theorem uMedianAdj (w0 : World) (blk off cap c a n : Nat) (d : Array Int) (w : World) (hn : d.size = n) (h : UCnt w0 blk off d c w) (ha : 0 < a) (hb : a + 1 < n) (hsz : n < 2305843009213693952) :
 Calls Tryz.prog 181 #[.slice (some ⟨blk, off, none⟩) n cap, .int .i64 a, .pointer (some ⟨c, 0, none⟩)] w fun e w' => ∃ x : Nat, e = .returned (.int .i64 x) /\ Hid (a - 1 <= x /\ x <= a + 1) /\ Hid (UCnt w0 blk off d c w') := by
 have h1 := uMedian w0 blk off cap c (a - 1) a (a + 1) n d w hn h (by omega) (by omega) (by omega) hsz
 have e1 : ((a - 1 : Nat) : Int) = (a : Int) - 1 := by omega
 have e2 : ((a + 1 : Nat) : Int) = (a : Int) + 1 := by omega
 rw [e1, e2] at h1
 have HC := zB h1
 clear h1 e1 e2 h hn
 go_enter Tryz.func181, Tryz.ntmps181
 go_wp2_with (go_at_call 182; refine (zA HC).mono ?_; rintro e w1 ⟨x, rfl, K1, H1⟩)
 go_ret
 exact ⟨x, rfl, zB (by have := zA K1; omega), H1⟩
set_option maxHeartbeats 4000000 in
set_option maxRecDepth 100000 in
theorem uReverse (w0 : World) (blk off cap a b n : Nat) (d : Array Int) (w : World) (hn : d.size = n) (h : zR w0 blk off d w) (hab : a < b) (hb : b <= n) (hsz : n < 2305843009213693952) :
 Calls Tryz.prog 170 #[.slice (some ⟨blk, off, none⟩) n cap, .int .i64 a, .int .i64 b] w fun e w' => e = .returned (.tuple #[]) /\ zR w0 blk off (reverseRange d a b) w' := by
 obtain ⟨b1, hb1⟩ : ∃ b1, b - 1 = b1 := ⟨_, rfl⟩
 have hbi : (b : Int) - 1 = (b1 : Int) := by omega
 have HE : Hid (reverseRange d a b = reverseLoop a b1 d) := zB (by unfold reverseRange; rw [hb1])
 have hbn : b1 < n := by omega
 have H := zB h
 have HN := zB hn
 clear h hn hb1 hab hb
 go_enter Tryz.func170, Tryz.ntmps170
 go_wp2
 go_loopw [6, 7] (fun vi vj wr => ∃ (i j : Nat) (dk : Array Int), vi = .int .i64 i /\ vj = .int .i64 j /\ j < n /\ Hid (dk.size = n /\ zR w0 blk off dk wr /\ reverseLoop i j dk = reverseLoop a b1 d)) (fun vi vj _ => ((intOf vj).toNat - (intOf vi).toNat))
 case atStart => exact ⟨a, b1, d, rfl, rfl, hbn, zB ⟨zA HN, zA H, rfl⟩⟩
 case round =>
  obtain ⟨i, j, dk, rfl, rfl, hjn, HK⟩ := hrel
  obtain ⟨G, hG, hU⟩ := (zA HK).2.1.cells
  rw [(zA HK).1] at hU
  have hcw := hU.c
  have hfw := hU.f
  have HG := zB hG
  clear hG hU
  by_cases hij : i < j
  ·go_wp2
   go_region
   all_goals go_wp2
   go_roundw
   case rel =>
    refine ⟨i + 1, j - 1, swp dk i j, by congr 1, by congr 1; omega, by omega, zB ⟨by rw [size_swp]; exact (zA HK).1, ?_, ?_⟩⟩
    ·rw [zA HG, zA HG]
     exact ((zA HK).2.1.drewN _).swap i j (by rw [(zA HK).1]; omega) (by rw [(zA HK).1]; omega)
    ·rw [← (zA HK).2.2]
     conv => rhs; rw [reverseLoop, if_pos hij]
   case measure => simp [intOf]; omega
  ·go_wp2
   go_end0
   refine ⟨rfl, ?_⟩
   rw [zA HE, ← (zA HK).2.2, reverseLoop, if_neg hij]
   exact (zA HK).2.1
end Go.Proofs.YtfpohfifdfbpkaaGreatDoor
namespace Go.Proofs.YtfpohfifdfbpkaaGreatDoor
open Go.RowKit Go.Shelf Go.Lib Go.Sort
theorem scanUp_go {p : Int -> Bool} {d : Array Int} {i j : Nat} (h : i <= j) (hp : p d[i]! = true) : scanUp p d j i = scanUp p d j (i + 1) := by
 conv => lhs; rw [scanUp]
 rw [if_pos (by simp [h, hp])]
theorem yL {p : Int -> Bool} {d : Array Int} {i j : Nat} (h : ¬ i <= j \/ p d[i]! = false) : scanUp p d j i = i := by
 rw [scanUp, if_neg (by rcases h with h | h <;> simp [h])]
theorem scanDown_go {p : Int -> Bool} {d : Array Int} {i j : Nat} (h0 : 0 < j) (h : i <= j) (hp : p d[j]! = true) : scanDown p d i j = scanDown p d i (j - 1) := by
 obtain ⟨k, rfl⟩ : ∃ k, j = k + 1 := ⟨j - 1, by omega⟩
 rw [scanDown, if_pos (by simp [h, hp])]; rfl
theorem zX {p : Int -> Bool} {d : Array Int} {i j : Nat} (h : ¬ i <= j \/ p d[j]! = false) : scanDown p d i j = j := by
 cases j with
 | zero => rw [scanDown]
 | succ k => rw [scanDown, if_neg (by rcases h with h | h <;> simp [h])]
set_option maxHeartbeats 16000000 in
set_option maxRecDepth 100000 in
theorem uPartEq (w0 : World) (blk off cap a b p n : Nat) (d : Array Int) (w : World) (hn : d.size = n) (h : zR w0 blk off d w) (hap : a <= p) (hpb : p < b) (hb : b <= n) (hsz : n < 2305843009213693952) :
 Calls Tryz.prog 173 #[.slice (some ⟨blk, off, none⟩) n cap, .int .i64 a, .int .i64 b, .int .i64 p] w fun e w' => e = .returned (.int .i64 ((partitionEqual ltInt d a b p).1 : Nat)) /\ zR w0 blk off (partitionEqual ltInt d a b p).2 w' := by
 obtain ⟨b1, hb1⟩ : ∃ b1, b - 1 = b1 := ⟨_, rfl⟩
 have hbi : (b : Int) - 1 = (b1 : Int) := by omega
 have HE : Hid (partitionEqual ltInt d a b p = partEqLoop ltInt a (a + 1) b1 (swp d a p)) := zB (by unfold partitionEqual; rw [hb1])
 have hbn : b1 < n := by omega
 have hab : a <= b1 := by omega
 have hpn : p < n := by omega
 obtain ⟨G, hG, hU⟩ := h.cells
 rw [hn] at hU
 have hcw := hU.c
 have hfw := hU.f
 have HG := zB hG
 have H := zB h
 have HN := zB hn
 clear hG hU h hn hb1
 go_enter Tryz.func173, Tryz.ntmps173
 go_wp2
 rcases Nat.eq_or_lt_of_le hap with hpa | hpa
 ·subst hpa
  go_region
  go_wp2
  have HR0 : Hid (∀ q, zR w0 blk off (swp d a a) (((w.setCell ⟨blk, off + a, none⟩ (.int .u8 (G a))).setCell ⟨blk, off + a, none⟩ (.int .u8 (G a))).drewN q)) := zB fun q => by
   rw [zA HG]
   exact ((zA H).swap a a (by rw [zA HN]; omega) (by rw [zA HN]; omega)).drewN q
  go_loopw [9, 10] (fun vi vj wr => ∃ (i0 j0 : Nat) (dk : Array Int), vi = .int .i64 i0 /\ vj = .int .i64 j0 /\ a < i0 /\ i0 <= j0 + 1 /\ j0 < n /\ Hid (dk.size = n) /\ Hid (zR w0 blk off dk wr) /\ Hid (partEqLoop ltInt a i0 j0 dk = partEqLoop ltInt a (a + 1) b1 (swp d a a))) (fun vi vj _ => (intOf vj).toNat + 1 - (intOf vi).toNat)
  case atStart => exact ⟨a + 1, b1, _, by go_num, rfl, by omega, by omega, hbn, zB (by rw [size_swp]; exact zA HN), zB (zA HR0 1), zB rfl⟩
  case round =>
   clear HR0 hcw hfw HG H
   obtain ⟨i0, j0, dk, rfl, rfl, hi0, hij0, hj0, HS, HR0, HK⟩ := hrel
   go_wp2
   go_loopw [9] (fun v wr => ∃ i : Nat, v = .int .i64 i /\ i0 <= i /\ i <= j0 + 1 /\ Hid (zR w0 blk off dk wr) /\ Hid (scanUp (fun x => !ltInt dk[a]! x) dk j0 i = scanUp (fun x => !ltInt dk[a]! x) dk j0 i0)) (fun v _ => j0 + 1 - (intOf v).toNat)
   case atStart => exact ⟨i0, rfl, Nat.le_refl _, hij0, HR0, zB rfl⟩
   case round =>
    obtain ⟨i, rfl, hii, hij1, HR, HD⟩ := hrel
    obtain ⟨G, hG, hU⟩ := (zA HR).cells
    rw [zA HS] at hU
    have hcw := hU.c
    have hfw := hU.f
    have HG := zB hG
    clear hG hU
    go_wp2
    by_cases hle : i <= j0
    ·go_quiet (first | (go_at_call 172; refine Calls.quiet_of_same (zF _ _ _)))
     go_wp2
     ·have hl : (!ltInt (G a) (G i)) = true := by assumption
      go_roundw
      case rel =>
       refine ⟨i + 1, by congr 1, by omega, by omega, zB ((zA HR).drewN nq), zB ?_⟩
       rw [← zA HD]
       exact (scanUp_go hle (by simpa only [← zA HG] using hl)).symm
      case measure => simp [intOf]; omega
     ·rename (!ltInt (G a) (G i)) = false => hl
      have HI : Hid (scanUp (fun x => !ltInt dk[a]! x) dk j0 i0 = i) := zB (by rw [← zA HD]; exact yL (Or.inr (by simpa only [← zA HG] using hl)))
      have HPI : Hid ((fun x => !ltInt dk[a]! x) dk[i]! = false) := zB (by simpa only [← zA HG] using hl)
      have HR2 : Hid (zR w0 blk off dk (wr.drewN nq)) := zB ((zA HR).drewN nq)
      clear HD HR hl hcw hfw HG
      generalize wr.drewN nq = wy at *
      go_loopw [10] (fun v wr => ∃ j : Nat, v = .int .i64 j /\ i <= j + 1 /\ j <= j0 /\ Hid (zR w0 blk off dk wr) /\ Hid (scanDown (fun x => ltInt dk[a]! x) dk i j = scanDown (fun x => ltInt dk[a]! x) dk i j0)) (fun v _ => (intOf v).toNat)
      case atStart => exact ⟨j0, rfl, by omega, Nat.le_refl _, HR2, zB rfl⟩
      case round =>
       obtain ⟨j, rfl, hij, hjj, HR, HD⟩ := hrel
       obtain ⟨G, hG, hU⟩ := (zA HR).cells
       rw [zA HS] at hU
       have hcw := hU.c
       have hfw := hU.f
       have HG := zB hG
       clear hG hU
       go_wp2
       by_cases hle : i <= j
       ·go_quiet (first | (go_at_call 172; refine Calls.quiet_of_same (zF _ _ _)))
        go_wp2
        ·have hl : ltInt (G a) (G j) = true := by assumption
         go_roundw
         case rel =>
          refine ⟨j - 1, by congr 1; omega, by omega, by omega, zB ((zA HR).drewN nq), zB ?_⟩
          rw [← zA HD]
          exact (scanDown_go (by omega) hle (by simpa only [← zA HG] using hl)).symm
         case measure => simp [intOf]; omega
        ·rename ltInt (G a) (G j) = false => hl
         have HJ : Hid (scanDown (fun x => ltInt dk[a]! x) dk i j0 = j) := zB (by rw [← zA HD]; exact zX (Or.inr (by simpa only [← zA HG] using hl)))
         have hlt : i < j := by
          have h1 := zA HPI
          have h2 : (fun x => ltInt dk[a]! x) dk[j]! = false := by simpa only [← zA HG] using hl
          rcases Nat.lt_or_ge i j with h3 | h3
          ·exact h3
          ·obtain rfl : i = j := by omega
           simp at h1 h2
           simp [h1] at h2
         have HR3 : Hid (zR w0 blk off dk (wr.drewN nq)) := zB ((zA HR).drewN nq)
         have hcx : ∀ t, t < n -> (wr.drewN nq).cell? ⟨blk, off + t, none⟩ = some (.int .u8 (G t)) := hcw
         have hfx : ∀ t, t < n -> (wr.drewN nq).frozen? ⟨blk, off + t, none⟩ = false := hfw
         clear hcw hfw HD HR hl
         generalize wr.drewN nq = wz at *
         go_wp2
         go_region
         all_goals go_wp2
         go_roundw
         case rel =>
          refine ⟨i + 1, j - 1, swp dk i j, by congr 1, by congr 1; omega, by omega, by omega, by omega, zB (by rw [size_swp]; exact zA HS), ?_, ?_⟩
          ·rw [zA HG, zA HG]
           exact zB (((zA HR3).drewN _).swap i j (by rw [zA HS]; omega) (by rw [zA HS]; omega))
          ·refine zB ?_
           have he := zA HK
           rw [partEqLoop_eq, zA HI, zA HJ, if_neg (by omega)] at he
           exact he
         case measure => simp [intOf]; omega
       ·go_quiet (first | (go_at_call 172; refine Calls.quiet_of_same (zF _ _ _)))
        go_wp2
        have HJ : Hid (scanDown (fun x => ltInt dk[a]! x) dk i j0 = j) := zB (by rw [← zA HD]; exact zX (Or.inl (by omega)))
        have HR3 : Hid (zR w0 blk off dk (wr.drewN nq)) := zB ((zA HR).drewN nq)
        have hcx : ∀ t, t < n -> (wr.drewN nq).cell? ⟨blk, off + t, none⟩ = some (.int .u8 (G t)) := hcw
        have hfx : ∀ t, t < n -> (wr.drewN nq).frozen? ⟨blk, off + t, none⟩ = false := hfw
        clear hcw hfw HD HR
        generalize wr.drewN nq = wz at *
        go_wp2
        go_ret
        have he := zA HK
        rw [partEqLoop_eq, zA HI, zA HJ, if_pos (by omega), ← zA HE] at he
        rw [← he]
        exact ⟨rfl, zA HR3⟩
    ·go_quiet (first | (go_at_call 172; refine Calls.quiet_of_same (zF _ _ _)))
     go_wp2
     have HI : Hid (scanUp (fun x => !ltInt dk[a]! x) dk j0 i0 = i) := zB (by rw [← zA HD]; exact yL (Or.inl (by omega)))
     have HR2 : Hid (zR w0 blk off dk (wr.drewN nq)) := zB ((zA HR).drewN nq)
     clear HD HR hcw hfw HG
     generalize wr.drewN nq = wy at *
     go_loopw [10] (fun v wr => v = .int .i64 j0 /\ Hid (zR w0 blk off dk wr)) (fun v _ => 0)
     case atStart => exact ⟨rfl, HR2⟩
     case round =>
      obtain ⟨rfl, HR⟩ := hrel
      obtain ⟨G, hG, hU⟩ := (zA HR).cells
      rw [zA HS] at hU
      have hcw := hU.c
      have hfw := hU.f
      have HG := zB hG
      clear hG hU
      go_wp2
      go_quiet (first | (go_at_call 172; refine Calls.quiet_of_same (zF _ _ _)))
      go_wp2
      have HJ : Hid (scanDown (fun x => ltInt dk[a]! x) dk i j0 = j0) := zB (zX (Or.inl (by omega)))
      obtain ⟨j, hj⟩ : ∃ j, j = j0 := ⟨_, rfl⟩
      have HR3 : Hid (zR w0 blk off dk (wr.drewN nq)) := zB ((zA HR).drewN nq)
      have hcx : ∀ t, t < n -> (wr.drewN nq).cell? ⟨blk, off + t, none⟩ = some (.int .u8 (G t)) := hcw
      have hfx : ∀ t, t < n -> (wr.drewN nq).frozen? ⟨blk, off + t, none⟩ = false := hfw
      clear hcw hfw HR
      generalize wr.drewN nq = wz at *
      go_wp2
      go_ret
      have he := zA HK
      rw [partEqLoop_eq, zA HI, zA HJ, if_pos (by omega), ← zA HE] at he
      rw [← he]
      exact ⟨rfl, zA HR3⟩
 ·skip
  go_region
  go_wp2
  have HR0 : Hid (∀ q, zR w0 blk off (swp d a p) (((w.setCell ⟨blk, off + a, none⟩ (.int .u8 (G p))).setCell ⟨blk, off + p, none⟩ (.int .u8 (G a))).drewN q)) := zB fun q => by
   rw [zA HG, zA HG]
   exact ((zA H).swap a p (by rw [zA HN]; omega) (by rw [zA HN]; omega)).drewN q
  go_loopw [9, 10] (fun vi vj wr => ∃ (i0 j0 : Nat) (dk : Array Int), vi = .int .i64 i0 /\ vj = .int .i64 j0 /\ a < i0 /\ i0 <= j0 + 1 /\ j0 < n /\ Hid (dk.size = n) /\ Hid (zR w0 blk off dk wr) /\ Hid (partEqLoop ltInt a i0 j0 dk = partEqLoop ltInt a (a + 1) b1 (swp d a p))) (fun vi vj _ => (intOf vj).toNat + 1 - (intOf vi).toNat)
  case atStart => exact ⟨a + 1, b1, _, by go_num, rfl, by omega, by omega, hbn, zB (by rw [size_swp]; exact zA HN), zB (zA HR0 1), zB rfl⟩
  case round =>
   clear HR0 hcw hfw HG H
   obtain ⟨i0, j0, dk, rfl, rfl, hi0, hij0, hj0, HS, HR0, HK⟩ := hrel
   go_wp2
   go_loopw [9] (fun v wr => ∃ i : Nat, v = .int .i64 i /\ i0 <= i /\ i <= j0 + 1 /\ Hid (zR w0 blk off dk wr) /\ Hid (scanUp (fun x => !ltInt dk[a]! x) dk j0 i = scanUp (fun x => !ltInt dk[a]! x) dk j0 i0)) (fun v _ => j0 + 1 - (intOf v).toNat)
   case atStart => exact ⟨i0, rfl, Nat.le_refl _, hij0, HR0, zB rfl⟩
   case round =>
    obtain ⟨i, rfl, hii, hij1, HR, HD⟩ := hrel
    obtain ⟨G, hG, hU⟩ := (zA HR).cells
    rw [zA HS] at hU
    have hcw := hU.c
    have hfw := hU.f
    have HG := zB hG
    clear hG hU
    go_wp2
    by_cases hle : i <= j0
    ·go_quiet (first | (go_at_call 172; refine Calls.quiet_of_same (zF _ _ _)))
     go_wp2
     ·have hl : (!ltInt (G a) (G i)) = true := by assumption
      go_roundw
      case rel =>
       refine ⟨i + 1, by congr 1, by omega, by omega, zB ((zA HR).drewN nq), zB ?_⟩
       rw [← zA HD]
       exact (scanUp_go hle (by simpa only [← zA HG] using hl)).symm
      case measure => simp [intOf]; omega
     ·rename (!ltInt (G a) (G i)) = false => hl
      have HI : Hid (scanUp (fun x => !ltInt dk[a]! x) dk j0 i0 = i) := zB (by rw [← zA HD]; exact yL (Or.inr (by simpa only [← zA HG] using hl)))
      have HPI : Hid ((fun x => !ltInt dk[a]! x) dk[i]! = false) := zB (by simpa only [← zA HG] using hl)
      have HR2 : Hid (zR w0 blk off dk (wr.drewN nq)) := zB ((zA HR).drewN nq)
      clear HD HR hl hcw hfw HG
      generalize wr.drewN nq = wy at *
      go_loopw [10] (fun v wr => ∃ j : Nat, v = .int .i64 j /\ i <= j + 1 /\ j <= j0 /\ Hid (zR w0 blk off dk wr) /\ Hid (scanDown (fun x => ltInt dk[a]! x) dk i j = scanDown (fun x => ltInt dk[a]! x) dk i j0)) (fun v _ => (intOf v).toNat)
      case atStart => exact ⟨j0, rfl, by omega, Nat.le_refl _, HR2, zB rfl⟩
      case round =>
       obtain ⟨j, rfl, hij, hjj, HR, HD⟩ := hrel
       obtain ⟨G, hG, hU⟩ := (zA HR).cells
       rw [zA HS] at hU
       have hcw := hU.c
       have hfw := hU.f
       have HG := zB hG
       clear hG hU
       go_wp2
       by_cases hle : i <= j
       ·go_quiet (first | (go_at_call 172; refine Calls.quiet_of_same (zF _ _ _)))
        go_wp2
        ·have hl : ltInt (G a) (G j) = true := by assumption
         go_roundw
         case rel =>
          refine ⟨j - 1, by congr 1; omega, by omega, by omega, zB ((zA HR).drewN nq), zB ?_⟩
          rw [← zA HD]
          exact (scanDown_go (by omega) hle (by simpa only [← zA HG] using hl)).symm
         case measure => simp [intOf]; omega
        ·rename ltInt (G a) (G j) = false => hl
         have HJ : Hid (scanDown (fun x => ltInt dk[a]! x) dk i j0 = j) := zB (by rw [← zA HD]; exact zX (Or.inr (by simpa only [← zA HG] using hl)))
         have hlt : i < j := by
          have h1 := zA HPI
          have h2 : (fun x => ltInt dk[a]! x) dk[j]! = false := by simpa only [← zA HG] using hl
          rcases Nat.lt_or_ge i j with h3 | h3
          ·exact h3
          ·obtain rfl : i = j := by omega
           simp at h1 h2
           simp [h1] at h2
         have HR3 : Hid (zR w0 blk off dk (wr.drewN nq)) := zB ((zA HR).drewN nq)
         have hcx : ∀ t, t < n -> (wr.drewN nq).cell? ⟨blk, off + t, none⟩ = some (.int .u8 (G t)) := hcw
         have hfx : ∀ t, t < n -> (wr.drewN nq).frozen? ⟨blk, off + t, none⟩ = false := hfw
         clear hcw hfw HD HR hl
         generalize wr.drewN nq = wz at *
         go_wp2
         go_region
         all_goals go_wp2
         go_roundw
         case rel =>
          refine ⟨i + 1, j - 1, swp dk i j, by congr 1, by congr 1; omega, by omega, by omega, by omega, zB (by rw [size_swp]; exact zA HS), ?_, ?_⟩
          ·rw [zA HG, zA HG]
           exact zB (((zA HR3).drewN _).swap i j (by rw [zA HS]; omega) (by rw [zA HS]; omega))
          ·refine zB ?_
           have he := zA HK
           rw [partEqLoop_eq, zA HI, zA HJ, if_neg (by omega)] at he
           exact he
         case measure => simp [intOf]; omega
       ·go_quiet (first | (go_at_call 172; refine Calls.quiet_of_same (zF _ _ _)))
        go_wp2
        have HJ : Hid (scanDown (fun x => ltInt dk[a]! x) dk i j0 = j) := zB (by rw [← zA HD]; exact zX (Or.inl (by omega)))
        have HR3 : Hid (zR w0 blk off dk (wr.drewN nq)) := zB ((zA HR).drewN nq)
        have hcx : ∀ t, t < n -> (wr.drewN nq).cell? ⟨blk, off + t, none⟩ = some (.int .u8 (G t)) := hcw
        have hfx : ∀ t, t < n -> (wr.drewN nq).frozen? ⟨blk, off + t, none⟩ = false := hfw
        clear hcw hfw HD HR
        generalize wr.drewN nq = wz at *
        go_wp2
        go_ret
        have he := zA HK
        rw [partEqLoop_eq, zA HI, zA HJ, if_pos (by omega), ← zA HE] at he
        rw [← he]
        exact ⟨rfl, zA HR3⟩
    ·go_quiet (first | (go_at_call 172; refine Calls.quiet_of_same (zF _ _ _)))
     go_wp2
     have HI : Hid (scanUp (fun x => !ltInt dk[a]! x) dk j0 i0 = i) := zB (by rw [← zA HD]; exact yL (Or.inl (by omega)))
     have HR2 : Hid (zR w0 blk off dk (wr.drewN nq)) := zB ((zA HR).drewN nq)
     clear HD HR hcw hfw HG
     generalize wr.drewN nq = wy at *
     go_loopw [10] (fun v wr => v = .int .i64 j0 /\ Hid (zR w0 blk off dk wr)) (fun v _ => 0)
     case atStart => exact ⟨rfl, HR2⟩
     case round =>
      obtain ⟨rfl, HR⟩ := hrel
      obtain ⟨G, hG, hU⟩ := (zA HR).cells
      rw [zA HS] at hU
      have hcw := hU.c
      have hfw := hU.f
      have HG := zB hG
      clear hG hU
      go_wp2
      go_quiet (first | (go_at_call 172; refine Calls.quiet_of_same (zF _ _ _)))
      go_wp2
      have HJ : Hid (scanDown (fun x => ltInt dk[a]! x) dk i j0 = j0) := zB (zX (Or.inl (by omega)))
      obtain ⟨j, hj⟩ : ∃ j, j = j0 := ⟨_, rfl⟩
      have HR3 : Hid (zR w0 blk off dk (wr.drewN nq)) := zB ((zA HR).drewN nq)
      have hcx : ∀ t, t < n -> (wr.drewN nq).cell? ⟨blk, off + t, none⟩ = some (.int .u8 (G t)) := hcw
      have hfx : ∀ t, t < n -> (wr.drewN nq).frozen? ⟨blk, off + t, none⟩ = false := hfw
      clear hcw hfw HR
      generalize wr.drewN nq = wz at *
      go_wp2
      go_ret
      have he := zA HK
      rw [partEqLoop_eq, zA HI, zA HJ, if_pos (by omega), ← zA HE] at he
      rw [← he]
      exact ⟨rfl, zA HR3⟩
end Go.Proofs.YtfpohfifdfbpkaaGreatDoor
