import Derived.Test.YtfpohfifdfbpkaaUSortA
import Derived.Sort.LotC
namespace Go.Proofs.Ytfpohfifdfbpkaa
open Go.RowKit Go.Shelf Go.Lib Go.Sort

theorem usift_size (hi F r : Nat) (d : Array Int) : (siftDown ltInt hi F r d).size = d.size := size_siftDown ltInt hi F _ r d (Nat.le_refl _)

set_option maxHeartbeats 8000000 in
set_option maxRecDepth 100000 in
theorem uHeap (w0 : World) (blk off cap a b n : Nat) (d : Array Int) (w : World) (hn : d.size = n) (h : URow w0 blk off d w) (hab : a ≤ b) (hb : b ≤ n) (hsz : n < 2305843009213693952) :
    Calls Try.prog 73 #[.slice (some ⟨blk, off, none⟩) n cap, .int .i64 a, .int .i64 b] w fun e w' => e = .returned (.tuple #[]) ∧ URow w0 blk off (heapSort ltInt d a b) w' := by
  obtain ⟨m, hm⟩ : ∃ m, b = a + m := ⟨b - a, by omega⟩
  have hmi : (b : Int) - (a : Int) = (m : Int) := by omega
  have hq : ((m : Int) - 1).tdiv 2 = (((m - 1) / 2 + 1 : Nat) : Int) - 1 := by
    rcases Nat.eq_zero_or_pos m with e | e
    · subst e; rfl
    · rw [Int.tdiv_eq_ediv_of_nonneg (by omega)]; omega
  have HE : Hid (heapSort ltInt d a b = heapPop ltInt a m (heapBuild ltInt m a ((m - 1) / 2 + 1) d)) := hide (by unfold heapSort; rw [show b - a = m by omega])
  obtain ⟨k0, hk0⟩ : ∃ k0, (m - 1) / 2 + 1 = k0 := ⟨_, rfl⟩
  rw [hk0] at hq HE
  have hk1 : k0 ≤ m + 1 := by omega
  have H := hide h
  have HN := hide hn
  have HM := hide hm
  have ham : a + m ≤ n := by omega
  clear h hn hm hk0
  go_enter Try.func73, Try.ntmps73
  go_wp2
  go_loopw [9] (fun vi wr => ∃ (k : Nat) (dk : Array Int), vi = .int .i64 ((k : Int) - 1) ∧ k ≤ k0 ∧ Hid (dk.size = n ∧ URow w0 blk off dk wr ∧ heapBuild ltInt m a k dk = heapBuild ltInt m a k0 d)) (fun vi _ => (intOf vi + 1).toNat)
  case atStart => exact ⟨k0, d, rfl, Nat.le_refl _, hide ⟨unhide HN, unhide H, rfl⟩⟩
  case round =>
    obtain ⟨k, dk, rfl, hk, HK⟩ := hrel
    cases k with
    | zero =>
      have e0 : (((0 : Nat) : Int) - 1) = -1 := rfl
      rw [e0]
      go_wp2
      go_loopw [10] (fun vi wr => ∃ (k : Nat) (dj : Array Int), vi = .int .i64 ((k : Int) - 1) ∧ k ≤ m ∧ Hid (dj.size = n ∧ URow w0 blk off dj wr ∧ heapPop ltInt a k dj = heapPop ltInt a m dk)) (fun vi _ => (intOf vi + 1).toNat)
      case atStart => exact ⟨m, dk, rfl, Nat.le_refl _, hide ⟨(unhide HK).1, (unhide HK).2.1, rfl⟩⟩
      case round =>
        obtain ⟨k, dj, rfl, hk, HJ⟩ := hrel
        cases k with
        | zero =>
          go_wp2
          go_end0
          refine ⟨rfl, ?_⟩
          have e : heapSort ltInt d a b = dj := by
            rw [unhide HE, ← (unhide HK).2.2]
            exact (unhide HJ).2.2.symm
          rw [e]
          exact (unhide HJ).2.1
        | succ k =>
          obtain ⟨G, hG, hU⟩ := (unhide HJ).2.1.cells
          rw [(unhide HJ).1] at hU
          have hcw := hU.c
          have hfw := hU.f
          have HG := hide hG
          clear hG hU
          have hkc : ((k + 1 : Nat) : Int) - 1 = (k : Int) := by omega
          have hw1 : IntKind.i64.wrap ((a : Int) + (k : Int)) = (a : Int) + (k : Int) := IntWalk.i64_in _ (by omega)
          have hcall : Hid (∀ W, URow w0 blk off (swp dj a (a + k)) W → Calls Try.prog 86 #[.slice (some ⟨blk, off, none⟩) n cap, .int .i64 (0 : Nat), .int .i64 k, .int .i64 a] W fun e w' => e = .returned (.tuple #[]) ∧ URow w0 blk off (siftDown ltInt k a 0 (swp dj a (a + k))) w') :=
            hide fun W hW => uSift w0 blk off cap 0 k a n _ W (by rw [size_swp]; exact (unhide HJ).1) hW (Nat.zero_le _) (by omega) hsz
          rw [hkc]
          rcases Nat.eq_zero_or_pos k with hk0 | hkp
          · subst hk0
            go_wp2_with fail
            go_region
            go_wp2_with (go_at_call 86; refine (unhide hcall _ (by rw [unhide HG]; exact ((unhide HJ).2.1.drewN _).swap a (a + 0) (by rw [(unhide HJ).1]; omega) (by rw [(unhide HJ).1]; omega))).mono ?_; rintro e w1 ⟨rfl, hR⟩; have HR := hide hR; clear hR)
            go_roundw
            case rel => exact ⟨0, _, by simp, by omega, hide ⟨by rw [usift_size, size_swp]; exact (unhide HJ).1, unhide HR, (unhide HJ).2.2⟩⟩
            case measure => simp [intOf]
          · go_wp2_with fail
            go_region
            go_wp2_with (go_at_call 86; refine (unhide hcall _ (by rw [unhide HG, unhide HG]; exact ((unhide HJ).2.1.drewN _).swap a (a + k) (by rw [(unhide HJ).1]; omega) (by rw [(unhide HJ).1]; omega))).mono ?_; rintro e w1 ⟨rfl, hR⟩; have HR := hide hR; clear hR)
            go_roundw
            case rel => exact ⟨k, _, rfl, by omega, hide ⟨by rw [usift_size, size_swp]; exact (unhide HJ).1, unhide HR, (unhide HJ).2.2⟩⟩
            case measure => simp [intOf]
    | succ k =>
      have hkc : ((k + 1 : Nat) : Int) - 1 = (k : Int) := by omega
      rw [hkc]
      have hcall : Hid (Calls Try.prog 86 #[.slice (some ⟨blk, off, none⟩) n cap, .int .i64 k, .int .i64 m, .int .i64 a] wr fun e w' => e = .returned (.tuple #[]) ∧ URow w0 blk off (siftDown ltInt m a k dk) w') :=
        hide (uSift w0 blk off cap k m a n _ wr (unhide HK).1 (unhide HK).2.1 (by omega) (by omega) hsz)
      go_wp2_with (go_at_call 86; refine (unhide hcall).mono ?_; rintro e w1 ⟨rfl, hR⟩; have HR := hide hR; clear hR)
      go_roundw
      case rel => exact ⟨k, _, rfl, by omega, hide ⟨by rw [usift_size]; exact (unhide HK).1, unhide HR, (unhide HK).2.2⟩⟩
      case measure => simp [intOf]
end Go.Proofs.Ytfpohfifdfbpkaa

namespace Go.Proofs.Ytfpohfifdfbpkaa
open Go.RowKit Go.Shelf Go.Lib Go.Sort

theorem URow.setNew {w0 W : World} {blk off : Nat} {d : Array Int} (h : URow w0 blk off d W) (c o : Nat) (v : Value) (hc : w0.heap.size ≤ c) : URow w0 blk off d (W.setCell ⟨c, o, none⟩ v) := by
  refine ⟨h.sw.setCell_new c o v hc, fun j hj => ?_, h.lt⟩
  have hne := h.lt
  rw [World.cell?_setCell_other _ _ _ _ (by intro e; simp only [Addr.mk.injEq] at e; omega), World.frozen?_setCell]
  exact h.hold j hj
theorem URow.alloc {w0 W : World} {blk off : Nat} {d : Array Int} (h : URow w0 blk off d W) (o : Obj) : URow w0 blk off d (W.alloc o) := by
  refine ⟨h.sw.alloc o, fun j hj => ?_, h.lt⟩
  rw [alloc_eq_grow, cell?_grow _ _ _ (by exact Nat.lt_of_lt_of_le h.lt h.sw.le), frozen?_grow _ _ _ (by exact Nat.lt_of_lt_of_le h.lt h.sw.le)]
  exact h.hold j hj

/-- The row beside a counter of the sort's own. -/
structure UCnt (w0 : World) (blk off : Nat) (d : Array Int) (c : Nat) (W : World) : Prop where
  row : URow w0 blk off d W
  cell : ∃ s, W.cell? ⟨c, 0, none⟩ = some (.int .i64 s)
  fz : W.frozen? ⟨c, 0, none⟩ = false
  ge : w0.heap.size ≤ c

theorem UCnt.drewN {w0 W : World} {blk off c : Nat} {d : Array Int} (h : UCnt w0 blk off d c W) (q : Nat) : UCnt w0 blk off d c (W.drewN q) := ⟨h.row.drewN q, h.cell, h.fz, h.ge⟩
theorem UCnt.set {w0 W : World} {blk off c : Nat} {d : Array Int} (h : UCnt w0 blk off d c W) (s : Int) : UCnt w0 blk off d c (W.setCell ⟨c, 0, none⟩ (.int .i64 s)) := by
  obtain ⟨s0, h0⟩ := h.cell
  exact ⟨h.row.setNew c 0 _ h.ge, ⟨s, World.cell?_setCell_same' _ _ _ (by rw [h0]; rfl)⟩, by rw [World.frozen?_setCell]; exact h.fz, h.ge⟩

set_option maxHeartbeats 4000000 in
set_option maxRecDepth 100000 in
theorem uOrder2 (w0 : World) (blk off cap c a b n : Nat) (d : Array Int) (w : World) (hn : d.size = n) (h : UCnt w0 blk off d c w) (ha : a < n) (hb : b < n) (_hsz : n < 2305843009213693952) :
    Calls Try.prog 90 #[.slice (some ⟨blk, off, none⟩) n cap, .int .i64 a, .int .i64 b, .pointer (some ⟨c, 0, none⟩)] w fun e w' => ∃ x y : Nat, e = .returned (.tuple #[.int .i64 x, .int .i64 y]) ∧ Hid ((x = a ∧ y = b) ∨ (x = b ∧ y = a)) ∧ Hid (UCnt w0 blk off d c w') := by
  obtain ⟨G, hG, hU⟩ := h.row.cells
  rw [hn] at hU
  have hcw := hU.c
  have hfw := hU.f
  have H := hide h
  obtain ⟨s, hs⟩ := h.cell
  have hz := h.fz
  clear hG hU h hn
  go_enter Try.func90, Try.ntmps90
  go_wp2
  go_quiet (first | (go_at_call 78; refine Calls.quiet_of_same (lessByte_any _ _ _)))
  go_wp2
  · go_ret2
    exact ⟨b, a, rfl, hide (Or.inr ⟨rfl, rfl⟩), hide (((unhide H).drewN _).set _)⟩
  · go_ret2
    exact ⟨a, b, rfl, hide (Or.inl ⟨rfl, rfl⟩), hide ((unhide H).drewN _)⟩

set_option maxHeartbeats 4000000 in
set_option maxRecDepth 100000 in
theorem uMedian (w0 : World) (blk off cap c a b k n : Nat) (d : Array Int) (w : World) (hn : d.size = n) (h : UCnt w0 blk off d c w) (ha : a < n) (hb : b < n) (hk : k < n) (hsz : n < 2305843009213693952) :
    Calls Try.prog 88 #[.slice (some ⟨blk, off, none⟩) n cap, .int .i64 a, .int .i64 b, .int .i64 k, .pointer (some ⟨c, 0, none⟩)] w fun e w' => ∃ x : Nat, e = .returned (.int .i64 x) ∧ Hid (x = a ∨ x = b ∨ x = k) ∧ Hid (UCnt w0 blk off d c w') := by
  have HC : Hid (∀ x y W, x < n → y < n → UCnt w0 blk off d c W → Calls Try.prog 90 #[.slice (some ⟨blk, off, none⟩) n cap, .int .i64 x, .int .i64 y, .pointer (some ⟨c, 0, none⟩)] W fun e w' => ∃ x' y' : Nat, e = .returned (.tuple #[.int .i64 x', .int .i64 y']) ∧ Hid ((x' = x ∧ y' = y) ∨ (x' = y ∧ y' = x)) ∧ Hid (UCnt w0 blk off d c w')) :=
    hide fun x y W hx hy hW => uOrder2 w0 blk off cap c x y n d W hn hW hx hy hsz
  have H := hide h
  clear h hn
  go_enter Try.func88, Try.ntmps88
  go_wp2_with fail
  refine (unhide HC a b _ ha hb (unhide H)).mono ?_
  rintro e w1 ⟨x1, y1, rfl, K1, H1⟩
  have hx1 : x1 < n := by have := unhide K1; omega
  have hy1 : y1 < n := by have := unhide K1; omega
  go_wp2_with fail
  refine (unhide HC y1 k _ hy1 hk (unhide H1)).mono ?_
  rintro e w2 ⟨x2, y2, rfl, K2, H2⟩
  have hx2 : x2 < n := by have := unhide K2; omega
  go_wp2_with fail
  refine (unhide HC x1 x2 _ hx1 hx2 (unhide H2)).mono ?_
  rintro e w3 ⟨x3, y3, rfl, K3, H3⟩
  go_wp2
  go_ret
  exact ⟨y3, rfl, hide (by have := unhide K1; have := unhide K2; have := unhide K3; omega), H3⟩

set_option maxHeartbeats 4000000 in
set_option maxRecDepth 100000 in
theorem uMedianAdj (w0 : World) (blk off cap c a n : Nat) (d : Array Int) (w : World) (hn : d.size = n) (h : UCnt w0 blk off d c w) (ha : 0 < a) (hb : a + 1 < n) (hsz : n < 2305843009213693952) :
    Calls Try.prog 87 #[.slice (some ⟨blk, off, none⟩) n cap, .int .i64 a, .pointer (some ⟨c, 0, none⟩)] w fun e w' => ∃ x : Nat, e = .returned (.int .i64 x) ∧ Hid (a - 1 ≤ x ∧ x ≤ a + 1) ∧ Hid (UCnt w0 blk off d c w') := by
  have h1 := uMedian w0 blk off cap c (a - 1) a (a + 1) n d w hn h (by omega) (by omega) (by omega) hsz
  have e1 : ((a - 1 : Nat) : Int) = (a : Int) - 1 := by omega
  have e2 : ((a + 1 : Nat) : Int) = (a : Int) + 1 := by omega
  rw [e1, e2] at h1
  have HC := hide h1
  clear h1 e1 e2 h hn
  go_enter Try.func87, Try.ntmps87
  go_wp2_with (go_at_call 88; refine (unhide HC).mono ?_; rintro e w1 ⟨x, rfl, K1, H1⟩)
  go_ret
  exact ⟨x, rfl, hide (by have := unhide K1; omega), H1⟩

set_option maxHeartbeats 4000000 in
set_option maxRecDepth 100000 in
theorem uReverse (w0 : World) (blk off cap a b n : Nat) (d : Array Int) (w : World) (hn : d.size = n) (h : URow w0 blk off d w) (hab : a < b) (hb : b ≤ n) (hsz : n < 2305843009213693952) :
    Calls Try.prog 76 #[.slice (some ⟨blk, off, none⟩) n cap, .int .i64 a, .int .i64 b] w fun e w' => e = .returned (.tuple #[]) ∧ URow w0 blk off (reverseRange d a b) w' := by
  obtain ⟨b1, hb1⟩ : ∃ b1, b - 1 = b1 := ⟨_, rfl⟩
  have hbi : (b : Int) - 1 = (b1 : Int) := by omega
  have HE : Hid (reverseRange d a b = reverseLoop a b1 d) := hide (by unfold reverseRange; rw [hb1])
  have hbn : b1 < n := by omega
  have H := hide h
  have HN := hide hn
  clear h hn hb1 hab hb
  go_enter Try.func76, Try.ntmps76
  go_wp2
  go_loopw [6, 7] (fun vi vj wr => ∃ (i j : Nat) (dk : Array Int), vi = .int .i64 i ∧ vj = .int .i64 j ∧ j < n ∧ Hid (dk.size = n ∧ URow w0 blk off dk wr ∧ reverseLoop i j dk = reverseLoop a b1 d)) (fun vi vj _ => ((intOf vj).toNat - (intOf vi).toNat))
  case atStart => exact ⟨a, b1, d, rfl, rfl, hbn, hide ⟨unhide HN, unhide H, rfl⟩⟩
  case round =>
    obtain ⟨i, j, dk, rfl, rfl, hjn, HK⟩ := hrel
    obtain ⟨G, hG, hU⟩ := (unhide HK).2.1.cells
    rw [(unhide HK).1] at hU
    have hcw := hU.c
    have hfw := hU.f
    have HG := hide hG
    clear hG hU
    by_cases hij : i < j
    · go_wp2
      go_region
      all_goals go_wp2
      go_roundw
      case rel =>
        refine ⟨i + 1, j - 1, swp dk i j, by congr 1, by congr 1; omega, by omega, hide ⟨by rw [size_swp]; exact (unhide HK).1, ?_, ?_⟩⟩
        · rw [unhide HG, unhide HG]
          exact ((unhide HK).2.1.drewN _).swap i j (by rw [(unhide HK).1]; omega) (by rw [(unhide HK).1]; omega)
        · rw [← (unhide HK).2.2]
          conv => rhs; rw [reverseLoop, if_pos hij]
      case measure => simp [intOf]; omega
    · go_wp2
      go_end0
      refine ⟨rfl, ?_⟩
      rw [unhide HE, ← (unhide HK).2.2, reverseLoop, if_neg hij]
      exact (unhide HK).2.1
end Go.Proofs.Ytfpohfifdfbpkaa

namespace Go.Proofs.Ytfpohfifdfbpkaa
open Go.RowKit Go.Shelf Go.Lib Go.Sort

theorem scanUp_go {p : Int → Bool} {d : Array Int} {i j : Nat} (h : i ≤ j) (hp : p d[i]! = true) : scanUp p d j i = scanUp p d j (i + 1) := by
  conv => lhs; rw [scanUp]
  rw [if_pos (by simp [h, hp])]
theorem scanUp_stop {p : Int → Bool} {d : Array Int} {i j : Nat} (h : ¬ i ≤ j ∨ p d[i]! = false) : scanUp p d j i = i := by
  rw [scanUp, if_neg (by rcases h with h | h <;> simp [h])]
theorem scanDown_go {p : Int → Bool} {d : Array Int} {i j : Nat} (h0 : 0 < j) (h : i ≤ j) (hp : p d[j]! = true) : scanDown p d i j = scanDown p d i (j - 1) := by
  obtain ⟨k, rfl⟩ : ∃ k, j = k + 1 := ⟨j - 1, by omega⟩
  rw [scanDown, if_pos (by simp [h, hp])]; rfl
theorem scanDown_stop {p : Int → Bool} {d : Array Int} {i j : Nat} (h : ¬ i ≤ j ∨ p d[j]! = false) : scanDown p d i j = j := by
  cases j with
  | zero => rw [scanDown]
  | succ k => rw [scanDown, if_neg (by rcases h with h | h <;> simp [h])]

set_option maxHeartbeats 16000000 in
set_option maxRecDepth 100000 in
theorem uPartEq (w0 : World) (blk off cap a b p n : Nat) (d : Array Int) (w : World) (hn : d.size = n) (h : URow w0 blk off d w) (hap : a ≤ p) (hpb : p < b) (hb : b ≤ n) (hsz : n < 2305843009213693952) :
    Calls Try.prog 79 #[.slice (some ⟨blk, off, none⟩) n cap, .int .i64 a, .int .i64 b, .int .i64 p] w fun e w' => e = .returned (.int .i64 ((partitionEqual ltInt d a b p).1 : Nat)) ∧ URow w0 blk off (partitionEqual ltInt d a b p).2 w' := by
  obtain ⟨b1, hb1⟩ : ∃ b1, b - 1 = b1 := ⟨_, rfl⟩
  have hbi : (b : Int) - 1 = (b1 : Int) := by omega
  have HE : Hid (partitionEqual ltInt d a b p = partEqLoop ltInt a (a + 1) b1 (swp d a p)) := hide (by unfold partitionEqual; rw [hb1])
  have hbn : b1 < n := by omega
  have hab : a ≤ b1 := by omega
  have hpn : p < n := by omega
  obtain ⟨G, hG, hU⟩ := h.cells
  rw [hn] at hU
  have hcw := hU.c
  have hfw := hU.f
  have HG := hide hG
  have H := hide h
  have HN := hide hn
  clear hG hU h hn hb1
  go_enter Try.func79, Try.ntmps79
  go_wp2
  rcases Nat.eq_or_lt_of_le hap with hpa | hpa
  · subst hpa
    go_region
    go_wp2
    have HR0 : Hid (∀ q, URow w0 blk off (swp d a a) (((w.setCell ⟨blk, off + a, none⟩ (.int .u8 (G a))).setCell ⟨blk, off + a, none⟩ (.int .u8 (G a))).drewN q)) := hide fun q => by
      rw [unhide HG]
      exact ((unhide H).swap a a (by rw [unhide HN]; omega) (by rw [unhide HN]; omega)).drewN q
    go_loopw [9, 10] (fun vi vj wr => ∃ (i0 j0 : Nat) (dk : Array Int), vi = .int .i64 i0 ∧ vj = .int .i64 j0 ∧ a < i0 ∧ i0 ≤ j0 + 1 ∧ j0 < n ∧ Hid (dk.size = n) ∧ Hid (URow w0 blk off dk wr) ∧ Hid (partEqLoop ltInt a i0 j0 dk = partEqLoop ltInt a (a + 1) b1 (swp d a a))) (fun vi vj _ => (intOf vj).toNat + 1 - (intOf vi).toNat)
    case atStart => exact ⟨a + 1, b1, _, by go_num, rfl, by omega, by omega, hbn, hide (by rw [size_swp]; exact unhide HN), hide (unhide HR0 1), hide rfl⟩
    case round =>
      clear HR0 hcw hfw HG H
      obtain ⟨i0, j0, dk, rfl, rfl, hi0, hij0, hj0, HS, HR0, HK⟩ := hrel
      go_wp2
      go_loopw [9] (fun v wr => ∃ i : Nat, v = .int .i64 i ∧ i0 ≤ i ∧ i ≤ j0 + 1 ∧ Hid (URow w0 blk off dk wr) ∧ Hid (scanUp (fun x => !ltInt dk[a]! x) dk j0 i = scanUp (fun x => !ltInt dk[a]! x) dk j0 i0)) (fun v _ => j0 + 1 - (intOf v).toNat)
      case atStart => exact ⟨i0, rfl, Nat.le_refl _, hij0, HR0, hide rfl⟩
      case round =>
        obtain ⟨i, rfl, hii, hij1, HR, HD⟩ := hrel
        obtain ⟨G, hG, hU⟩ := (unhide HR).cells
        rw [unhide HS] at hU
        have hcw := hU.c
        have hfw := hU.f
        have HG := hide hG
        clear hG hU
        go_wp2
        by_cases hle : i ≤ j0
        · go_quiet (first | (go_at_call 78; refine Calls.quiet_of_same (lessByte_any _ _ _)))
          go_wp2
          · have hl : (!ltInt (G a) (G i)) = true := by assumption
            go_roundw
            case rel =>
              refine ⟨i + 1, by congr 1, by omega, by omega, hide ((unhide HR).drewN nq), hide ?_⟩
              rw [← unhide HD]
              exact (scanUp_go hle (by simpa only [← unhide HG] using hl)).symm
            case measure => simp [intOf]; omega
          · rename (!ltInt (G a) (G i)) = false => hl
            have HI : Hid (scanUp (fun x => !ltInt dk[a]! x) dk j0 i0 = i) := hide (by rw [← unhide HD]; exact scanUp_stop (Or.inr (by simpa only [← unhide HG] using hl)))
            have HPI : Hid ((fun x => !ltInt dk[a]! x) dk[i]! = false) := hide (by simpa only [← unhide HG] using hl)
            have HR2 : Hid (URow w0 blk off dk (wr.drewN nq)) := hide ((unhide HR).drewN nq)
            clear HD HR hl hcw hfw HG
            generalize wr.drewN nq = wy at *
            go_loopw [10] (fun v wr => ∃ j : Nat, v = .int .i64 j ∧ i ≤ j + 1 ∧ j ≤ j0 ∧ Hid (URow w0 blk off dk wr) ∧ Hid (scanDown (fun x => ltInt dk[a]! x) dk i j = scanDown (fun x => ltInt dk[a]! x) dk i j0)) (fun v _ => (intOf v).toNat)
            case atStart => exact ⟨j0, rfl, by omega, Nat.le_refl _, HR2, hide rfl⟩
            case round =>
              obtain ⟨j, rfl, hij, hjj, HR, HD⟩ := hrel
              obtain ⟨G, hG, hU⟩ := (unhide HR).cells
              rw [unhide HS] at hU
              have hcw := hU.c
              have hfw := hU.f
              have HG := hide hG
              clear hG hU
              go_wp2
              by_cases hle : i ≤ j
              · go_quiet (first | (go_at_call 78; refine Calls.quiet_of_same (lessByte_any _ _ _)))
                go_wp2
                · have hl : ltInt (G a) (G j) = true := by assumption
                  go_roundw
                  case rel =>
                    refine ⟨j - 1, by congr 1; omega, by omega, by omega, hide ((unhide HR).drewN nq), hide ?_⟩
                    rw [← unhide HD]
                    exact (scanDown_go (by omega) hle (by simpa only [← unhide HG] using hl)).symm
                  case measure => simp [intOf]; omega
                · rename ltInt (G a) (G j) = false => hl
                  have HJ : Hid (scanDown (fun x => ltInt dk[a]! x) dk i j0 = j) := hide (by rw [← unhide HD]; exact scanDown_stop (Or.inr (by simpa only [← unhide HG] using hl)))
                  have hlt : i < j := by
                    have h1 := unhide HPI
                    have h2 : (fun x => ltInt dk[a]! x) dk[j]! = false := by simpa only [← unhide HG] using hl
                    rcases Nat.lt_or_ge i j with h3 | h3
                    · exact h3
                    · obtain rfl : i = j := by omega
                      simp at h1 h2
                      simp [h1] at h2
                  have HR3 : Hid (URow w0 blk off dk (wr.drewN nq)) := hide ((unhide HR).drewN nq)
                  have hcx : ∀ t, t < n → (wr.drewN nq).cell? ⟨blk, off + t, none⟩ = some (.int .u8 (G t)) := hcw
                  have hfx : ∀ t, t < n → (wr.drewN nq).frozen? ⟨blk, off + t, none⟩ = false := hfw
                  clear hcw hfw HD HR hl
                  generalize wr.drewN nq = wz at *
                  go_wp2
                  go_region
                  all_goals go_wp2
                  go_roundw
                  case rel =>
                    refine ⟨i + 1, j - 1, swp dk i j, by congr 1, by congr 1; omega, by omega, by omega, by omega, hide (by rw [size_swp]; exact unhide HS), ?_, ?_⟩
                    · rw [unhide HG, unhide HG]
                      exact hide (((unhide HR3).drewN _).swap i j (by rw [unhide HS]; omega) (by rw [unhide HS]; omega))
                    · refine hide ?_
                      have he := unhide HK
                      rw [partEqLoop_eq, unhide HI, unhide HJ, if_neg (by omega)] at he
                      exact he
                  case measure => simp [intOf]; omega
              · go_quiet (first | (go_at_call 78; refine Calls.quiet_of_same (lessByte_any _ _ _)))
                go_wp2
                have HJ : Hid (scanDown (fun x => ltInt dk[a]! x) dk i j0 = j) := hide (by rw [← unhide HD]; exact scanDown_stop (Or.inl (by omega)))
                have HR3 : Hid (URow w0 blk off dk (wr.drewN nq)) := hide ((unhide HR).drewN nq)
                have hcx : ∀ t, t < n → (wr.drewN nq).cell? ⟨blk, off + t, none⟩ = some (.int .u8 (G t)) := hcw
                have hfx : ∀ t, t < n → (wr.drewN nq).frozen? ⟨blk, off + t, none⟩ = false := hfw
                clear hcw hfw HD HR
                generalize wr.drewN nq = wz at *
                go_wp2
                go_ret
                have he := unhide HK
                rw [partEqLoop_eq, unhide HI, unhide HJ, if_pos (by omega), ← unhide HE] at he
                rw [← he]
                exact ⟨rfl, unhide HR3⟩
        · go_quiet (first | (go_at_call 78; refine Calls.quiet_of_same (lessByte_any _ _ _)))
          go_wp2
          have HI : Hid (scanUp (fun x => !ltInt dk[a]! x) dk j0 i0 = i) := hide (by rw [← unhide HD]; exact scanUp_stop (Or.inl (by omega)))
          have HR2 : Hid (URow w0 blk off dk (wr.drewN nq)) := hide ((unhide HR).drewN nq)
          clear HD HR hcw hfw HG
          generalize wr.drewN nq = wy at *
          go_loopw [10] (fun v wr => v = .int .i64 j0 ∧ Hid (URow w0 blk off dk wr)) (fun v _ => 0)
          case atStart => exact ⟨rfl, HR2⟩
          case round =>
            obtain ⟨rfl, HR⟩ := hrel
            obtain ⟨G, hG, hU⟩ := (unhide HR).cells
            rw [unhide HS] at hU
            have hcw := hU.c
            have hfw := hU.f
            have HG := hide hG
            clear hG hU
            go_wp2
            go_quiet (first | (go_at_call 78; refine Calls.quiet_of_same (lessByte_any _ _ _)))
            go_wp2
            have HJ : Hid (scanDown (fun x => ltInt dk[a]! x) dk i j0 = j0) := hide (scanDown_stop (Or.inl (by omega)))
            obtain ⟨j, hj⟩ : ∃ j, j = j0 := ⟨_, rfl⟩
            have HR3 : Hid (URow w0 blk off dk (wr.drewN nq)) := hide ((unhide HR).drewN nq)
            have hcx : ∀ t, t < n → (wr.drewN nq).cell? ⟨blk, off + t, none⟩ = some (.int .u8 (G t)) := hcw
            have hfx : ∀ t, t < n → (wr.drewN nq).frozen? ⟨blk, off + t, none⟩ = false := hfw
            clear hcw hfw HR
            generalize wr.drewN nq = wz at *
            go_wp2
            go_ret
            have he := unhide HK
            rw [partEqLoop_eq, unhide HI, unhide HJ, if_pos (by omega), ← unhide HE] at he
            rw [← he]
            exact ⟨rfl, unhide HR3⟩
  · skip
    go_region
    go_wp2
    have HR0 : Hid (∀ q, URow w0 blk off (swp d a p) (((w.setCell ⟨blk, off + a, none⟩ (.int .u8 (G p))).setCell ⟨blk, off + p, none⟩ (.int .u8 (G a))).drewN q)) := hide fun q => by
      rw [unhide HG, unhide HG]
      exact ((unhide H).swap a p (by rw [unhide HN]; omega) (by rw [unhide HN]; omega)).drewN q
    go_loopw [9, 10] (fun vi vj wr => ∃ (i0 j0 : Nat) (dk : Array Int), vi = .int .i64 i0 ∧ vj = .int .i64 j0 ∧ a < i0 ∧ i0 ≤ j0 + 1 ∧ j0 < n ∧ Hid (dk.size = n) ∧ Hid (URow w0 blk off dk wr) ∧ Hid (partEqLoop ltInt a i0 j0 dk = partEqLoop ltInt a (a + 1) b1 (swp d a p))) (fun vi vj _ => (intOf vj).toNat + 1 - (intOf vi).toNat)
    case atStart => exact ⟨a + 1, b1, _, by go_num, rfl, by omega, by omega, hbn, hide (by rw [size_swp]; exact unhide HN), hide (unhide HR0 1), hide rfl⟩
    case round =>
      clear HR0 hcw hfw HG H
      obtain ⟨i0, j0, dk, rfl, rfl, hi0, hij0, hj0, HS, HR0, HK⟩ := hrel
      go_wp2
      go_loopw [9] (fun v wr => ∃ i : Nat, v = .int .i64 i ∧ i0 ≤ i ∧ i ≤ j0 + 1 ∧ Hid (URow w0 blk off dk wr) ∧ Hid (scanUp (fun x => !ltInt dk[a]! x) dk j0 i = scanUp (fun x => !ltInt dk[a]! x) dk j0 i0)) (fun v _ => j0 + 1 - (intOf v).toNat)
      case atStart => exact ⟨i0, rfl, Nat.le_refl _, hij0, HR0, hide rfl⟩
      case round =>
        obtain ⟨i, rfl, hii, hij1, HR, HD⟩ := hrel
        obtain ⟨G, hG, hU⟩ := (unhide HR).cells
        rw [unhide HS] at hU
        have hcw := hU.c
        have hfw := hU.f
        have HG := hide hG
        clear hG hU
        go_wp2
        by_cases hle : i ≤ j0
        · go_quiet (first | (go_at_call 78; refine Calls.quiet_of_same (lessByte_any _ _ _)))
          go_wp2
          · have hl : (!ltInt (G a) (G i)) = true := by assumption
            go_roundw
            case rel =>
              refine ⟨i + 1, by congr 1, by omega, by omega, hide ((unhide HR).drewN nq), hide ?_⟩
              rw [← unhide HD]
              exact (scanUp_go hle (by simpa only [← unhide HG] using hl)).symm
            case measure => simp [intOf]; omega
          · rename (!ltInt (G a) (G i)) = false => hl
            have HI : Hid (scanUp (fun x => !ltInt dk[a]! x) dk j0 i0 = i) := hide (by rw [← unhide HD]; exact scanUp_stop (Or.inr (by simpa only [← unhide HG] using hl)))
            have HPI : Hid ((fun x => !ltInt dk[a]! x) dk[i]! = false) := hide (by simpa only [← unhide HG] using hl)
            have HR2 : Hid (URow w0 blk off dk (wr.drewN nq)) := hide ((unhide HR).drewN nq)
            clear HD HR hl hcw hfw HG
            generalize wr.drewN nq = wy at *
            go_loopw [10] (fun v wr => ∃ j : Nat, v = .int .i64 j ∧ i ≤ j + 1 ∧ j ≤ j0 ∧ Hid (URow w0 blk off dk wr) ∧ Hid (scanDown (fun x => ltInt dk[a]! x) dk i j = scanDown (fun x => ltInt dk[a]! x) dk i j0)) (fun v _ => (intOf v).toNat)
            case atStart => exact ⟨j0, rfl, by omega, Nat.le_refl _, HR2, hide rfl⟩
            case round =>
              obtain ⟨j, rfl, hij, hjj, HR, HD⟩ := hrel
              obtain ⟨G, hG, hU⟩ := (unhide HR).cells
              rw [unhide HS] at hU
              have hcw := hU.c
              have hfw := hU.f
              have HG := hide hG
              clear hG hU
              go_wp2
              by_cases hle : i ≤ j
              · go_quiet (first | (go_at_call 78; refine Calls.quiet_of_same (lessByte_any _ _ _)))
                go_wp2
                · have hl : ltInt (G a) (G j) = true := by assumption
                  go_roundw
                  case rel =>
                    refine ⟨j - 1, by congr 1; omega, by omega, by omega, hide ((unhide HR).drewN nq), hide ?_⟩
                    rw [← unhide HD]
                    exact (scanDown_go (by omega) hle (by simpa only [← unhide HG] using hl)).symm
                  case measure => simp [intOf]; omega
                · rename ltInt (G a) (G j) = false => hl
                  have HJ : Hid (scanDown (fun x => ltInt dk[a]! x) dk i j0 = j) := hide (by rw [← unhide HD]; exact scanDown_stop (Or.inr (by simpa only [← unhide HG] using hl)))
                  have hlt : i < j := by
                    have h1 := unhide HPI
                    have h2 : (fun x => ltInt dk[a]! x) dk[j]! = false := by simpa only [← unhide HG] using hl
                    rcases Nat.lt_or_ge i j with h3 | h3
                    · exact h3
                    · obtain rfl : i = j := by omega
                      simp at h1 h2
                      simp [h1] at h2
                  have HR3 : Hid (URow w0 blk off dk (wr.drewN nq)) := hide ((unhide HR).drewN nq)
                  have hcx : ∀ t, t < n → (wr.drewN nq).cell? ⟨blk, off + t, none⟩ = some (.int .u8 (G t)) := hcw
                  have hfx : ∀ t, t < n → (wr.drewN nq).frozen? ⟨blk, off + t, none⟩ = false := hfw
                  clear hcw hfw HD HR hl
                  generalize wr.drewN nq = wz at *
                  go_wp2
                  go_region
                  all_goals go_wp2
                  go_roundw
                  case rel =>
                    refine ⟨i + 1, j - 1, swp dk i j, by congr 1, by congr 1; omega, by omega, by omega, by omega, hide (by rw [size_swp]; exact unhide HS), ?_, ?_⟩
                    · rw [unhide HG, unhide HG]
                      exact hide (((unhide HR3).drewN _).swap i j (by rw [unhide HS]; omega) (by rw [unhide HS]; omega))
                    · refine hide ?_
                      have he := unhide HK
                      rw [partEqLoop_eq, unhide HI, unhide HJ, if_neg (by omega)] at he
                      exact he
                  case measure => simp [intOf]; omega
              · go_quiet (first | (go_at_call 78; refine Calls.quiet_of_same (lessByte_any _ _ _)))
                go_wp2
                have HJ : Hid (scanDown (fun x => ltInt dk[a]! x) dk i j0 = j) := hide (by rw [← unhide HD]; exact scanDown_stop (Or.inl (by omega)))
                have HR3 : Hid (URow w0 blk off dk (wr.drewN nq)) := hide ((unhide HR).drewN nq)
                have hcx : ∀ t, t < n → (wr.drewN nq).cell? ⟨blk, off + t, none⟩ = some (.int .u8 (G t)) := hcw
                have hfx : ∀ t, t < n → (wr.drewN nq).frozen? ⟨blk, off + t, none⟩ = false := hfw
                clear hcw hfw HD HR
                generalize wr.drewN nq = wz at *
                go_wp2
                go_ret
                have he := unhide HK
                rw [partEqLoop_eq, unhide HI, unhide HJ, if_pos (by omega), ← unhide HE] at he
                rw [← he]
                exact ⟨rfl, unhide HR3⟩
        · go_quiet (first | (go_at_call 78; refine Calls.quiet_of_same (lessByte_any _ _ _)))
          go_wp2
          have HI : Hid (scanUp (fun x => !ltInt dk[a]! x) dk j0 i0 = i) := hide (by rw [← unhide HD]; exact scanUp_stop (Or.inl (by omega)))
          have HR2 : Hid (URow w0 blk off dk (wr.drewN nq)) := hide ((unhide HR).drewN nq)
          clear HD HR hcw hfw HG
          generalize wr.drewN nq = wy at *
          go_loopw [10] (fun v wr => v = .int .i64 j0 ∧ Hid (URow w0 blk off dk wr)) (fun v _ => 0)
          case atStart => exact ⟨rfl, HR2⟩
          case round =>
            obtain ⟨rfl, HR⟩ := hrel
            obtain ⟨G, hG, hU⟩ := (unhide HR).cells
            rw [unhide HS] at hU
            have hcw := hU.c
            have hfw := hU.f
            have HG := hide hG
            clear hG hU
            go_wp2
            go_quiet (first | (go_at_call 78; refine Calls.quiet_of_same (lessByte_any _ _ _)))
            go_wp2
            have HJ : Hid (scanDown (fun x => ltInt dk[a]! x) dk i j0 = j0) := hide (scanDown_stop (Or.inl (by omega)))
            obtain ⟨j, hj⟩ : ∃ j, j = j0 := ⟨_, rfl⟩
            have HR3 : Hid (URow w0 blk off dk (wr.drewN nq)) := hide ((unhide HR).drewN nq)
            have hcx : ∀ t, t < n → (wr.drewN nq).cell? ⟨blk, off + t, none⟩ = some (.int .u8 (G t)) := hcw
            have hfx : ∀ t, t < n → (wr.drewN nq).frozen? ⟨blk, off + t, none⟩ = false := hfw
            clear hcw hfw HR
            generalize wr.drewN nq = wz at *
            go_wp2
            go_ret
            have he := unhide HK
            rw [partEqLoop_eq, unhide HI, unhide HJ, if_pos (by omega), ← unhide HE] at he
            rw [← he]
            exact ⟨rfl, unhide HR3⟩

end Go.Proofs.Ytfpohfifdfbpkaa
