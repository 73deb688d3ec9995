import Derived.Test.YtfpohfifdfbpkaaGreatDoorFileDef
import Derived.Test.YtfpohfifdfbpkaaGreatDoorPkN
import Derived.Laws.BitsLemmas
import Derived.Deep.RegionLaw
namespace Go.Proofs.YtfpohfifdfbpkaaGreatDoor
open Go.RowKit Scour Go.Lib
structure Wr (B : Nat) (w : World) (bw : Nat) (xs : Str) : Prop where
 ex : ∃ v, w.heap[bw]? = some (.cells #[v] 113 (0, 0)) /\ w.ownsRow B 5 1 v xs.length (xs.map zT)
 ge : B <= bw
theorem Wr.below {B : Nat} {w w' : World} {bw : Nat} {xs : Str} (h : Wr B w bw xs) (hb : Below w.heap.size w w') : Wr B w' bw xs := by
 obtain ⟨v, h1, h2⟩ := h.ex
 exact ⟨⟨v, (hb.block bw (Array.getElem?_eq_some_iff.1 h1).1).trans h1, zE h2 (fun b hl _ => hb.block b hl)⟩, h.ge⟩
def yv (w w' : World) : Prop := ∀ (k : Nat) (cur : Array Value) (e : Nat), w.heap[k]? = some (.cells cur e (0, 0)) -> e ≠ 5 -> e ≠ 113 -> w'.heap[k]? = w.heap[k]?
theorem yv.refl (w : World) : yv w w := fun _ _ _ _ _ _ => rfl
theorem yv.trans {w w1 w2 : World} (h : yv w w1) (k : yv w1 w2) : yv w w2 := fun b cur e hb h1 h2 => (k b cur e ((h b cur e hb h1 h2).trans hb) h1 h2).trans (h b cur e hb h1 h2)
theorem yv.below {w w' : World} (h : Below w.heap.size w w') : yv w w' := fun b _ _ hb _ _ => h.block b (Array.getElem?_eq_some_iff.1 hb).1
theorem yv.owns {w w' : World} (h : yv w w') {base e s n : Nat} {v : Value} {xs : List Value} (ho : w.ownsRow base e s v n xs) (h1 : e ≠ 5) (h2 : e ≠ 113) : w'.ownsRow base e s v n xs := zE ho (fun b _ hv => by
 obtain ⟨cu, hcu⟩ := zD ho hv
 exact h b cu e hcu h1 h2)
def yt (B : Nat) (w : World) (bw : Nat) (xs ys : Str) (e : Ending) (w' : World) : Prop := e = .returned (.tuple #[]) /\ Hid (Wr B w' bw (xs ++ ys)) /\ Hid (Below B w w') /\ Hid (yv w w')
theorem or128F : ∀ x : Fin 256, bits .or .u8 (x.val : Int) 128 = ((x.val % 128 + 128 : Nat) : Int) := by decide +kernel
theorem Wr.more {B : Nat} {w w1 : World} {bw : Nat} {xs ys : Str} {v : Value} {xc : Array Value} {g' cap' : Nat} (hB : B <= w.heap.size) (hbw : w.heap[bw]? = some (.cells #[v] 113 (0, 0))) (hr : w.ownsRow B 5 1 v xs.length (xs.map zT)) (hge : B <= bw)
  (ho : w1.ownsRow B 5 1 (.slice (some ⟨g', 0, none⟩) (xs.length + ys.length) cap') (xs.length + ys.length) (xs.map zT ++ ys.map zT)) (hg : (w.alloc (.cells xc 5)).grownBy w1 v.ownBlock) (hat : v.ownBlock = some g' \/ g' = w.heap.size + 1) :
  Wr B (w1.setCell ⟨bw, 0, none⟩ (.slice (some ⟨g', 0, none⟩) (xs.length + ys.length) cap')) bw (xs ++ ys) /\ Below B w (w1.setCell ⟨bw, 0, none⟩ (.slice (some ⟨g', 0, none⟩) (xs.length + ys.length) cap')) /\ w1.cell? ⟨bw, 0, none⟩ = some v /\ w1.frozen? ⟨bw, 0, none⟩ = false /\ yv w (w1.setCell ⟨bw, 0, none⟩ (.slice (some ⟨g', 0, none⟩) (xs.length + ys.length) cap')) := by
 have hl := (Array.getElem?_eq_some_iff.1 hbw).1
 have hne : v.ownBlock ≠ some bw := fun e => by
  obtain ⟨cu, hcu⟩ := zD hr e
  exact zH hcu hbw (by decide) rfl
 have hb1 : w1.heap[bw]? = some (.cells #[v] 113 (0, 0)) := by
  rw [hg.block bw (by simp; omega) (fun e => hne e.symm), Below.heap_alloc _ _ bw hl]; exact hbw
 have hgb : g' ≠ bw := by
  rcases hat with e | e
  ·intro e2; subst e2; exact hne e
  ·omega
 have hba : Below B w w1 := ((Below.refl B w).alloc hB _).trans (zG hg (by simp; omega) (yN hr))
 refine ⟨⟨⟨_, one_setCell hb1, ?_⟩, hge⟩, hba.trans ?_, cell_of_one hb1, free_of_one hb1, ?_⟩
 ·rw [List.map_append, List.length_append]
  exact yp ho (Below.heap_setCell w1 ⟨bw, 0, none⟩ _ g' hgb)
 ·have hs := hba.size
  exact (Mod.setCell w1 bw 0 _).below (by omega) (fun k e => by rw [e]; exact hge)
 ·intro k cur e hk h1 h2
  have hkl := (Array.getElem?_eq_some_iff.1 hk).1
  rw [Below.heap_setCell w1 ⟨bw, 0, none⟩ _ k (zH hk hbw h2), hg.block k (by simp; omega) (fun e1 => ?_), Below.heap_alloc _ _ k hkl]
  obtain ⟨cu, hcu⟩ := zD hr e1.symm
  exact zH hk hcu h1 rfl
set_option maxHeartbeats 8000000 in
set_option maxRecDepth 100000 in
theorem yn (B bw : Nat) (xs : Str) (n : Nat) (w : World) (h : Wr B w bw xs) (hB : B <= w.heap.size) (hn : n < 1000000000) (hx : xs.length < 900000000) :
  Calls Tryz.prog 98 #[.pointer (some ⟨bw, 0, none⟩), .int .i64 n] w (yt B w bw xs (zN n)) := by
 obtain ⟨i0, hi, hz0, hz1, hz2⟩ := info_parts Tryz.infoB
 unfold yt
 have H := zB h
 clear h
 go_enter Tryz.func98, Tryz.ntmps98
 go_wp2
 go_loopw [1] (fun v wr => ∃ (k : Nat) (ys : Str), v = .int .i64 k /\ k <= n /\ ys.length + k <= n + 1 /\ Hid (ys ++ zN k = zN n) /\ Hid (Wr B wr bw (xs ++ ys)) /\ Hid (Below B w wr) /\ Hid (yv w wr)) (fun v _ => (intOf v).toNat)
 case atStart => exact ⟨n, [], rfl, Nat.le_refl _, by simp, zB rfl, by rw [List.append_nil]; exact H, zB (Below.refl _ _), zB (yv.refl _)⟩
 case round =>
  clear H
  obtain ⟨k, ys, rfl, hk, hyk, HY, HW, HB, H8⟩ := hrel
  obtain ⟨v, q1, q2⟩ := (zA HW).ex
  have hge := (zA HW).ge
  have hBr : B <= wr.heap.size := Nat.le_trans hB (zA HB).size
  have c1 : wr.cell? ⟨bw, 0, none⟩ = some v := cell_of_one q1
  have hbl : bw < wr.heap.size := (Array.getElem?_eq_some_iff.1 q1).1
  obtain ⟨m, hm⟩ : ∃ m, (xs ++ ys).length = m := ⟨_, rfl⟩
  have hmb : m < 2000000000 := by rw [← hm, List.length_append]; omega
  have HM := zB hm
  have HOA : Hid (∀ ob, (wr.alloc ob).ownsRow B 5 1 v m ((xs ++ ys).map zT)) := zB (fun ob => by rw [← hm]; exact q2.alloc _)
  have HK : Hid (∀ (c : UInt8) w1 g' cap', w1.ownsRow B 5 1 (.slice (some ⟨g', 0, none⟩) (m + 1) cap') (m + 1) ((xs ++ ys).map zT ++ [.int .u8 (c.toNat : Int)]) -> (wr.alloc (.cells #[.int .u8 (c.toNat : Int)] 5)).grownBy w1 v.ownBlock -> (v.ownBlock = some g' \/ g' = wr.heap.size + 1) -> Wr B (w1.setCell ⟨bw, 0, none⟩ (.slice (some ⟨g', 0, none⟩) (m + 1) cap')) bw (xs ++ (ys ++ [c])) /\ Below B w (w1.setCell ⟨bw, 0, none⟩ (.slice (some ⟨g', 0, none⟩) (m + 1) cap')) /\ w1.cell? ⟨bw, 0, none⟩ = some v /\ w1.frozen? ⟨bw, 0, none⟩ = false /\ yv w (w1.setCell ⟨bw, 0, none⟩ (.slice (some ⟨g', 0, none⟩) (m + 1) cap'))) := zB (by
   intro c w1 g' cap' h1 h2 h3
   subst hm
   obtain ⟨a1, a2, a3, a4, a5⟩ := Wr.more (ys := [c]) hBr q1 q2 hge h1 h2 h3
   refine ⟨?_, (zA HB).trans a2, a3, a4, (zA H8).trans a5⟩
   rw [List.append_assoc] at a1
   exact a1)
  clear q1 q2 hm HM
  by_cases hb : k < 128
  ·have i1 : ¬ (128 : Int) <= (k : Int) := by omega
   obtain ⟨c, hc⟩ : ∃ c, c = UInt8.ofNat k := ⟨_, rfl⟩
   have hcn : c.toNat = k := by rw [hc, UInt8.toNat_ofNat', Nat.mod_eq_of_lt (by omega)]
   have hw : IntKind.u8.wrap (k : Int) = (c.toNat : Int) := by rw [hcn]; simp [IntKind.wrap, IntKind.bits, IntKind.signed]; omega
   have HR : Hid (ys ++ [c] = zN n) := zB (by rw [← zA HY, yH hb, hc])
   have HK := zB (zA HK c)
   clear hc hcn
   go_wp2_with (at_builtin; refine wpList_append_lies _ rfl (.tmp 24) (.tmp 27) 27 rfl B 5 i0 (.int .u8 0) 1 1 Tryz.underlying27 hi hz0 hz1 hz2 rfl (by decide) _ m ((xs ++ ys).map zT) rfl (zA HOA _) ⟨wr.heap.size, 0, none⟩ 1 1 [.int .u8 (c.toNat : Int)] rfl rfl (cell_one_new _ _ _) (by intro u hu; simp at hu; subst hu; rfl) (by omega) (by unfold maxLen; omega) (by omega) (by simp; omega) (wr.heap.size + 1) (by simp) ?_; intro g' cap' w1 hown' hgrow hat hlt'; obtain ⟨k1, k2, k3, k4, k5⟩ := zA HK w1 g' cap' hown' hgrow hat; have HK1 := zB k1; have HK2 := zB k2; have HK5 := zB k5; clear hown' hgrow hat k1 k2 k5)
   go_end0
   exact ⟨rfl, zB (by have := zA HK1; rw [zA HR] at this; exact this), HK2, HK5⟩
  ·have i1 : (128 : Int) <= (k : Int) := by omega
   obtain ⟨c, hc⟩ : ∃ c, c = UInt8.ofNat (k % 128 + 128) := ⟨_, rfl⟩
   have hcn : c.toNat = k % 128 + 128 := by rw [hc, UInt8.toNat_ofNat', Nat.mod_eq_of_lt (by omega)]
   have hw : IntKind.u8.wrap (k : Int) = ((k % 256 : Nat) : Int) := by simp [IntKind.wrap, IntKind.bits, IntKind.signed]
   have hor : bits .or .u8 ((k : Int) % 256) 128 = (c.toNat : Int) := by
    have := or128F ⟨k % 256, by omega⟩
    simp only [] at this
    rw [hcn, show ((k : Int) % 256) = ((k % 256 : Nat) : Int) by omega, this]
    omega
   have HR : Hid ((ys ++ [c]) ++ zN (k / 128) = zN n) := zB (by rw [← zA HY, numS_big hb, hc]; simp)
   have HK := zB (zA HK c)
   clear hc hcn
   go_wp2_with (at_builtin; refine wpList_append_lies _ rfl (.tmp 12) (.tmp 16) 27 rfl B 5 i0 (.int .u8 0) 1 1 Tryz.underlying27 hi hz0 hz1 hz2 rfl (by decide) _ m ((xs ++ ys).map zT) rfl (zA HOA _) ⟨wr.heap.size, 0, none⟩ 1 1 [.int .u8 (c.toNat : Int)] rfl rfl (cell_one_new _ _ _) (by intro u hu; simp at hu; subst hu; rfl) (by omega) (by unfold maxLen; omega) (by omega) (by simp; omega) (wr.heap.size + 1) (by simp) ?_; intro g' cap' w1 hown' hgrow hat hlt'; obtain ⟨k1, k2, k3, k4, k5⟩ := zA HK w1 g' cap' hown' hgrow hat; have HK1 := zB k1; have HK2 := zB k2; have HK5 := zB k5; clear hown' hgrow hat k1 k2 k5)
   go_roundw
   case rel => exact ⟨k / 128, ys ++ [c], by go_num, by omega, by simp; omega, HR, HK1, HK2, HK5⟩
   case measure => simp [intOf]; omega
end Go.Proofs.YtfpohfifdfbpkaaGreatDoor
namespace Go.Proofs.YtfpohfifdfbpkaaGreatDoor
open Go.RowKit Scour Go.Lib
def yR (o : Nat -> Int) : Nat -> Str
 | 0 => []
 | k + 1 => yR o k ++ zN (o k).toNat
theorem numsTo_len {o : Nat -> Int} (ho : ∀ i, 0 <= o i /\ o i < 200000000) : ∀ k, (yR o k).length <= 4 * k
 | 0 => Nat.le_refl _
 | k + 1 => by
   have := numsTo_len ho k
   have := zj (o k).toNat (by have := ho k; omega)
   rw [yR, List.length_append]
   omega
set_option maxHeartbeats 8000000 in
set_option maxRecDepth 100000 in
theorem woffsets_any (B bw : Nat) (xs : Str) (n : Nat) (o : Nat -> Int) (vO : Value) (w : World) (h : Wr B w bw xs) (hB : B <= w.heap.size) (hO : w.ownsRow 0 3 1 vO n (zZ o n)) (ho : ∀ i, 0 <= o i /\ o i < 200000000) (hn : n < 1000000) (hx : xs.length < 800000000) :
  Calls Tryz.prog 58 #[.pointer (some ⟨bw, 0, none⟩), vO] w (yt B w bw xs (yR o n)) := by
 obtain ⟨aO, cO, hvO⟩ : ∃ aO cO, vO = .slice aO n cO := by
  rcases zV hO with ⟨h1, h2⟩ | ⟨g, cc, h1, _⟩
  ·exact ⟨none, 0, by rw [h1, h2]⟩
  ·exact ⟨_, cc, h1⟩
 subst hvO
 unfold yt
 have H := zB h
 have HO := zB hO
 have HOO := zB ho
 have HLN := zB (numsTo_len ho)
 clear h hO ho
 go_enter Tryz.func58, Tryz.ntmps58
 go_wp2
 go_loopw [8] (fun v wr => ∃ k : Nat, v = .int .i64 k /\ k <= n /\ Hid (Wr B wr bw (xs ++ yR o k)) /\ Hid (Below B w wr) /\ Hid (yv w wr)) (fun v _ => n - (intOf v).toNat)
 case atStart => exact ⟨0, rfl, Nat.zero_le _, by rw [yR, List.append_nil]; exact H, zB (Below.refl _ _), zB (yv.refl _)⟩
 case round =>
  clear H
  obtain ⟨k, rfl, hk, HW, HB, H8⟩ := hrel
  by_cases hkn : k < n
  ·have hOr := (zA H8).owns (zA HO) (by decide) (by decide)
   obtain ⟨x, hx2⟩ : ∃ x : Nat, o k = (x : Int) := ⟨(o k).toNat, by have := zA HOO k; omega⟩
   have hxb : x < 200000000 := by have := zA HOO k; omega
   rcases zV hOr with ⟨_, e0⟩ | ⟨gO, cc, e1, _⟩
   ·omega
   ·obtain ⟨rfl, rfl⟩ : aO = some ⟨gO, 0, none⟩ /\ cO = cc := by simpa using e1
    have hcell : wr.cell? ⟨gO, k, none⟩ = some (.int .i64 (x : Int)) := by rw [hOr.cellAt k (by omega), zW _ _ _ hkn, hx2]
    have hlk := zA HLN k
    have HNX : Hid (yR o (k + 1) = yR o k ++ zN x) := zB (by rw [yR, hx2, Int.toNat_natCast])
    have HC := zB (yn B bw (xs ++ yR o k) x wr (zA HW) (Nat.le_trans hB (zA HB).size) (by omega) (by rw [List.length_append]; omega))
    clear hOr e1 hx2
    go_wp2_with (go_at_call 98; refine (zA HC).mono ?_; rintro e w1 ⟨rfl, H1, B1, K1⟩)
    go_roundw
    case rel => exact ⟨k + 1, by go_num, hkn, zB (by rw [zA HNX, ← List.append_assoc]; exact zA H1), zB ((zA HB).trans (zA B1)), zB ((zA H8).trans (zA K1))⟩
    case measure => simp [intOf]; omega
  ·obtain rfl : k = n := by omega
   go_wp2
   go_end0
   exact ⟨rfl, HW, HB, H8⟩
set_option maxHeartbeats 8000000 in
set_option maxRecDepth 100000 in
theorem wpatterns_any (B bw : Nat) (xs : Str) (n : Nat) (o : Nat -> Int) (vO : Value) (w : World) (h : Wr B w bw xs) (hB : B <= w.heap.size) (hO : w.ownsRow 0 3 1 vO n (zZ o n)) (ho : ∀ i, 0 <= o i /\ o i < 200000000) (hn : n < 1000000) (hx : xs.length < 800000000) :
  Calls Tryz.prog 56 #[.pointer (some ⟨bw, 0, none⟩), vO] w (yt B w bw xs (zN n ++ yR o n)) := by
 obtain ⟨aO, cO, hvO⟩ : ∃ aO cO, vO = .slice aO n cO := by
  rcases zV hO with ⟨h1, h2⟩ | ⟨g, cc, h1, _⟩
  ·exact ⟨none, 0, by rw [h1, h2]⟩
  ·exact ⟨_, cc, h1⟩
 subst hvO
 unfold yt
 have H := zB h
 have HO := zB hO
 have HOO := zB ho
 have HLN := zB (numsTo_len ho)
 have hl4 := zj n (by omega)
 have HC0 := zB (yn B bw xs n w h hB (by omega) (by omega))
 clear h hO ho
 go_enter Tryz.func56, Tryz.ntmps56
 go_wp2_with (go_at_call 98; refine (zA HC0).mono ?_; rintro e w0 ⟨rfl, H0, B0, K0⟩)
 go_loopw [12] (fun v wr => ∃ k : Nat, v = .int .i64 k /\ k <= n /\ Hid (Wr B wr bw (xs ++ (zN n ++ yR o k))) /\ Hid (Below B w wr) /\ Hid (yv w wr)) (fun v _ => n - (intOf v).toNat)
 case atStart => exact ⟨0, rfl, Nat.zero_le _, by rw [yR, List.append_nil]; exact H0, B0, K0⟩
 case round =>
  clear H H0 B0 K0
  obtain ⟨k, rfl, hk, HW, HB, H8⟩ := hrel
  by_cases hkn : k < n
  ·have hOr := (zA H8).owns (zA HO) (by decide) (by decide)
   obtain ⟨x, hx2⟩ : ∃ x : Nat, o k = (x : Int) := ⟨(o k).toNat, by have := zA HOO k; omega⟩
   have hxb : x < 200000000 := by have := zA HOO k; omega
   rcases zV hOr with ⟨_, e0⟩ | ⟨gO, cc, e1, _⟩
   ·omega
   ·obtain ⟨rfl, rfl⟩ : aO = some ⟨gO, 0, none⟩ /\ cO = cc := by simpa using e1
    have hcell : wr.cell? ⟨gO, k, none⟩ = some (.int .i64 (x : Int)) := by rw [hOr.cellAt k (by omega), zW _ _ _ hkn, hx2]
    have hlk := zA HLN k
    have HNX : Hid (yR o (k + 1) = yR o k ++ zN x) := zB (by rw [yR, hx2, Int.toNat_natCast])
    have HC := zB (yn B bw (xs ++ (zN n ++ yR o k)) x wr (zA HW) (Nat.le_trans hB (zA HB).size) (by omega) (by simp only [List.length_append]; omega))
    clear hOr e1 hx2
    go_wp2_with (go_at_call 98; refine (zA HC).mono ?_; rintro e w1 ⟨rfl, H1, B1, K1⟩)
    go_roundw
    case rel => exact ⟨k + 1, by go_num, hkn, zB (by have := zA H1; rw [zA HNX]; simp only [List.append_assoc] at this ⊢; exact this), zB ((zA HB).trans (zA B1)), zB ((zA H8).trans (zA K1))⟩
    case measure => simp [intOf]; omega
  ·obtain rfl : k = n := by omega
   go_wp2
   go_end0
   exact ⟨rfl, HW, HB, H8⟩
end Go.Proofs.YtfpohfifdfbpkaaGreatDoor
namespace Go.Proofs.YtfpohfifdfbpkaaGreatDoor
open Go.RowKit Scour Go.Lib
def CWr (cl : List (Int × Int)) : Prop := ∀ q, q ∈ cl -> (q.1 = -1 \/ 1 <= q.1) /\ q.1 < 10000 /\ 0 <= q.2 /\ q.2 < 10000
theorem celsTo_len2 {cl : List (Int × Int)} (h : CWr cl) (k : Nat) (hk : k <= cl.length) : (zq cl k).length <= 6 * k := celsTo_len (fun q hq => by have := h q hq; omega) k hk
set_option maxHeartbeats 8000000 in
set_option maxRecDepth 100000 in
theorem wcells_any (B bw : Nat) (xs : Str) (cl : List (Int × Int)) (vX : Value) (w : World) (h : Wr B w bw xs) (hB : B <= w.heap.size) (hO : w.ownsRow 0 147 2 vX cl.length (zv cl)) (hc : CWr cl) (hn : cl.length < 100000000) (hx : xs.length < 100000000) :
  Calls Tryz.prog 59 #[.pointer (some ⟨bw, 0, none⟩), vX] w (yt B w bw xs (zN cl.length ++ zq cl cl.length)) := by
 obtain ⟨n, hcn⟩ : ∃ n, cl.length = n := ⟨_, rfl⟩
 rw [hcn] at hO hn ⊢
 obtain ⟨aO, cO, hvO⟩ : ∃ aO cO, vX = .slice aO n cO := by
  rcases zV hO with ⟨h1, h2⟩ | ⟨g, cc, h1, _⟩
  ·exact ⟨none, 0, by rw [h1, h2]⟩
  ·exact ⟨_, cc, h1⟩
 subst hvO
 unfold yt
 have HO := zB hO
 have HCC := zB hc
 have HCN := zB hcn
 have HLN := zB (celsTo_len2 hc)
 have hl4 := zj n (by omega)
 have HC0 := zB (yn B bw xs n w h hB (by omega) (by omega))
 clear h hO hc hcn
 go_enter Tryz.func59, Tryz.ntmps59
 go_wp2_with (go_at_call 98; refine (zA HC0).mono ?_; rintro e w0 ⟨rfl, H0, B0, K0⟩)
 go_loopw [12] (fun v wr => ∃ k : Nat, v = .int .i64 k /\ k <= n /\ Hid (Wr B wr bw (xs ++ (zN n ++ zq cl k))) /\ Hid (Below B w wr) /\ Hid (yv w wr)) (fun v _ => n - (intOf v).toNat)
 case atStart => exact ⟨0, rfl, Nat.zero_le _, by rw [zq, List.append_nil]; exact H0, B0, K0⟩
 case round =>
  clear H0 B0 K0
  obtain ⟨k, rfl, hk, HW, HB, H8⟩ := hrel
  have hBr : B <= wr.heap.size := Nat.le_trans hB (zA HB).size
  by_cases hkn : k < n
  ·have hOr := (zA H8).owns (zA HO) (by decide) (by decide)
   have hkl : k < cl.length := by rw [zA HCN]; exact hkn
   have hq := zA HCC (cl.getD k (0, 0)) (by simp [List.getD, hkl])
   have hlk := zA HLN k (by omega)
   rcases zV hOr with ⟨_, e0⟩ | ⟨gO, cc, e1, _⟩
   ·omega
   ·obtain ⟨rfl, rfl⟩ : aO = some ⟨gO, 0, none⟩ /\ cO = cc := by simpa using e1
    have hcl := cellsP_len cl
    have c1 : wr.cell? ⟨gO, k * 2, none⟩ = some (.int .i64 (cl.getD k (0, 0)).1) := by rw [hOr.cellAt (k * 2) (by omega)]; exact (cellsP_get hkl).1
    have c2 : wr.cell? ⟨gO, k * 2 + 1, none⟩ = some (.int .i64 (cl.getD k (0, 0)).2) := by rw [hOr.cellAt (k * 2 + 1) (by omega)]; exact (cellsP_get hkl).2
    have HNX : Hid (zq cl (k + 1) = zq cl k ++ celS (cl.getD k (0, 0))) := zB rfl
    have hW : ∀ ob, Below wr.heap.size wr (wr.alloc ob) := fun ob => (Below.refl _ _).alloc (Nat.le_refl _) _
    have HNM : Hid (∀ ob x, x < 1000000 -> Calls Tryz.prog 98 #[.pointer (some ⟨bw, 0, none⟩), .int .i64 (x : Nat)] (wr.alloc ob) (yt B (wr.alloc ob) bw (xs ++ (zN n ++ zq cl k)) (zN x))) := zB fun ob x hx => yn B bw _ x (wr.alloc ob) ((zA HW).below (hW ob)) (by simp; omega) (by omega) (by simp only [List.length_append]; omega)
    have HBA : Hid (∀ ob, Below B w (wr.alloc ob)) := zB fun ob => (zA HB).trans ((hW ob).mono hBr)
    have H8A : Hid (∀ ob, yv w (wr.alloc ob)) := zB fun ob => (zA H8).trans (yv.below (hW ob))
    clear hOr e1 hW
    generalize cl.getD k (0, 0) = q at *
    by_cases hq0 : q.1 < 0
    ·obtain ⟨q1, q2⟩ := q
     simp only [] at c1 c2 hq hq0
     obtain rfl : q1 = -1 := by omega
     have HNX2 : Hid (zq cl (k + 1) = zq cl k ++ zN 0) := zB (by
      rw [zA HNX]; unfold celS
      rw [show ((-1 : Int) + 1).toNat = 0 from rfl, if_neg (by simp), List.append_nil])
     have HN0 : Hid (∀ ob, Calls Tryz.prog 98 #[.pointer (some ⟨bw, 0, none⟩), .int .i64 0] (wr.alloc ob) (yt B (wr.alloc ob) bw (xs ++ (zN n ++ zq cl k)) (zN 0))) := zB fun ob => zA HNM ob 0 (by omega)
     clear HNX HNM
     go_wp2_with (go_at_call 98; refine (zA HN0 _).mono ?_; rintro e w1 ⟨rfl, H1, B1, K1⟩)
     go_roundw
     case rel => exact ⟨k + 1, by go_num, hkn, zB (by have := zA H1; rw [zA HNX2]; simp only [List.append_assoc] at this ⊢; exact this), zB ((zA HBA _).trans (zA B1)), zB ((zA H8A _).trans (zA K1))⟩
     case measure => simp [intOf]; omega
    ·obtain ⟨q1, q2⟩ := q
     simp only [] at c1 c2 hq hq0
     obtain ⟨x, rfl⟩ : ∃ x : Nat, q1 = (x : Int) := ⟨q1.toNat, by omega⟩
     obtain ⟨y, rfl⟩ : ∃ y : Nat, q2 = (y : Int) := ⟨q2.toNat, by omega⟩
     have HNX2 : Hid (zq cl (k + 1) = zq cl k ++ (zN (x + 1) ++ zN y)) := zB (by
      rw [zA HNX]; unfold celS
      simp only []
      rw [show ((x : Int) + 1).toNat = x + 1 by omega, if_pos (by omega), Int.toNat_natCast])
     have HN1 : Hid (∀ ob, Calls Tryz.prog 98 #[.pointer (some ⟨bw, 0, none⟩), .int .i64 ((x : Int) + 1)] (wr.alloc ob) (yt B (wr.alloc ob) bw (xs ++ (zN n ++ zq cl k)) (zN (x + 1)))) := zB fun ob => zA HNM ob (x + 1) (by omega)
     have hl5 := zj (x + 1) (by omega)
     have HN2 : Hid (∀ w1, Wr B w1 bw ((xs ++ (zN n ++ zq cl k)) ++ zN (x + 1)) -> B <= w1.heap.size -> Calls Tryz.prog 98 #[.pointer (some ⟨bw, 0, none⟩), .int .i64 (y : Nat)] w1 (yt B w1 bw ((xs ++ (zN n ++ zq cl k)) ++ zN (x + 1)) (zN y))) := zB fun w1 h1 h2 => yn B bw _ y w1 h1 h2 (by omega) (by simp only [List.length_append]; omega)
     have hx0 : ¬ (x : Int) = -1 := by omega
     have HBX : Hid (∀ ob, (wr.alloc ob).heap[wr.heap.size]? = some ob) := zB fun ob => heap_alloc_new wr ob
     clear HNX HNM
     go_wp2_with fail
     refine (zA HN1 _).mono ?_
     rintro e w1 ⟨rfl, H1, B1, K1⟩
     have hbx : w1.heap[wr.heap.size]? = some (.cells #[.int .i64 (x : Int), .int .i64 (y : Int)] 147 (0, 0)) := (zA K1 _ _ _ (zA HBX _) (by decide) (by decide)).trans (zA HBX _)
     have c5 : w1.cell? ⟨wr.heap.size, 1, none⟩ = some (.int .i64 (y : Int)) := by rw [zC hbx]; rfl
     have hB1 : B <= w1.heap.size := Nat.le_trans (by simp; omega) (zA B1).size
     clear hbx
     go_wp2_with fail
     refine (zA HN2 w1 (zA H1) hB1).mono ?_
     rintro e w2 ⟨rfl, H2, B2, K2⟩
     go_wp2
     go_roundw
     case rel => exact ⟨k + 1, by go_num, hkn, zB (by have := zA H2; rw [zA HNX2]; simp only [List.append_assoc] at this ⊢; exact this), zB (((zA HBA _).trans (zA B1)).trans (zA B2)), zB (((zA H8A _).trans (zA K1)).trans (zA K2))⟩
     case measure => simp [intOf]; omega
  ·obtain rfl : k = n := by omega
   go_wp2
   go_end0
   exact ⟨rfl, HW, HB, H8⟩
end Go.Proofs.YtfpohfifdfbpkaaGreatDoor
namespace Go.Proofs.YtfpohfifdfbpkaaGreatDoor
open Go.RowKit Scour Go.Lib
theorem jC.keep8 {w w' : World} {bt be g : Nat} {ps S : List Str} (h : jC w bt be g ps S) (hk : yv w w') (hs : w.heap.size <= w'.heap.size) : jC w' bt be g ps S := by
 obtain ⟨cap, par, lst, E, hT, _⟩ := h.ex
 refine h.same hs (fun k hk2 => ?_)
 rcases hk2 with e | e | e
 ·subst e; exact hk _ _ _ hT.blk (by decide) (by decide)
 ·subst e; obtain ⟨cu, hcu⟩ := zK hT.ends; exact hk _ _ _ hcu (by decide) (by decide)
 ·subst e; obtain ⟨cu, hcu⟩ := zK hT.row; exact hk _ _ _ hcu (by decide) (by decide)
theorem stS_eq {w : World} {bt be g : Nat} {ps S : List Str} (h : jC w bt be g ps S) {i : Nat} (h0 : 0 < i) (hi : i < S.length) : stS S i = zN (parN S i) ++ [lastB S i] ++ zN (zc S i) := by
 obtain ⟨cap, par, lst, E, hT, _⟩ := h.ex
 obtain ⟨p, c, _, _, _, e3⟩ := hT.rep.kids i h0 hi
 have e1 : (at' S i).take ((at' S i).length - 1) = (at' S i).dropLast := by rw [List.dropLast_eq_take]
 have e2 : (at' S i).drop ((at' S i).length - 1) = [lastB S i] := by
  unfold lastB
  rw [e3]
  simp
 unfold stS parN zc
 rw [e1, e2, List.drop_one]
theorem Wr.moreD {B : Nat} {w w1 : World} {bw : Nat} {xs ys : Str} {v : Value} {xc : Array Value} {g' cap' : Nat} (hB : B <= w.heap.size) (hbw : w.heap[bw]? = some (.cells #[v] 113 (0, 0))) (hr : w.ownsRow B 5 1 v xs.length (xs.map zT)) (hge : B <= bw)
  (ho : w1.ownsRow B 5 1 (.slice (some ⟨g', 0, none⟩) (xs.length + ys.length) cap') (xs.length + ys.length) (xs.map zT ++ ys.map zT)) (hg : (w.alloc (.cells xc 5)).drew.grownBy w1 v.ownBlock) (hat : v.ownBlock = some g' \/ g' = w.heap.size + 1) :
  Wr B (w1.setCell ⟨bw, 0, none⟩ (.slice (some ⟨g', 0, none⟩) (xs.length + ys.length) cap')) bw (xs ++ ys) /\ Below B w (w1.setCell ⟨bw, 0, none⟩ (.slice (some ⟨g', 0, none⟩) (xs.length + ys.length) cap')) /\ w1.cell? ⟨bw, 0, none⟩ = some v /\ w1.frozen? ⟨bw, 0, none⟩ = false /\ yv w (w1.setCell ⟨bw, 0, none⟩ (.slice (some ⟨g', 0, none⟩) (xs.length + ys.length) cap')) :=
 Wr.more hB hbw hr hge ho (xc := xc) ⟨hg.os, hg.tape, hg.output, hg.size, hg.block⟩ hat
theorem one_new {w : World} {x : Value} {t : TypeId} : (w.alloc (.cells #[x] t)).drew.heap[w.heap.size]? = some (.cells #[x] t (0, 0)) := heap_alloc_new w _
set_option maxHeartbeats 16000000 in
set_option maxRecDepth 100000 in
theorem wstates_any (B bw : Nat) (xs : Str) (bt be g : Nat) (ps S : List Str) (w : World) (h : Wr B w bw xs) (hB : B <= w.heap.size) (hT : jC w bt be g ps S) (hx : xs.length < 100000000) :
  Calls Tryz.prog 55 #[.pointer (some ⟨bw, 0, none⟩), .pointer (some ⟨bt, 0, none⟩)] w (yt B w bw xs (zN S.length ++ jQ S S.length)) := by
 obtain ⟨i0, hi, hz0, hz1, hz2⟩ := info_parts Tryz.infoB
 have hl := hT.len
 unfold yt
 have HT := zB hT
 have HST : Hid (∀ i, 0 < i -> i < S.length -> stS S i = zN (parN S i) ++ [lastB S i] ++ zN (zc S i)) := zB fun i h0 h1 => stS_eq hT h0 h1
 have HLN := zB (stsTo_len (S := S) (by omega))
 have hl4 := zj S.length (by omega)
 have HL0 := zB (tlen_any bt be g ps S w hT)
 have HC0 := zB (yn B bw xs S.length w h hB (by omega) (by omega))
 have HPB : Hid (∀ i, 0 < i -> i < S.length -> parN S i < 10000 /\ zc S i < 10000) := zB fun i h0 h1 => by
  unfold parN zc
  have a1 := List.idxOf_le_length (a := (at' S i).dropLast) (l := S)
  have a2 := List.idxOf_le_length (a := yI S (at' S i).tail) (l := S)
  omega
 clear h hT
 go_enter Tryz.func55, Tryz.ntmps55
 go_wp2_with (first | (go_at_call 38; refine (zA HL0).mono ?_; rintro e w' ⟨rfl, hw'⟩; obtain rfl := hw'.symm) | (go_at_call 98; refine (zA HC0).mono ?_; rintro e w0 ⟨rfl, H0, B0, K0⟩))
 go_loopw [4] (fun v wr => ∃ k : Nat, v = .int .i64 k /\ 1 <= k /\ k <= S.length /\ Hid (Wr B wr bw (xs ++ (zN S.length ++ jQ S k))) /\ Hid (Below B w wr) /\ Hid (yv w wr)) (fun v _ => S.length - (intOf v).toNat)
 case atStart => exact ⟨1, rfl, Nat.le_refl _, hl.1, by rw [jQ, jQ, if_pos rfl, List.append_nil, List.append_nil]; exact H0, B0, K0⟩
 case round =>
  clear H0 B0 K0 HL0 HC0
  obtain ⟨k, rfl, hk1, hk, HW, HB, H8⟩ := hrel
  have hBr : B <= wr.heap.size := Nat.le_trans hB (zA HB).size
  have hTr := (zA HT).keep8 (zA H8) (zA HB).size
  have HL1 := zB (tlen_any bt be g ps S wr hTr)
  by_cases hkn : k < S.length
  ·have HA := zB (tat_any bt be g ps S wr hTr k hk1 hkn)
   have hpb := zA HPB k hk1 hkn
   have HNX : Hid (jQ S (k + 1) = jQ S k ++ (zN (parN S k) ++ [lastB S k] ++ zN (zc S k))) := zB (by rw [jQ, if_neg (by omega), zA HST k hk1 hkn])
   have hlk := zA HLN k
   clear hTr
   generalize parN S k = p at *
   generalize lastB S k = c at *
   generalize zc S k = f at *
   have hlp := zj p (by omega)
   obtain ⟨zs, hzs⟩ : ∃ zs, zs = xs ++ (zN S.length ++ jQ S k) := ⟨_, rfl⟩
   have hzl : zs.length < 200000000 := by rw [hzs]; simp only [List.length_append]; omega
   rw [← hzs] at HW
   have HZ := zB hzs
   clear hzs
   have HN1 : Hid (∀ W ob, Below wr.heap.size wr W -> Calls Tryz.prog 98 #[.pointer (some ⟨bw, 0, none⟩), .int .i64 (p : Nat)] (W.alloc ob) (yt B (W.alloc ob) bw zs (zN p))) := zB fun W ob hb => by
    have hb2 : Below W.heap.size W (W.alloc ob) := (Below.refl _ _).alloc (Nat.le_refl _) _
    have := hb.size
    exact yn B bw zs p (W.alloc ob) (((zA HW).below hb).below hb2) (by simp; omega) (by omega) (by omega)
   go_wp2_with (first | (go_at_call 38; refine (zA HL1).mono ?_; rintro e w' ⟨rfl, hw'⟩; obtain rfl := hw'.symm) | (go_at_call 84; refine (zA HA).mono ?_; rintro e w1 ⟨rfl, hb1⟩; have HB1 := zB hb1; clear hb1) | (go_at_call 98; refine (zA HN1 w1 _ (zA HB1)).mono ?_; rintro e w2 ⟨rfl, H2, B2, K2⟩))
   obtain ⟨v, q1, q2⟩ := (zA H2).ex
   have hge := (zA H2).ge
   have hs1 := (zA HB1).size
   have hB2 : B <= w2.heap.size := Nat.le_trans (by simp; omega) (zA B2).size
   obtain ⟨m, hm⟩ : ∃ m, (zs ++ zN p).length = m := ⟨_, rfl⟩
   have hmb : m < 300000000 := by rw [← hm, List.length_append]; omega
   have hbx : w2.heap[w1.heap.size]? = some (.cells #[.int .i64 (p : Int), .int .u8 (c.toNat : Int), .int .i64 (f : Int)] 154 (0, 0)) := (zA K2 _ _ _ (heap_alloc_new w1 _) (by decide) (by decide)).trans (heap_alloc_new w1 _)
   have c5 : w2.cell? ⟨w1.heap.size, 1, none⟩ = some (.int .u8 (c.toNat : Int)) := by rw [zC hbx]; rfl
   have c1 : w2.cell? ⟨bw, 0, none⟩ = some v := cell_of_one q1
   have hbl : bw < w2.heap.size := (Array.getElem?_eq_some_iff.1 q1).1
   obtain ⟨gw, cw, hv⟩ : ∃ gw cw, v = .slice (some ⟨gw, 0, none⟩) m cw := by
    have h0 : 0 < (zN p).length := by
     by_cases hp : p < 128
     ·rw [yH hp]; simp
     ·rw [numS_big hp]; simp
    rcases zV q2 with ⟨_, e⟩ | ⟨gw, cw, e, _⟩
    ·simp only [List.length_append] at e; omega
    ·exact ⟨gw, cw, by rw [e, hm]⟩
   subst hv
   have HOWN : Hid ((w2.alloc (.cells #[.int .u8 (c.toNat : Int)] 5)).drew.ownsRow B 5 1 (.slice (some ⟨gw, 0, none⟩) m cw) m ((zs ++ zN p).map zT)) := zB (by have := q2.alloc (.cells #[.int .u8 (c.toNat : Int)] 5); rw [hm] at this; exact this)
   have HNEW : Hid (∀ j u, [Value.int .u8 (c.toNat : Int)][j]? = some u -> (w2.alloc (.cells #[.int .u8 (c.toNat : Int)] 5)).drew.cell? ((⟨w2.heap.size, 0, none⟩ : Addr).add j) = some u) := zB (World.news_of_block (one_new (w := w2)))
   have HK : Hid (∀ w3 g' cap', w3.ownsRow B 5 1 (.slice (some ⟨g', 0, none⟩) (m + 1) cap') (m + 1) ((zs ++ zN p).map zT ++ [.int .u8 (c.toNat : Int)]) -> (w2.alloc (.cells #[.int .u8 (c.toNat : Int)] 5)).drew.grownBy w3 (some gw) -> (some gw = some g' \/ g' = w2.heap.size + 1) -> Wr B (w3.setCell ⟨bw, 0, none⟩ (.slice (some ⟨g', 0, none⟩) (m + 1) cap')) bw ((zs ++ zN p) ++ [c]) /\ Below B w2 (w3.setCell ⟨bw, 0, none⟩ (.slice (some ⟨g', 0, none⟩) (m + 1) cap')) /\ w3.cell? ⟨bw, 0, none⟩ = some (.slice (some ⟨gw, 0, none⟩) m cw) /\ w3.frozen? ⟨bw, 0, none⟩ = false /\ yv w2 (w3.setCell ⟨bw, 0, none⟩ (.slice (some ⟨g', 0, none⟩) (m + 1) cap'))) := zB (by
    intro w3 g' cap' h1 h2 h3
    subst hm
    exact Wr.moreD (ys := [c]) hB2 q1 q2 hge h1 h2 h3)
   have HBX := zB hbx
   have HFN : Hid (∀ W, Wr B W bw ((zs ++ zN p) ++ [c]) -> B <= W.heap.size -> Calls Tryz.prog 98 #[.pointer (some ⟨bw, 0, none⟩), .int .i64 (f : Nat)] W (yt B W bw ((zs ++ zN p) ++ [c]) (zN f))) := zB fun W h1 h2 => yn B bw _ f W h1 h2 (by omega) (by simp only [List.length_append, List.length_singleton]; omega)
   have HC2 : Hid (∀ W : World, yv w2 W -> W.cell? ⟨w1.heap.size, 2, none⟩ = some (.int .i64 (f : Int))) := zB fun W hk => by
    have := (hk _ _ _ hbx (by decide) (by decide)).trans hbx
    rw [zC this]; rfl
   clear q1 q2 hm hbx
   go_region_law (refine step_append_lies _ rfl (.tmp 27) (.tmp 30) 27 rfl B 5 i0 _ 1 1 Tryz.underlying27 hi hz0 hz1 hz2 rfl (by decide) _ m ((zs ++ zN p).map zT) (by simp [Act.eval]) (zA HOWN) ⟨w2.heap.size, 0, none⟩ 1 1 [.int .u8 (c.toNat : Int)] (by simp [Act.eval]) rfl (zA HNEW) (by intro u hu; simp at hu; subst hu; rfl) (by omega) (by unfold maxLen; omega) (by omega) (by simp; omega) _ rfl ?_; intro g' cap' w3 hown' hgrow hat hlt'; obtain ⟨k1, k2, k3, k4, k5⟩ := zA HK w3 g' cap' hown' hgrow (by simpa [Value.ownBlock] using hat); have HK1 := zB k1; have HK2 := zB k2; have c6 := zA HC2 _ k5; have HK5 := zB k5; clear hown' hgrow hat k1 k2 k5)
   all_goals go_wp2_with (go_at_call 98; refine (zA HFN _ (zA HK1) (Nat.le_trans hB2 (zA HK2).size)).mono ?_; rintro e w4 ⟨rfl, H4, B4, K4⟩)
   all_goals go_roundw
   all_goals try case measure => simp [intOf]; omega
   all_goals
    case rel =>
     have e1 : Below B wr w2 := ((zA HB1).mono hBr).trans (((Below.refl _ _).alloc (Nat.le_trans hBr hs1) _).trans (zA B2))
     have e2 : yv wr w2 := (yv.below (zA HB1)).trans ((yv.below ((Below.refl _ _).alloc (Nat.le_refl _) _)).trans (zA K2))
     exact ⟨k + 1, by go_num, by omega, by omega, zB (by have := zA H4; rw [zA HNX]; rw [zA HZ] at this; simp only [List.append_assoc] at this ⊢; exact this), zB ((zA HB).trans (e1.trans ((zA HK2).trans (zA B4)))), zB ((zA H8).trans (e2.trans ((zA HK5).trans (zA K4))))⟩
  ·obtain rfl : k = S.length := by omega
   go_wp2_with (go_at_call 38; refine (zA HL1).mono ?_; rintro e w' ⟨rfl, hw'⟩; obtain rfl := hw'.symm)
   go_end0
   exact ⟨rfl, HW, HB, H8⟩
end Go.Proofs.YtfpohfifdfbpkaaGreatDoor
namespace Go.Proofs.YtfpohfifdfbpkaaGreatDoor
open Go.RowKit Scour Go.Lib
theorem Wr.moreV {B : Nat} {w w1 : World} {bw : Nat} {xs ys : Str} {v v' : Value} (hB : B <= w.heap.size) (hbw : w.heap[bw]? = some (.cells #[v] 113 (0, 0))) (hr : w.ownsRow B 5 1 v xs.length (xs.map zT)) (hge : B <= bw)
  (ho : w1.ownsRow B 5 1 v' (xs.length + ys.length) (xs.map zT ++ ys.map zT)) (hg : w.grownBy w1 v.ownBlock) :
  Wr B (w1.setCell ⟨bw, 0, none⟩ v') bw (xs ++ ys) /\ Below B w (w1.setCell ⟨bw, 0, none⟩ v') /\ w1.cell? ⟨bw, 0, none⟩ = some v /\ w1.frozen? ⟨bw, 0, none⟩ = false /\ yv w (w1.setCell ⟨bw, 0, none⟩ v') := by
 have hl := (Array.getElem?_eq_some_iff.1 hbw).1
 have hne : v.ownBlock ≠ some bw := fun e => by
  obtain ⟨cu, hcu⟩ := zD hr e
  exact zH hcu hbw (by decide) rfl
 have hb1 : w1.heap[bw]? = some (.cells #[v] 113 (0, 0)) := by
  rw [hg.block bw hl (fun e => hne e.symm)]; exact hbw
 have hba : Below B w w1 := zG hg hB (yN hr)
 refine ⟨⟨⟨_, one_setCell hb1, ?_⟩, hge⟩, hba.trans ?_, cell_of_one hb1, free_of_one hb1, ?_⟩
 ·rw [List.map_append, List.length_append]
  refine zE ho (fun b _ hv => ?_)
  obtain ⟨cu, hcu⟩ := zD ho hv
  exact Below.heap_setCell w1 ⟨bw, 0, none⟩ _ b (zH hcu hb1 (by decide))
 ·have hs := hba.size
  exact (Mod.setCell w1 bw 0 _).below (by omega) (fun k e => by rw [e]; exact hge)
 ·intro k cur e hk h1 h2
  have hkl := (Array.getElem?_eq_some_iff.1 hk).1
  rw [Below.heap_setCell w1 ⟨bw, 0, none⟩ _ k (zH hk hbw h2), hg.block k hkl (fun e1 => ?_)]
  obtain ⟨cu, hcu⟩ := zD hr e1.symm
  exact zH hk hcu h1 rfl
theorem numS_pos (n : Nat) : 0 < (zN n).length := by
 by_cases hp : n < 128
 ·rw [yH hp]; simp
 ·rw [numS_big hp]; simp
theorem owns_some {w : World} {base e s n : Nat} {v : Value} {xs : List Value} (h : w.ownsRow base e s v n xs) (hn : 0 < n) : ∃ g cap, v = .slice (some ⟨g, 0, none⟩) n cap := by
 rcases zV h with ⟨_, h0⟩ | ⟨g, cap, e, _⟩
 ·omega
 ·exact ⟨g, cap, e⟩
set_option maxHeartbeats 8000000 in
set_option maxRecDepth 100000 in
theorem wclasses_any (B bw : Nat) (xs c : Str) (vC : Value) (w : World) (h : Wr B w bw xs) (hB : B <= w.heap.size) (hC : w.ownsRow 0 5 1 vC c.length (c.map zT)) (hCB : ∀ b, vC.ownBlock = some b -> b < B) (hc : c.length <= 256) (hx : xs.length < 100000000) :
  Calls Tryz.prog 54 #[.pointer (some ⟨bw, 0, none⟩), vC] w (yt B w bw xs (zN c.length ++ c)) := by
 obtain ⟨i0, hi, hz0, hz1, hz2⟩ := info_parts Tryz.infoB
 obtain ⟨aC, cC, hvC⟩ : ∃ aC cC, vC = .slice aC c.length cC := by
  rcases zV hC with ⟨h1, h2⟩ | ⟨g, cc, h1, _⟩
  ·exact ⟨none, 0, by rw [h1, h2]⟩
  ·exact ⟨_, cc, h1⟩
 subst hvC
 unfold yt
 have hl4 := zj c.length (by omega)
 have HC0 := zB (yn B bw xs c.length w h hB (by omega) (by omega))
 have HNL : Hid (aC = none -> cC = 0 /\ c.map zT = []) := zB fun e => by
  rcases zV hC with ⟨h1, h2⟩ | ⟨g, cc, h1, _⟩
  ·simp only [Value.slice.injEq] at h1
   exact ⟨h1.2.2, by rw [List.length_eq_zero_iff.1 h2]; rfl⟩
  ·subst e; simp at h1
 have HSR : Hid (∀ w0, Below B w w0 -> ∀ ad, aC = some ad -> ∀ j u, (c.map zT)[j]? = some u -> w0.cell? (ad.add j) = some u) := zB fun w0 hb ad ha j u hu => by
  have hC0 : w0.ownsRow 0 5 1 (.slice aC c.length cC) c.length (c.map zT) := zE hC (fun b _ hv => hb.block b (hCB b hv))
  rcases zV hC0 with ⟨h1, h2⟩ | ⟨g, cc, h1, _⟩
  ·simp only [Value.slice.injEq] at h1; rw [h1.1] at ha; cases ha
  ·simp only [Value.slice.injEq] at h1
   rw [h1.1] at ha hC0
   obtain rfl := Option.some.inj ha
   have hj : j < c.length := by
    have := (List.getElem?_eq_some_iff.1 hu).1
    simpa using this
   have := hC0.cellAt j (by omega)
   rw [hu] at this
   have e3 : (⟨g, 0, none⟩ : Addr).add j = ⟨g, j, none⟩ := by
    unfold Addr.add
    split
    ·rename_i e0; simp_all
    ·simp
   rw [e3]; exact this
 have hcl : (c.map zT).length = c.length := by simp
 have hoc : ∀ u ∈ c.map zT, u.oneCell' = true := fun u hu => by
  obtain ⟨x, _, rfl⟩ := List.mem_map.1 hu; rfl
 have HOC := zB hoc
 clear h hC hCB hoc
 go_enter Tryz.func54, Tryz.ntmps54
 have HK : Hid (∀ (w0 w1 : World) (v v' : Value), Hid (Below B w w0) -> w0.heap[bw]? = some (.cells #[v] 113 (0, 0)) -> w0.ownsRow B 5 1 v (xs ++ zN c.length).length ((xs ++ zN c.length).map zT) -> B <= bw -> w1.ownsRow B 5 1 v' ((xs ++ zN c.length).length + c.length) ((xs ++ zN c.length).map zT ++ c.map zT) -> w0.grownBy w1 v.ownBlock -> Wr B (w1.setCell ⟨bw, 0, none⟩ v') bw (xs ++ (zN c.length ++ c)) /\ Below B w0 (w1.setCell ⟨bw, 0, none⟩ v') /\ w1.cell? ⟨bw, 0, none⟩ = some v /\ w1.frozen? ⟨bw, 0, none⟩ = false /\ yv w0 (w1.setCell ⟨bw, 0, none⟩ v')) := zB fun w0 w1 v v' hb h1 h2 h3 h4 h5 => by
  have := Wr.moreV (Nat.le_trans hB (zA hb).size) h1 h2 h3 h4 h5
  rw [List.append_assoc] at this
  exact this
 have hlz : (xs ++ zN c.length).length < 200000000 := by rw [List.length_append]; omega
 have hpos : 0 < (xs ++ zN c.length).length := by
  have := numS_pos c.length
  rw [List.length_append]; omega
 obtain ⟨zs, hzs⟩ : ∃ zs, zs = xs ++ zN c.length := ⟨_, rfl⟩
 rw [← hzs] at HK hlz hpos
 have HZ := zB hzs
 clear hzs
 generalize hcm : c.map zT = cm at *
 clear hcm
 go_wp2_with (first | (go_at_call 98; refine (zA HC0).mono ?_; rintro e w0 ⟨rfl, H0, B0, K0⟩; rw [← zA HZ] at H0; obtain ⟨v, q1, q2⟩ := (zA H0).ex; have c1 : w0.cell? ⟨bw, 0, none⟩ = some v := cell_of_one q1; have hbl : bw < w0.heap.size := (Array.getElem?_eq_some_iff.1 q1).1; have HQ1 := zB q1; have HQ2 := zB q2; clear q1 q2) | (at_builtin; go_loud (refine yz rfl (.tmp 12) (.tmp 13) 27 rfl B 5 i0 _ 1 1 Tryz.underlying27 hi hz0 hz1 hz2 rfl (by decide) v zs.length (zs.map zT) rfl (zA HQ2) aC c.length cC cm rfl (zA HNL) (by omega) (zA HSR w0 (zA B0)) (zA HOC) (by unfold maxLen; omega) (by omega) (Nat.le_trans hB (zA B0).size) ?_); intro v' w1 ho hg; obtain ⟨g', cap', rfl⟩ := owns_some ho (by omega); obtain ⟨k1, k2, k3, k4, k5⟩ := zA HK w0 w1 v _ B0 (zA HQ1) (zA HQ2) (zA H0).ge ho hg; have HK1 := zB k1; have HK2 := zB k2; have HK5 := zB k5; clear ho hg k1 k2 k5))
 go_end0
 exact ⟨rfl, HK1, zB ((zA B0).trans (zA HK2)), zB ((zA K0).trans (zA HK5))⟩
end Go.Proofs.YtfpohfifdfbpkaaGreatDoor
