import Derived.Test.YtfpohfifdfbpkaaGreatDoorLawW
import Derived.Test.YtfpohfifdfbpkaaGreatDoorFeedR
namespace Go.Proofs.YtfpohfifdfbpkaaGreatDoor
open Go.RowKit Scour Go.Lib
theorem Tryz.infoMt : (Tryz.prog.info? 49).map (fun i => (i.zero, i.size, i.bytes)) = some (some (.agg #[.int .i64 0, .int .i64 0]), 2, 16) := by kernel_rfl
theorem Tryz.infoML : (Tryz.prog.info? 42).map (fun i => (i.zero, i.size, i.bytes)) = some (some (.slice none 0 0), 1, 24) := by kernel_rfl
theorem mxs_again (i : Nat) : Again (mxs i) 2 := fun j => by unfold mxs; rw [show (j + 2) % 2 = j % 2 by omega]
theorem mxs_one (i j : Nat) : (mxs i j).oneCell' = true := rfl
theorem mxs_even (i k : Nat) : mxs i (k * 2) = .int .i64 (-1000 - ((i / 4 : Nat) : Int)) := by unfold mxs; rw [if_pos (by omega)]
theorem mxs_odd (i k : Nat) : mxs i (k * 2 + 1) = .int .i64 0 := by unfold mxs; rw [if_neg (by omega)]
theorem zx.box {e : TypeId} {x : Nat -> Value} {P : Nat -> Prop} {w w' : World} (h : zx e x P w w') {B : Nat} {cur : Array Value} (hB : w.heap[B]? = some (.cells cur e (0, 0))) (hP : P B) {j : Nat} (hj : cur[j]? = some (x j)) : w'.cell? ⟨B, j, none⟩ = some (x j) := by
 obtain ⟨cur', h1, _, h3⟩ := h.ins B cur hP hB
 rw [zC h1]
 rcases h3 j with g | g
 ·rw [g]; exact hj
 ·exact g.2
def mkTo (x : Nat -> Value) (xs : List Value) (k : Nat) : List Value := yX x (k * 2) ++ xs.drop (k * 2)
theorem mkTo_set (x : Nat -> Value) (xs : List Value) (k : Nat) (h : k * 2 + 1 < xs.length) : ((mkTo x xs k).set (k * 2) (x (k * 2))).set (k * 2 + 1) (x (k * 2 + 1)) = mkTo x xs (k + 1) := by
 apply List.ext_getElem?
 intro j
 have hg : ∀ k, (mkTo x xs k)[j]? = if j < k * 2 then some (x j) else xs[j]? := fun k => by
  unfold mkTo
  rw [List.getElem?_append, yP, xcells_get]
  by_cases h1 : j < k * 2
  ·rw [if_pos h1, if_pos h1, if_pos h1]
  ·rw [if_neg h1, if_neg h1, List.getElem?_drop]; congr 1; omega
 have hl : (mkTo x xs k).length = xs.length := by unfold mkTo; rw [List.length_append, yP, List.length_drop]; omega
 rw [List.getElem?_set, List.getElem?_set, hg, hg, List.length_set, hl]
 by_cases h1 : k * 2 + 1 = j
 ·subst h1; rw [if_pos rfl, if_pos h, if_pos (by omega)]
 ·rw [if_neg h1]
  by_cases h2 : k * 2 = j
  ·subst h2; rw [if_pos rfl, if_pos (by omega), if_pos (by omega)]
  ·rw [if_neg h2]
   by_cases h3 : j < k * 2
   ·rw [if_pos h3, if_pos (by omega)]
   ·rw [if_neg h3, if_neg (by omega)]
set_option maxHeartbeats 4000000 in
set_option maxRecDepth 100000 in
theorem keepsM_any (bk : Nat) (cs : Array Value) (ty : Nat) (vma : Value) (E : List Sl) (s : Sl) (xs : List Value) (w : World) (hbk : w.heap[bk]? = some (.cells cs ty (0, 0))) (hcs : cs[4]? = some vma) (hty1 : ty ≠ 49) (hty2 : ty ≠ 42)
  (hma : w.ownsRow 0 42 1 vma E.length (E.map Sl.val)) (hs : w.ownsRow 0 49 2 s.val s.n xs) (hE : E.length < 1000000000000) (hsn : s.n < 1000000000000) :
  Calls Tryz.prog 92 #[.pointer (some ⟨bk, 2, none⟩), s.val] w fun e w' => e = .returned (.tuple #[]) /\ ∃ s1 s2 s3 vma', Kept4G w w' bk 4 cs ty 42 49 2 vma E s (mxs E.length) s1 s2 s3 vma' := by
 obtain ⟨i0, hi, hz0, hz1, hz2⟩ := info_parts Tryz.infoML
 obtain ⟨j0, hj, hy0, hy1, hy2⟩ := info_parts Tryz.infoMt
 have hbl := (Array.getElem?_eq_some_iff.1 hbk).1
 have HPB : Hid (¬ (s.val.ownBlock = some bk \/ w.heap.size <= bk)) := zB (by
  rintro (h | h)
  ·obtain ⟨cur, hc⟩ := zD hs h; exact zH hbk hc hty1 rfl
  ·omega)
 have HPV : Hid (∀ b, vma.ownBlock = some b -> ¬ (s.val.ownBlock = some b \/ w.heap.size <= b)) := zB (by
  intro b hb
  obtain ⟨cur, hc⟩ := zD hma hb
  rintro (h | h)
  ·obtain ⟨cur2, hc2⟩ := zD hs h; exact zH hc hc2 (by decide) rfl
  ·have := (Array.getElem?_eq_some_iff.1 hc).1; omega)
 have hcl : 4 < cs.size := (Array.getElem?_eq_some_iff.1 hcs).1
 obtain ⟨P, hP⟩ : ∃ P : Nat -> Prop, P = fun b => s.val.ownBlock = some b \/ w.heap.size <= b := ⟨_, rfl⟩
 have HPI : Hid (∀ b, P b ↔ (s.val.ownBlock = some b \/ w.heap.size <= b)) := zB (fun b => by rw [hP])
 have HPE := zB hP
 clear hP
 obtain ⟨ao, n, c⟩ := s
 simp only [Sl.val] at *
 have c0 : w.cell? ⟨bk, 4, none⟩ = some vma := by rw [zC hbk]; exact hcs
 obtain ⟨ama, cma, hvma⟩ : ∃ ama cma, vma = .slice ama E.length cma := by
  rcases hma.2 with ⟨h, h0⟩ | ⟨g, cap, cur, h, _⟩
  ·exact ⟨none, 0, by rw [h, h0]⟩
  ·exact ⟨_, cap, h⟩
 subst hvma
 have HBK := zB hbk
 have HMA := zB hma
 have HS := zB hs
 have HCS := zB hcs
 have HMK : Hid ((-1000 : Int) - (E.length : Int) / 4 = -1000 - ((E.length / 4 : Nat) : Int)) := zB (by omega)
 clear hbk hma hs hcs
 go_enter Tryz.func92, Tryz.ntmps92
 go_wp2_with fail
 rw [zA HMK]
 have HX0 : Hid (∀ k, mxs E.length (k * 2) = .int .i64 (-1000 - ((E.length / 4 : Nat) : Int))) := zB (fun k => mxs_even _ k)
 have HX1 : Hid (∀ k, mxs E.length (k * 2 + 1) = .int .i64 0) := zB (fun k => mxs_odd _ k)
 have HAG := zB (mxs_again E.length)
 have HO1 := zB (mxs_one E.length)
 generalize hmk : (-1000 - ((E.length / 4 : Nat) : Int)) = mk at *
 obtain ⟨x, hxx⟩ : ∃ x, x = mxs E.length := ⟨_, rfl⟩
 rw [← hxx] at HX0 HX1 HAG HO1
 have HXX := zB hxx
 clear hxx
 have HB0 : Hid ((w.alloc (.cells #[.int .i64 mk, .int .i64 0] 49)).heap[w.heap.size]? = some (.cells #[.int .i64 mk, .int .i64 0] 49 (0, 0))) := zB (heap_alloc_new w _)
 have HMS0 : Hid (zx 49 x P w (w.alloc (.cells #[.int .i64 mk, .int .i64 0] 49))) := zB ((zx.refl _ _ _ _).alloc _)
 have HS0 : Hid ((w.alloc (.cells #[.int .i64 mk, .int .i64 0] 49)).ownsRow 0 49 2 (.slice ao n c) n xs) := zB ((zA HS).alloc _)
 have hsz0 : (w.alloc (.cells #[.int .i64 mk, .int .i64 0] 49)).heap.size = w.heap.size + 1 := by simp
 have hmkb : -1000000000000 <= mk /\ mk <= 0 := by omega
 clear hmk c0 HMK
 generalize hW0 : w.alloc (.cells #[.int .i64 mk, .int .i64 0] 49) = w0 at *
 have HW0 := zB hW0
 clear hW0
 go_loopw [5] (fun v wr => ∃ k : Nat, v = .int .i64 k /\ k <= n /\ Hid (wr.ownsRow 0 49 2 (.slice ao n c) n (mkTo x xs k)) /\ Hid (zx 49 x P w0 wr)) (fun v _ => n - (intOf v).toNat)
 case atStart => exact ⟨0, rfl, Nat.zero_le _, zB (by unfold mkTo; simpa [yX] using zA HS0), zB (zx.refl _ _ _ _)⟩
 case round =>
  obtain ⟨k, rfl, hk, HR, HM⟩ := hrel
  have hxl : xs.length = n * 2 := (zA HS).1
  have HPB0 : Hid (P w.heap.size) := zB ((zA HPI _).2 (Or.inr (Nat.le_refl _)))
  have b0 : wr.cell? ⟨w.heap.size, 0, none⟩ = some (.int .i64 mk) := by
   have := (zA HM).box (zA HB0) (zA HPB0) (j := 0) (by have := zA HX0 0; simp at this; simp [this])
   rw [this]; have := zA HX0 0; simp at this; rw [this]
  have b1 : wr.cell? ⟨w.heap.size, 1, none⟩ = some (.int .i64 0) := by
   have := (zA HM).box (zA HB0) (zA HPB0) (j := 1) (by have := zA HX1 0; simp at this; simp [this])
   rw [this]; have := zA HX1 0; simp at this; rw [this]
  by_cases hlt : k < n
  ·obtain ⟨g, cg, hv, _, _⟩ := (zA HR).form (by omega)
   obtain ⟨rfl, rfl⟩ : ao = some ⟨g, 0, none⟩ /\ c = cg := by simpa using hv
   obtain ⟨cur, hcur⟩ := zK (zA HR)
   have i1 : (k : Int) < (n : Int) := by omega
   have hml : (mkTo x xs k).length = xs.length := by unfold mkTo; rw [List.length_append, yP, List.length_drop]; omega
   obtain ⟨u0, c1⟩ : ∃ u, wr.cell? ⟨g, k * 2, none⟩ = some u := by
    rw [(zA HR).cellAt (k * 2) (by omega)]
    exact ⟨_, List.getElem?_eq_getElem (by omega)⟩
   obtain ⟨u1, c2⟩ : ∃ u, wr.cell? ⟨g, k * 2 + 1, none⟩ = some u := by
    rw [(zA HR).cellAt (k * 2 + 1) (by omega)]
    exact ⟨_, List.getElem?_eq_getElem (by omega)⟩
   have f1 : wr.frozen? ⟨g, k * 2, none⟩ = false := (zA HR).frozenAt (k * 2)
   have f2 : wr.frozen? ⟨g, k * 2 + 1, none⟩ = false := (zA HR).frozenAt (k * 2 + 1)
   have HR2 : Hid (((wr.setCell ⟨g, k * 2, none⟩ (.int .i64 mk)).setCell ⟨g, k * 2 + 1, none⟩ (.int .i64 0)).ownsRow 0 49 2 (.slice (some ⟨g, 0, none⟩) n c) n (mkTo x xs (k + 1))) := zB (by
    have h1 := ((zA HR).stored (k * 2) (.int .i64 mk)).1
    have h2 := (h1.stored (k * 2 + 1) (.int .i64 0)).1
    rw [← zA HX0 k, ← zA HX1 k, mkTo_set x xs k (by omega)] at h2
    rw [← zA HX0 k, ← zA HX1 k]
    exact h2)
   have HM2 : Hid (zx 49 x P w0 ((wr.setCell ⟨g, k * 2, none⟩ (.int .i64 mk)).setCell ⟨g, k * 2 + 1, none⟩ (.int .i64 0))) := zB (by
    have hp := (zA HPI g).2 (Or.inl rfl)
    have h1 := mstepG_setCell (x := x) wr g (k * 2) cur hcur hp
    have h2 := mstepG_setCell (x := x) (wr.setCell ⟨g, k * 2, none⟩ (x (k * 2))) g (k * 2 + 1) _ (heap_setCell_same wr g (k * 2) _ _ _ hcur) hp
    rw [zA HX1 k] at h2
    rw [zA HX0 k] at h1 h2
    exact ((zA HM).trans h1).trans h2)
   clear hv hcur hml
   go_wp2
   go_roundw
   case rel => exact ⟨k + 1, by go_num, hlt, HR2, HM2⟩
   case measure => simp [intOf]; omega
  ·obtain rfl : k = n := by omega
   have HM0 : Hid (jP wr 49 2 x P ⟨ao, k, c⟩) := zB ⟨by
    have := zA HR
    unfold mkTo at this
    rw [List.drop_of_length_le (by omega), List.append_nil] at this
    exact this, fun b hb => (zA HPI b).2 (Or.inl hb)⟩
   have hszr := (zA HM).size
   have HNEW : Hid (∀ b, w.heap.size <= b -> P b) := zB (fun b hb => (zA HPI b).2 (Or.inr hb))
   have i1 : ¬ (k : Int) < (k : Int) := by omega
   have HBX : Hid (∀ W, zx 49 x P w0 W -> W.cell? ⟨w.heap.size, 0, none⟩ = some (.int .i64 mk) /\ W.cell? ⟨w.heap.size, 1, none⟩ = some (.int .i64 0)) := zB (fun W hW => by
    have e0 := zA HX0 0
    have e1 := zA HX1 0
    simp at e0 e1
    refine ⟨?_, ?_⟩
    ·rw [hW.box (zA HB0) (zA HPB0) (j := 0) (by simp [e0]), e0]
    ·rw [hW.box (zA HB0) (zA HPB0) (j := 1) (by simp [e1]), e1])
   have HC1 : Hid (yX x (1 * 2) = [.int .i64 mk, .int .i64 0]) := zB (by
    have e0 := zA HX0 0
    have e1 := zA HX1 0
    simp at e0 e1
    simp [yX, List.range, List.range.loop, e0, e1])
   have HC2 : Hid (yX x (2 * 2) = [.int .i64 mk, .int .i64 0, .int .i64 mk, .int .i64 0]) := zB (by
    have := xcells_add (zA HAG) 1 1
    rw [show 2 * 2 = (1 + 1) * 2 from rfl, ← this, zA HC1]; rfl)
   have HC3 : Hid (yX x (3 * 2) = [.int .i64 mk, .int .i64 0, .int .i64 mk, .int .i64 0, .int .i64 mk, .int .i64 0]) := zB (by
    have := xcells_add (zA HAG) 2 1
    rw [show 3 * 2 = (2 + 1) * 2 from rfl, ← this, zA HC1, zA HC2]; rfl)
   have HMW : Hid (∀ W, zx 49 x P w0 W -> zx 49 x P w W) := zB (fun W hW => (zA HMS0).trans hW)
   have HSTART : Hid (∀ W, zx 49 x P w0 W -> zw W W bk 4 cs ty 42 1 (.slice ama E.length cma) (.slice ama E.length cma) E.length (E.map Sl.val)) := zB (fun W hW0 => by
    have hW := zA HMW W hW0
    refine zw.start ((hW.out bk hbl (fun h => zA HPB ((zA HPI bk).1 h))).trans (zA HBK)) (zA HCS) ?_
    have hby := zA HMA
    refine ⟨hby.1, ?_⟩
    rcases hby.2 with g | ⟨g, cap, cur, hv, h2, h3, h4⟩
    ·exact Or.inl g
    ·exact Or.inr ⟨g, cap, cur, hv, h2, (hW.out g (Array.getElem?_eq_some_iff.1 h3).1 (fun h => zA HPV g (by rw [hv]; rfl) ((zA HPI g).1 h))).trans h3, h4⟩)
   go_wp2_with (first | (at_builtin; refine wpList_append_marksG _ rfl (.tmp 27) (.tmp 29) 42 rfl 49 j0 (.agg #[.int .i64 0, .int .i64 0]) 2 16 Tryz.underlying42 hj hy0 hy1 hy2 rfl (by decide) x (zA HAG) (zA HO1) P ⟨ao, k, c⟩ rfl ((zA HM0).step ((zx.refl _ _ _ _).alloc _)) (fun b hb => zA HNEW b (by simp at hb; omega)) ⟨wr.heap.size, 0, none⟩ 1 1 rfl (by rw [zA HC1]; exact World.news_of_block (heap_alloc_new wr _)) (by decide) (by simp only [maxLen]; omega) (by simp only []; omega) ?_; intro ao1 cc1 w1 m1 st1; have hz1' := st1.size; simp only [World.alloc, Array.size_push] at hz1'; have ST1 := (zx.refl 49 x P wr).alloc (.cells #[.int .i64 mk, .int .i64 0] 49); have HM01 := zB (((zA HM0).step ST1).step st1); have HM11 := zB m1; have HW1 := zB (((zA HM).trans ST1).trans st1); have b01 := (zA HBX w1 (zA HW1)).1; have b11 := (zA HBX w1 (zA HW1)).2; clear m1 st1 ST1) | (at_builtin; refine wpList_append_marksG _ rfl (.tmp 31) (.tmp 34) 42 rfl 49 j0 (.agg #[.int .i64 0, .int .i64 0]) 2 16 Tryz.underlying42 hj hy0 hy1 hy2 rfl (by decide) x (zA HAG) (zA HO1) P ⟨ao, k, c⟩ rfl ((zA HM01).step ((zx.refl _ _ _ _).alloc _)) (fun b hb => zA HNEW b (by simp at hb; omega)) ⟨w1.heap.size, 0, none⟩ 2 2 rfl (by rw [zA HC2]; exact World.news_of_block (heap_alloc_new w1 _)) (by decide) (by simp only [maxLen]; omega) (by simp only []; omega) ?_; intro ao2 cc2 w2 m2 st2; have hz2' := st2.size; simp only [World.alloc, Array.size_push] at hz2'; have ST2 := (zx.refl 49 x P w1).alloc (.cells #[.int .i64 mk, .int .i64 0, .int .i64 mk, .int .i64 0] 49); have HM02 := zB (((zA HM01).step ST2).step st2); have HM12 := zB (((zA HM11).step ST2).step st2); have HM22 := zB m2; have HW2 := zB (((zA HW1).trans ST2).trans st2); have b02 := (zA HBX w2 (zA HW2)).1; have b12 := (zA HBX w2 (zA HW2)).2; clear m2 st2 ST2) | (at_builtin; refine wpList_append_marksG _ rfl (.tmp 36) (.tmp 40) 42 rfl 49 j0 (.agg #[.int .i64 0, .int .i64 0]) 2 16 Tryz.underlying42 hj hy0 hy1 hy2 rfl (by decide) x (zA HAG) (zA HO1) P ⟨ao, k, c⟩ rfl ((zA HM02).step ((zx.refl _ _ _ _).alloc _)) (fun b hb => zA HNEW b (by simp at hb; omega)) ⟨w2.heap.size, 0, none⟩ 3 3 rfl (by rw [zA HC3]; exact World.news_of_block (heap_alloc_new w2 _)) (by decide) (by simp only [maxLen]; omega) (by simp only []; omega) ?_; intro ao3 cc3 w3 m3 st3; have hz3' := st3.size; simp only [World.alloc, Array.size_push] at hz3'; have ST3 := (zx.refl 49 x P w2).alloc (.cells #[.int .i64 mk, .int .i64 0, .int .i64 mk, .int .i64 0, .int .i64 mk, .int .i64 0] 49); have HM03 := zB (((zA HM02).step ST3).step st3); have HM13 := zB (((zA HM12).step ST3).step st3); have HM23 := zB (((zA HM22).step ST3).step st3); have HM33 := zB m3; have HW3 := zB (((zA HW2).trans ST3).trans st3); clear m3 st3 ST3; have HR3 := zB (zA HSTART w3 (zA HW3)); have c3 := (zA HR3).cell hcl) | (at_builtin; refine wpList_append_lies _ rfl (.tmp 46) (.tmp 48) 64 rfl 0 42 i0 (.slice none 0 0) 1 24 Tryz.underlying64 hi hz0 hz1 hz2 rfl (by decide) _ (E.length) (E.map Sl.val) rfl ((zA HR3).ready #[.slice ao k c] w3.heap.size rfl).1 ⟨w3.heap.size, 0, none⟩ 1 1 [.slice ao k c] rfl rfl ((zA HR3).ready #[.slice ao k c] w3.heap.size rfl).2 (by intro u hu; simp at hu; subst hu; rfl) (by omega) (by unfold maxLen; omega) (by omega) (Nat.zero_le _) (w3.heap.size + 1) (by simp) ?_; intro g4 cg4 w4 ho4 hg4 hat4 hl4; obtain ⟨c4, f4⟩ := (zA HR3).behind hty2 hcl _ hg4; have HR4 := zB ((zA HR3).step hty2 #[.slice ao k c] w3.heap.size rfl ho4 hg4 hat4); have d4 := (zA HR4).cell hcl; clear ho4 hg4 hat4 hl4) | (at_builtin; refine wpList_append_lies _ rfl (.tmp 56) (.tmp 58) 64 rfl 0 42 i0 (.slice none 0 0) 1 24 Tryz.underlying64 hi hz0 hz1 hz2 rfl (by decide) _ (E.length + 1) _ rfl ((zA HR4).ready #[.slice ao1 (k + 1) cc1] w4.heap.size (by simp [World.setCell])).1 ⟨w4.heap.size, 0, none⟩ 1 1 [.slice ao1 (k + 1) cc1] rfl rfl ((zA HR4).ready #[.slice ao1 (k + 1) cc1] w4.heap.size (by simp [World.setCell])).2 (by intro u hu; simp at hu; subst hu; rfl) (by omega) (by unfold maxLen; omega) (by omega) (Nat.zero_le _) (w4.heap.size + 1) (by simp [World.setCell]) ?_; intro g5 cg5 w5 ho5 hg5 hat5 hl5; obtain ⟨c5, f5⟩ := (zA HR4).behind hty2 hcl _ hg5; have HR5 := zB ((zA HR4).step hty2 #[.slice ao1 (k + 1) cc1] w4.heap.size (by simp [World.setCell]) ho5 hg5 hat5); have d5 := (zA HR5).cell hcl; clear ho5 hg5 hat5 hl5) | (at_builtin; refine wpList_append_lies _ rfl (.tmp 66) (.tmp 68) 64 rfl 0 42 i0 (.slice none 0 0) 1 24 Tryz.underlying64 hi hz0 hz1 hz2 rfl (by decide) _ (E.length + 1 + 1) _ rfl ((zA HR5).ready #[.slice ao2 (k + 2) cc2] w5.heap.size (by simp [World.setCell])).1 ⟨w5.heap.size, 0, none⟩ 1 1 [.slice ao2 (k + 2) cc2] rfl rfl ((zA HR5).ready #[.slice ao2 (k + 2) cc2] w5.heap.size (by simp [World.setCell])).2 (by intro u hu; simp at hu; subst hu; rfl) (by omega) (by unfold maxLen; omega) (by omega) (Nat.zero_le _) (w5.heap.size + 1) (by simp [World.setCell]) ?_; intro g6 cg6 w6 ho6 hg6 hat6 hl6; obtain ⟨c6, f6⟩ := (zA HR5).behind hty2 hcl _ hg6; have HR6 := zB ((zA HR5).step hty2 #[.slice ao2 (k + 2) cc2] w5.heap.size (by simp [World.setCell]) ho6 hg6 hat6); have d6 := (zA HR6).cell hcl; clear ho6 hg6 hat6 hl6) | (at_builtin; refine wpList_append_lies _ rfl (.tmp 76) (.tmp 78) 64 rfl 0 42 i0 (.slice none 0 0) 1 24 Tryz.underlying64 hi hz0 hz1 hz2 rfl (by decide) _ (E.length + 1 + 1 + 1) _ rfl ((zA HR6).ready #[.slice ao3 (k + 3) cc3] w6.heap.size (by simp [World.setCell])).1 ⟨w6.heap.size, 0, none⟩ 1 1 [.slice ao3 (k + 3) cc3] rfl rfl ((zA HR6).ready #[.slice ao3 (k + 3) cc3] w6.heap.size (by simp [World.setCell])).2 (by intro u hu; simp at hu; subst hu; rfl) (by omega) (by unfold maxLen; omega) (by omega) (Nat.zero_le _) (w6.heap.size + 1) (by simp [World.setCell]) ?_; intro g7 cg7 w7 ho7 hg7 hat7 hl7; obtain ⟨c7, f7⟩ := (zA HR6).behind hty2 hcl _ hg7; have HR7 := zB ((zA HR6).step hty2 #[.slice ao3 (k + 3) cc3] w6.heap.size (by simp [World.setCell]) ho7 hg7 hat7); have d7 := (zA HR7).cell hcl; clear ho7 hg7 hat7 hl7))
   go_end0
   refine ⟨rfl, ⟨ao1, k + 1, cc1⟩, ⟨ao2, k + 2, cc2⟩, ⟨ao3, k + 3, cc3⟩, .slice (some ⟨g7, 0, none⟩) (E.length + 4) cg7, ?_⟩
   have hst := zA HR7
   have hpe := zA HPE
   have hw3 := zA HMW _ (zA HW3)
   have m0 := zA HM03
   have m1 := zA HM13
   have m2 := zA HM23
   have m3 := zA HM33
   subst hpe
   have hxx := zA HXX
   subst hxx
   refine kept4G_of ?_ hw3 (zA HPB) (zA HPV) m0 m1 m2 m3 (by simp) (by simp) (by simp)
   rw [List.map_append]
   simp only [List.append_assoc] at hst
   exact hst
end Go.Proofs.YtfpohfifdfbpkaaGreatDoor
namespace Go.Proofs.YtfpohfifdfbpkaaGreatDoor
open Go.RowKit Scour Go.Lib
theorem BookG.more {w w' : World} {T : Nat -> Nat} {rt et sz tr bk o ty : Nat} {cs : Array Value} {tg : Nat -> Nat} {x : Nat -> Nat -> Value} {v v' : Value} {E : List Sl} {s s1 s2 s3 : Sl} (h : BookG w T rt et sz tr tg x v E) (hK : Kept4G w w' bk o cs ty rt et sz v E s (x E.length) s1 s2 s3 v') (T' : Nat -> Nat)
  (hT : ∀ k, k < w.heap.size -> (T k = tr \/ ∃ i, T k = tg i) -> T' k = T k) (hx : ∀ j, j < 4 -> x (E.length + j) = x E.length) (htg : ∀ j, j < 4 -> tg (E.length + j) = tg E.length)
  (hs9 : ∀ b, s.val.ownBlock = some b -> ∀ i, T b ≠ tg i) (hbk : ∀ i, T bk ≠ tg i) (htr : ∀ i, tr ≠ tg i) (hsn : s.n + 3 < 100000000000)
  (hv' : ∀ b, v'.ownBlock = some b -> T' b = tr) (hgr : ∀ b t, t ∈ [s, s1, s2, s3] -> t.val.ownBlock = some b -> T' b = tg E.length) : BookG w' T' rt et sz tr tg x v' (E ++ [s, s1, s2, s3]) := by
 refine ⟨?_, hv', ?_, ?_, ?_⟩
 ·have := hK.row
  rw [show (E ++ [s, s1, s2, s3]).length = E.length + 4 by simp]
  exact this
 ·intro i t ht
  by_cases hi : i < E.length
  ·rw [List.getElem?_append_left hi] at ht
   have hm := h.each i t ht
   have hm2 := hm.same (w' := w') (fun b hl hp => hK.frame b hl (fun e => hbk i (by rw [← e]; exact hp)) (fun e => htr i (by rw [← h.own b e]; exact hp)) (fun e => hs9 b e i hp))
   refine hm2.weaken (fun b hb hp => ?_)
   obtain ⟨cur, hc⟩ := zD hm.row hb
   rw [hT b (Array.getElem?_eq_some_iff.1 hc).1 (Or.inr ⟨i, hp⟩)]; exact hp
  ·rw [List.getElem?_append_right (by omega)] at ht
   have hj := (List.getElem?_eq_some_iff.1 ht).1
   simp only [List.length_cons, List.length_nil] at hj
   have hmem : t ∈ [s, s1, s2, s3] := List.mem_of_getElem? ht
   have hi4 : i = E.length + (i - E.length) := by omega
   rw [hi4, hx _ (by omega)]
   refine (hK.marks t hmem).weaken (fun b hb _ => ?_)
   rw [htg _ (by omega)]
   exact hgr b t hmem hb
 ·have := h.four
  simp; omega
 ·intro t ht
  rcases List.mem_append.1 ht with h1 | h1
  ·exact h.lens t h1
  ·have := hK.lens t h1; omega
theorem mtag_ne {i t : Nat} (h : t < 10 \/ t % 8 ≠ 4) : t ≠ mtag i := by unfold mtag; omega
def Ext.mark (m : Ext) (v : Value) (l : List Sl) : Ext := ⟨m.f, m.fs, v, m.L, m.G ++ l, m.most⟩
theorem LW.keepsG {w w' : World} {bw : Nat} {T : Nat -> Nat} {M : List Ent} {vms vby vli vma' : Value} {E F : List Sl} {mb : Ext} {s s1 s2 s3 : Sl} (h : LW w bw T M vms vby vli E F mb) (hK : Kept4G w w' bw 4 #[vms, mb.fs, vby, vli, mb.ma] 68 42 49 2 mb.ma mb.G s (mxs mb.G.length) s1 s2 s3 vma')
  (hs9 : ∀ b, s.val.ownBlock = some b -> T b = 9 /\ b < w.heap.size) (hsn : s.n + 3 < 100000000000) :
  LW w' bw (jK T w w' s vma' 7 (mtag mb.G.length)) M vms vby vli E F (mb.mark vma' [s, s1, s2, s3]) /\ Fr T w w' (jK T w w' s vma' 7 (mtag mb.G.length)) := by
 have hbl := (Array.getElem?_eq_some_iff.1 h.blk).1
 have hsz := hK.size
 have hne9 : ∀ k, T k ≠ 9 -> s.val.ownBlock ≠ some k := fun k hk e => hk (hs9 k e).1
 have hold : ∀ k, k < w.heap.size -> T k ≠ 9 -> T k ≠ 2 -> T k ≠ 7 -> w'.heap[k]? = w.heap[k]? := fun k hl h9 h2 h4 => hK.frame k hl (fun e => h2 (by rw [e]; exact h.tbw)) (fun e => h4 (h.ext.mats.own k e)) (hne9 k h9)
 have hTo : ∀ k, k < w.heap.size -> T k ≠ 9 -> jK T w w' s vma' 7 (mtag mb.G.length) k = T k := fun k hl h9 => tagsN_old hl (hne9 k h9)
 have hf := h.ext.mats.four
 refine ⟨⟨?_, ?_, ?_, ?_, ?_, ?_, ?_, ?_, ?_⟩, hK.os, hK.tape, hK.output, hsz, fun k hk h0 => ⟨hold k hk (by omega) (by omega) (by omega), by rw [hTo k hk (by omega)]; exact h0⟩⟩
 ·exact hK.blk
 ·rw [hTo bw hbl (by rw [h.tbw]; decide)]; exact h.tbw
 ·exact zE h.ms (fun b hl hv => hold b hl (by rw [h.msown b hv]; decide) (by rw [h.msown b hv]; decide) (by rw [h.msown b hv]; decide))
 ·intro b hb
  obtain ⟨cur, hc⟩ := zD h.ms hb
  rw [hTo b (Array.getElem?_eq_some_iff.1 hc).1 (by rw [h.msown b hb]; decide)]; exact h.msown b hb
 ·exact fun e he => (h.ents e he).same hsz (fun k hl ht => hold k hl (by rw [ht]; decide) (by rw [ht]; decide) (by rw [ht]; decide)) (fun k hl ht => by rw [hTo k hl (by rw [ht]; decide)]; exact ht)
 ·refine h.bytes.same (fun k hl ht => ?_) (fun k hl ht => ?_)
  ·refine hold k hl ?_ ?_ ?_ <;> rcases ht with ht | ⟨i, ht⟩ <;> rw [ht] <;> first | decide | (unfold yG; omega)
  ·refine hTo k hl ?_
   rcases ht with ht | ⟨i, ht⟩ <;> rw [ht] <;> first | decide | (unfold yG; omega)
 ·refine h.lists.same (fun k hl ht => ?_) (fun k hl ht => ?_)
  ·refine hold k hl ?_ ?_ ?_ <;> rcases ht with ht | ⟨i, ht⟩ <;> rw [ht] <;> first | decide | (unfold ltag; omega)
  ·refine hTo k hl ?_
   rcases ht with ht | ⟨i, ht⟩ <;> rw [ht] <;> first | decide | (unfold ltag; omega)
 ·intro k hl
  have hv : vma'.ownBlock ≠ some k := fun e => by
   obtain ⟨cur, hc⟩ := zD hK.row e
   have := (Array.getElem?_eq_some_iff.1 hc).1
   omega
  unfold jK
  rw [if_neg (by omega), if_neg hv, if_neg (by omega)]
 ·have hx := h.ext
  refine ⟨?_, ?_, ?_, ?_, hx.most⟩
  ·exact zE hx.row (fun b hl hv => hold b hl (by rw [hx.own b hv]; decide) (by rw [hx.own b hv]; decide) (by rw [hx.own b hv]; decide))
  ·intro b hb
   obtain ⟨cur, hc⟩ := zD hx.row hb
   rw [hTo b (Array.getElem?_eq_some_iff.1 hc).1 (by rw [hx.own b hb]; decide)]; exact hx.own b hb
  ·exact fun i f hf => (hx.flows i f hf).same hsz (fun k hl ht => hold k hl (by unfold jG rtag at ht; omega) (by unfold jG rtag at ht; omega) (by unfold jG rtag at ht; omega)) (fun k hl ht => hTo k hl (by unfold jG rtag at ht; omega))
  ·refine hx.mats.more hK _ ?_ ?_ ?_ ?_ ?_ ?_ hsn ?_ ?_
   ·intro k hl ht
    refine hTo k hl ?_
    rcases ht with ht | ⟨i, ht⟩ <;> rw [ht]
    ·decide
    ·exact fun e => mtag_ne (i := i) (t := 9) (by omega) e.symm
   ·intro j hj; unfold mxs; rw [div4 hf hj]
   ·intro j hj; unfold mtag; rw [div4 hf hj]
   ·intro b hb i; rw [(hs9 b hb).1]; exact mtag_ne (by omega)
   ·intro i; rw [h.tbw]; exact mtag_ne (by omega)
   ·intro i; exact mtag_ne (by omega)
   ·intro b hb
    rcases hK.lies with e | e
    ·have h4 := hx.mats.own b (e ▸ hb)
     obtain ⟨cur, hc⟩ := zD hx.mats.row (e ▸ hb)
     rw [hTo b (Array.getElem?_eq_some_iff.1 hc).1 (by rw [h4]; decide)]; exact h4
    ·have := e b hb
     unfold jK
     rw [if_neg (by omega), if_pos hb]
   ·intro b t ht hb
    have hm := hK.marks t ht
    obtain ⟨cur, hc⟩ := zD hm.row hb
    have hlb := (Array.getElem?_eq_some_iff.1 hc).1
    rcases hm.own b hb with e | e
    ·unfold jK
     rw [if_pos (hs9 b e).2, if_pos e]
    ·unfold jK
     rw [if_neg (by omega), if_neg (fun e2 => ?_), if_pos hlb]
     obtain ⟨cur2, hc2⟩ := zD hK.row e2
     exact zH hc2 hc (by decide) rfl
def tagsF (T : Nat -> Nat) (w : World) (L : List Nat) (bx : Nat) (v' : Value) (n : Nat) : Nat -> Nat := fun k =>
 if k < w.heap.size then (if k = bx then rtag n else if k ∈ L then jG n else T k) else if v'.ownBlock = some k then 6 else 9
def Ext.flow (m : Ext) (v : Value) (f : Flow) : Ext := ⟨m.f, v, m.ma, m.L ++ [f], m.G, m.most⟩
theorem flowCells_snoc (L : List Flow) (f : Flow) : zY (L ++ [f]) = zY L ++ [.pointer (some ⟨f.bs, 0, none⟩), .pointer (some ⟨f.bx, 0, none⟩)] := by simp [zY]
theorem flowCells_len (L : List Flow) : (zY L).length = L.length * 2 := by
 induction L with
 | nil => rfl
 | cons x L ih =>
   have : zY (x :: L) = [.pointer (some ⟨x.bs, 0, none⟩), .pointer (some ⟨x.bx, 0, none⟩)] ++ zY L := rfl
   rw [this, List.length_append, ih]; simp; omega
theorem flowCells_get : ∀ (L : List Flow) (q : Nat) (f : Flow), L[q]? = some f -> (zY L)[q * 2]? = some (.pointer (some ⟨f.bs, 0, none⟩)) /\ (zY L)[q * 2 + 1]? = some (.pointer (some ⟨f.bx, 0, none⟩))
 | [], q, f, h => by simp at h
 | x :: L, 0, f, h => by
   obtain rfl : x = f := by simpa using h
   exact ⟨rfl, rfl⟩
 | x :: L, q + 1, f, h => by
   have := flowCells_get L q f (by simpa using h)
   have e1 : (q + 1) * 2 = q * 2 + 2 := by omega
   rw [e1]
   exact this
theorem LW.flow {w w' : World} {bw : Nat} {T : Nat -> Nat} {M : List Ent} {vms vby vli fs' : Value} {E F : List Sl} {mb : Ext} {f : Flow} {g gm L : List Nat} {gS cS : Nat} {vL : Value}
  (h : LW w bw T M vms vby vli E F mb) (hM : ScanM w f.bs g gm f.ps f.S f.t) (ht : f.t = []) (hX : w.heap[f.bx]? = some (.cells #[.pointer (some ⟨f.br, 0, none⟩), .string ⟨f.t.toArray⟩] 188 (0, 0))) (hR : yZ w f.br vL gS cS f.ps f.S) (hc : (chk f.ps).1 = 0)
  (hL : ∀ k, k ∈ L -> T k = 9) (h9 : T f.bx = 9) (hxL : f.bx ∉ L) (hm : f.bs ∈ L /\ (∀ k, k ∈ g -> k ∈ L) /\ (∀ k, k ∈ gm -> T k = 1) /\ T f.br = 1 /\ T gS = 1 /\ ∀ b, vL.ownBlock = some b -> T b = 1)
  (hst : zw w w' bw 1 #[vms, mb.fs, vby, vli, mb.ma] 68 104 2 mb.fs fs' (mb.L.length + 1) (zY mb.L ++ [.pointer (some ⟨f.bs, 0, none⟩), .pointer (some ⟨f.bx, 0, none⟩)])) :
  LW w' bw (tagsF T w L f.bx fs' mb.L.length) M vms vby vli E F (mb.flow fs' f) /\ Fr T w w' (tagsF T w L f.bx fs' mb.L.length) := by
 have hbl := (Array.getElem?_eq_some_iff.1 h.blk).1
 have hsz := hst.size
 have hold : ∀ k, k < w.heap.size -> T k ≠ 2 -> T k ≠ 6 -> w'.heap[k]? = w.heap[k]? := fun k hl h2 h3 => hst.frame k hl (fun e => h2 (by rw [e]; exact h.tbw)) (fun e => h3 (h.ext.own k e))
 have hTo : ∀ k, k < w.heap.size -> T k ≠ 9 -> tagsF T w L f.bx fs' mb.L.length k = T k := fun k hl hk => by
  unfold tagsF; rw [if_pos hl, if_neg (fun e => hk (by rw [e]; exact h9)), if_neg (fun e => hk (hL k e))]
 have hTn : ∀ k, k < w.heap.size -> k ∈ L -> tagsF T w L f.bx fs' mb.L.length k = jG mb.L.length := fun k hl hk => by
  unfold tagsF; rw [if_pos hl, if_neg (fun e => hxL (by rw [← e]; exact hk)), if_pos hk]
 have hT1 : ∀ k, k < w.heap.size -> T k = 1 -> tagsF T w L f.bx fs' mb.L.length k = 1 := fun k hl h1 => by
  rw [hTo k hl (by rw [h1]; decide)]; exact h1
 have hL1 : ∀ k, k < w.heap.size -> T k = 1 -> w'.heap[k]? = w.heap[k]? := fun k hl h1 => hold k hl (by rw [h1]; decide) (by rw [h1]; decide)
 have hLo : ∀ k, k < w.heap.size -> k ∈ L -> w'.heap[k]? = w.heap[k]? := fun k hl hk => hold k hl (by rw [hL k hk]; decide) (by rw [hL k hk]; decide)
 obtain ⟨m1, m2, m3, m5, m6, m7⟩ := hm
 obtain ⟨l1, l2, l3⟩ := hM.lts
 have lbx := (Array.getElem?_eq_some_iff.1 hX).1
 have lbr := (Array.getElem?_eq_some_iff.1 hR.blk).1
 obtain ⟨cur, hcur⟩ := zK hR.srow
 have lgS := (Array.getElem?_eq_some_iff.1 hcur).1
 refine ⟨⟨?_, ?_, ?_, ?_, ?_, ?_, ?_, ?_, ?_⟩, hst.os, hst.tape, hst.output, hsz, fun k hk h0 => ⟨hold k hk (by omega) (by omega), by rw [hTo k hk (by omega)]; exact h0⟩⟩
 ·exact hst.blk
 ·rw [hTo bw hbl (by rw [h.tbw]; decide)]; exact h.tbw
 ·exact zE h.ms (fun b hl hv => hold b hl (by rw [h.msown b hv]; decide) (by rw [h.msown b hv]; decide))
 ·intro b hb
  obtain ⟨cur, hc⟩ := zD h.ms hb
  rw [hTo b (Array.getElem?_eq_some_iff.1 hc).1 (by rw [h.msown b hb]; decide)]; exact h.msown b hb
 ·exact fun e he => (h.ents e he).same hsz hL1 hT1
 ·refine h.bytes.same (fun k hl ht => ?_) (fun k hl ht => ?_)
  ·refine hold k hl ?_ ?_ <;> rcases ht with ht | ⟨i, ht⟩ <;> rw [ht] <;> first | decide | (unfold yG; omega)
  ·refine hTo k hl ?_
   rcases ht with ht | ⟨i, ht⟩ <;> rw [ht] <;> first | decide | (unfold yG; omega)
 ·refine h.lists.same (fun k hl ht => ?_) (fun k hl ht => ?_)
  ·refine hold k hl ?_ ?_ <;> rcases ht with ht | ⟨i, ht⟩ <;> rw [ht] <;> first | decide | (unfold ltag; omega)
  ·refine hTo k hl ?_
   rcases ht with ht | ⟨i, ht⟩ <;> rw [ht] <;> first | decide | (unfold ltag; omega)
 ·intro k hl
  have hv : fs'.ownBlock ≠ some k := fun e => by
   obtain ⟨cur, hc⟩ := zD hst.row e
   have := (Array.getElem?_eq_some_iff.1 hc).1
   omega
  unfold tagsF
  rw [if_neg (by omega), if_neg hv]
 ·have hx := h.ext
  refine ⟨?_, ?_, ?_, ?_, ?_⟩
  ·show w'.ownsRow 0 104 2 fs' (mb.L ++ [f]).length (zY (mb.L ++ [f]))
   rw [List.length_append, flowCells_snoc]
   exact hst.row
  ·intro b hb
   have hb' : fs'.ownBlock = some b := hb
   rcases hst.lies with e | e
   ·have h3 := hx.own b (e ▸ hb')
    obtain ⟨cur, hc⟩ := zD hx.row (e ▸ hb')
    rw [hTo b (Array.getElem?_eq_some_iff.1 hc).1 (by rw [h3]; decide)]; exact h3
   ·have := e b hb'
    unfold tagsF
    rw [if_neg (by omega), if_pos hb']
  ·intro i f' hf'
   have hf2 : (mb.L ++ [f])[i]? = some f' := hf'
   by_cases hi : i < mb.L.length
   ·rw [List.getElem?_append_left hi] at hf2
    exact (hx.flows i f' hf2).same hsz (fun k hl ht => hold k hl (by unfold jG rtag at ht; omega) (by unfold jG rtag at ht; omega)) (fun k hl ht => hTo k hl (by unfold jG rtag at ht; omega))
   ·have hi2 : i = mb.L.length := by
     have := (List.getElem?_eq_some_iff.1 hf2).1
     simp at this; omega
    subst hi2
    obtain rfl : f = f' := by simpa using hf2
    refine ⟨⟨g, gm, hM.same hsz ?_, hTn _ l1 m1, fun k hk => hTn k (l2 k hk) (m2 k hk), fun k hk => hT1 k (l3 k hk) (m3 k hk)⟩, ⟨(hold _ lbx (by rw [h9]; decide) (by rw [h9]; decide)).trans hX, by unfold tagsF; rw [if_pos lbx, if_pos rfl]⟩, ⟨vL, gS, cS, hR.same ?_, hT1 _ lbr m5, hT1 _ lgS m6, ?_⟩, hc⟩
    ·rintro k hl (rfl | hg | hg)
     ·exact hLo _ hl m1
     ·exact hLo _ hl (m2 k hg)
     ·exact hL1 _ hl (m3 k hg)
    ·rintro k hl (rfl | rfl | hv)
     ·exact hL1 _ hl m5
     ·exact hL1 _ hl m6
     ·exact hL1 _ hl (m7 k hv)
    ·intro b hb
     obtain ⟨cur, hc⟩ := zD hR.lrow hb
     exact hT1 b (Array.getElem?_eq_some_iff.1 hc).1 (m7 b hb)
  ·refine hx.mats.same (fun k hl ht => ?_) (fun k hl ht => ?_)
   ·refine hold k hl ?_ ?_ <;> rcases ht with ht | ⟨i, ht⟩ <;> rw [ht] <;> first | decide | (unfold mtag; omega)
   ·refine hTo k hl ?_
    rcases ht with ht | ⟨i, ht⟩ <;> rw [ht] <;> first | decide | (unfold mtag; omega)
  ·intro f' hf'
   rcases List.mem_append.1 (show f' ∈ mb.L ++ [f] from hf') with h1 | h1
   ·exact hx.most f' h1
   ·obtain rfl : f' = f := by simpa using h1
    rw [ht]; exact Nat.zero_le _
def tagsW (T : Nat -> Nat) (w : World) (g : List Nat) (n : Nat) : Nat -> Nat := fun k => if k < w.heap.size then T k else if k ∈ g then jG n else 9
def Flow.add (f : Flow) (b : Str) : Flow := ⟨f.bs, f.bx, f.br, f.ps, f.S, f.t ++ b⟩
def Ext.feed (m : Ext) (i : Nat) (f : Flow) (n : Nat) : Ext := ⟨m.f, m.fs, m.ma, m.L.set i f, m.G, m.most + n⟩
theorem flowCells_set : ∀ (L : List Flow) (i : Nat) (f f' : Flow), L[i]? = some f -> f'.bs = f.bs -> f'.bx = f.bx -> zY (L.set i f') = zY L
 | [], i, f, f', h, _, _ => by simp at h
 | x :: L, 0, f, f', h, h1, h2 => by
   obtain rfl : x = f := by simpa using h
   simp [zY, h1, h2]
 | x :: L, i + 1, f, f', h, h1, h2 => by
   have := flowCells_set L i f f' (by simpa using h) h1 h2
   simp only [List.set_cons_succ]
   have e : ∀ l : List Flow, zY (x :: l) = [.pointer (some ⟨x.bs, 0, none⟩), .pointer (some ⟨x.bx, 0, none⟩)] ++ zY l := fun _ => rfl
   rw [e, e, this]
theorem LW.feed {w w' : World} {bw : Nat} {T : Nat -> Nat} {M : List Ent} {vms vby vli : Value} {E F : List Sl} {mb : Ext} {f : Flow} {i : Nat} {b : Str} {g' gm : List Nat}
  (h : LW w bw T M vms vby vli E F mb) (hf : mb.L[i]? = some f) (hsz : w.heap.size <= w'.heap.size) (hos : w'.os = w.os) (hta : w'.tape = w.tape) (hou : w'.output = w.output) (hsame : ∀ k, k < w.heap.size -> T k ≠ jG i -> T k ≠ rtag i -> w'.heap[k]? = w.heap[k]?)
  (hM : ScanM w' f.bs g' gm f.ps f.S (f.t ++ b)) (hg' : ∀ k, k ∈ g' -> (k < w.heap.size /\ T k = jG i) \/ w.heap.size <= k) (hgm : ∀ k, k ∈ gm -> k < w.heap.size /\ T k = 1)
  (hX : w'.heap[f.bx]? = some (.cells #[.pointer (some ⟨f.br, 0, none⟩), .string ⟨(f.t ++ b).toArray⟩] 188 (0, 0))) :
  LW w' bw (tagsW T w g' i) M vms vby vli E F (mb.feed i (f.add b) b.length) /\ Fr T w w' (tagsW T w g' i) := by
 have hbl := (Array.getElem?_eq_some_iff.1 h.blk).1
 have hTo : ∀ k, k < w.heap.size -> tagsW T w g' i k = T k := fun k hl => by unfold tagsW; rw [if_pos hl]
 have hF := h.ext.flows i f hf
 obtain ⟨g0, gm0, hM0, t1, _, _⟩ := hF.scan
 obtain ⟨hx0, tx⟩ := hF.rscan
 obtain ⟨vL, gS, cS, hR, r1, r2, r3⟩ := hF.rmach
 have lbr := (Array.getElem?_eq_some_iff.1 hR.blk).1
 have lbx := (Array.getElem?_eq_some_iff.1 hx0).1
 obtain ⟨cur, hcur⟩ := zK hR.srow
 have lgS := (Array.getElem?_eq_some_iff.1 hcur).1
 have hone : ∀ k, k < w.heap.size -> T k = 1 -> w'.heap[k]? = w.heap[k]? := fun k hl h1 => hsame k hl (by rw [h1]; unfold jG; omega) (by rw [h1]; unfold rtag; omega)
 have hT1 : ∀ k, k < w.heap.size -> T k = 1 -> tagsW T w g' i k = 1 := fun k hl h1 => (hTo k hl).trans h1
 have small : ∀ k, k < w.heap.size -> T k < 10 -> w'.heap[k]? = w.heap[k]? := fun k hl h1 => hsame k hl (by unfold jG; omega) (by unfold rtag; omega)
 refine ⟨⟨?_, ?_, ?_, ?_, ?_, ?_, ?_, ?_, ?_⟩, hos, hta, hou, hsz, fun k hk h0 => ⟨small k hk (by omega), (hTo k hk).trans h0⟩⟩
 ·exact (small bw hbl (by rw [h.tbw]; decide)).trans h.blk
 ·exact (hTo bw hbl).trans h.tbw
 ·exact zE h.ms (fun b hl hv => small b hl (by rw [h.msown b hv]; decide))
 ·intro b hb
  obtain ⟨cur, hc⟩ := zD h.ms hb
  exact (hTo b (Array.getElem?_eq_some_iff.1 hc).1).trans (h.msown b hb)
 ·exact fun e he => (h.ents e he).same hsz hone hT1
 ·refine h.bytes.same (fun k hl ht => ?_) (fun k hl _ => hTo k hl)
  rcases ht with ht | ⟨j, ht⟩
  ·exact small k hl (by omega)
  ·exact hsame k hl (by rw [ht]; unfold yG jG; omega) (by rw [ht]; unfold yG rtag; omega)
 ·refine h.lists.same (fun k hl ht => ?_) (fun k hl _ => hTo k hl)
  rcases ht with ht | ⟨j, ht⟩
  ·exact small k hl (by omega)
  ·exact hsame k hl (by rw [ht]; unfold ltag jG; omega) (by rw [ht]; unfold ltag rtag; omega)
 ·intro k hl
  unfold tagsW
  rw [if_neg (by omega), if_neg (fun hk => by have := hM.lts.2.1 k hk; omega)]
 ·have hx := h.ext
  refine ⟨?_, ?_, ?_, ?_, ?_⟩
  ·show w'.ownsRow 0 104 2 mb.fs (mb.L.set i (f.add b)).length (zY (mb.L.set i (f.add b)))
   rw [List.length_set, flowCells_set mb.L i f (f.add b) hf rfl rfl]
   exact zE hx.row (fun b hl hv => small b hl (by rw [hx.own b hv]; decide))
  ·intro b hb
   obtain ⟨cur, hc⟩ := zD hx.row hb
   exact (hTo b (Array.getElem?_eq_some_iff.1 hc).1).trans (hx.own b hb)
  ·intro j f' hf'
   have hf2 : (mb.L.set i (f.add b))[j]? = some f' := hf'
   by_cases hij : i = j
   ·subst hij
    have hil := (List.getElem?_eq_some_iff.1 hf).1
    rw [List.getElem?_set, if_pos rfl, if_pos hil] at hf2
    obtain rfl : f.add b = f' := by simpa using hf2
    refine ⟨⟨g', gm, hM, (hTo _ hM0.lts.1).trans t1, fun k hk => ?_, fun k hk => hT1 k (hgm k hk).1 (hgm k hk).2⟩, ⟨hX, (hTo _ lbx).trans tx⟩, ⟨vL, gS, cS, hR.same ?_, hT1 _ lbr r1, hT1 _ lgS r2, ?_⟩, hF.ok⟩
    ·rcases hg' k hk with ⟨a, c⟩ | a
     ·exact (hTo k a).trans c
     ·unfold tagsW; rw [if_neg (by omega), if_pos hk]
    ·rintro k hl (rfl | rfl | hv)
     ·exact hone _ hl r1
     ·exact hone _ hl r2
     ·exact hone _ hl (r3 k hv)
    ·intro c hb
     obtain ⟨cur, hc⟩ := zD hR.lrow hb
     exact hT1 c (Array.getElem?_eq_some_iff.1 hc).1 (r3 c hb)
   ·rw [List.getElem?_set, if_neg hij] at hf2
    exact (hx.flows j f' hf2).same hsz (fun k hl ht => hsame k hl (by unfold jG rtag at ht; unfold jG; omega) (by unfold jG rtag at ht; unfold rtag; omega)) (fun k hl _ => hTo k hl)
  ·refine hx.mats.same (fun k hl ht => ?_) (fun k hl _ => hTo k hl)
   rcases ht with ht | ⟨j, ht⟩
   ·exact small k hl (by omega)
   ·exact hsame k hl (by rw [ht]; unfold mtag jG; omega) (by rw [ht]; unfold mtag rtag; omega)
  ·intro f' hf'
   show f'.t.length <= mb.most + b.length
   rcases List.mem_or_eq_of_mem_set (show f' ∈ mb.L.set i (f.add b) from hf') with h1 | h1
   ·have := hx.most f' h1; omega
   ·have := hx.most f (List.mem_of_getElem? hf)
    rw [h1]
    show (f.t ++ b).length <= _
    rw [List.length_append]; omega
end Go.Proofs.YtfpohfifdfbpkaaGreatDoor
