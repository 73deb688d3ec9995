import Derived.Test.YtibkhphbilfckaaGreatDoorFileDef
import Derived.Test.YtibkhphbilfckaaGreatDoorPkN
import Derived.Laws.BitsLemmas
import Derived.Deep.RegionLaw
namespace Go.Proofs.YtibkhphbilfckaaGreatDoor
open Go.RowKit Scour Go.Lib

/-- A writer in memory: what is written so far, all in blocks from B on. -/
structure Wr (B : Nat) (w : World) (bw : Nat) (xs : Str) : Prop where
  ex : ∃ v, w.heap[bw]? = some (.cells #[v] 95 (0, 0)) ∧ w.ownsRow B 5 1 v xs.length (xs.map encB)
  ge : B ≤ bw

theorem Wr.below {B : Nat} {w w' : World} {bw : Nat} {xs : Str} (h : Wr B w bw xs) (hb : Below w.heap.size w w') : Wr B w' bw xs := by
  obtain ⟨v, h1, h2⟩ := h.ex
  exact ⟨⟨v, (hb.block bw (Array.getElem?_eq_some_iff.1 h1).1).trans h1, owns_kept h2 (fun b hl _ => hb.block b hl)⟩, h.ge⟩

/-- All blocks of other types than a writer's are as they were. -/
def Keep8 (w w' : World) : Prop := ∀ (k : Nat) (cur : Array Value) (e : Nat), w.heap[k]? = some (.cells cur e (0, 0)) → e ≠ 5 → e ≠ 95 → w'.heap[k]? = w.heap[k]?
theorem Keep8.refl (w : World) : Keep8 w w := fun _ _ _ _ _ _ => rfl
theorem Keep8.trans {w w1 w2 : World} (h : Keep8 w w1) (k : Keep8 w1 w2) : Keep8 w w2 := fun b cur e hb h1 h2 => (k b cur e ((h b cur e hb h1 h2).trans hb) h1 h2).trans (h b cur e hb h1 h2)
theorem Keep8.below {w w' : World} (h : Below w.heap.size w w') : Keep8 w w' := fun b _ _ hb _ _ => h.block b (Array.getElem?_eq_some_iff.1 hb).1
theorem Keep8.owns {w w' : World} (h : Keep8 w w') {base e s n : Nat} {v : Value} {xs : List Value} (ho : w.ownsRow base e s v n xs) (h1 : e ≠ 5) (h2 : e ≠ 95) : w'.ownsRow base e s v n xs := owns_kept ho (fun b _ hv => by
  obtain ⟨cu, hcu⟩ := owns_block ho hv
  exact h b cu e hcu h1 h2)

/-- What a writer's method is asked: it writes ys behind xs, in blocks from B on. -/
def Writes (B : Nat) (w : World) (bw : Nat) (xs ys : Str) (e : Ending) (w' : World) : Prop := e = .returned (.tuple #[]) ∧ Hid (Wr B w' bw (xs ++ ys)) ∧ Hid (Below B w w') ∧ Hid (Keep8 w w')

theorem or128F : ∀ x : Fin 256, bits .or .u8 (x.val : Int) 128 = ((x.val % 128 + 128 : Nat) : Int) := by decide +kernel

/-- Behind an append of some bytes, and the store. -/
theorem Wr.more {B : Nat} {w w1 : World} {bw : Nat} {xs ys : Str} {v : Value} {xc : Array Value} {g' cap' : Nat} (hB : B ≤ w.heap.size) (hbw : w.heap[bw]? = some (.cells #[v] 95 (0, 0))) (hr : w.ownsRow B 5 1 v xs.length (xs.map encB)) (hge : B ≤ bw)
    (ho : w1.ownsRow B 5 1 (.slice (some ⟨g', 0, none⟩) (xs.length + ys.length) cap') (xs.length + ys.length) (xs.map encB ++ ys.map encB)) (hg : (w.alloc (.cells xc 5)).grownBy w1 v.ownBlock) (hat : v.ownBlock = some g' ∨ g' = w.heap.size + 1) :
    Wr B (w1.setCell ⟨bw, 0, none⟩ (.slice (some ⟨g', 0, none⟩) (xs.length + ys.length) cap')) bw (xs ++ ys) ∧ Below B w (w1.setCell ⟨bw, 0, none⟩ (.slice (some ⟨g', 0, none⟩) (xs.length + ys.length) cap')) ∧ w1.cell? ⟨bw, 0, none⟩ = some v ∧ w1.frozen? ⟨bw, 0, none⟩ = false ∧ Keep8 w (w1.setCell ⟨bw, 0, none⟩ (.slice (some ⟨g', 0, none⟩) (xs.length + ys.length) cap')) := by
  have hl := (Array.getElem?_eq_some_iff.1 hbw).1
  have hne : v.ownBlock ≠ some bw := fun e => by
    obtain ⟨cu, hcu⟩ := owns_block hr e
    exact two_types hcu hbw (by decide) rfl
  have hb1 : w1.heap[bw]? = some (.cells #[v] 95 (0, 0)) := by
    rw [hg.block bw (by simp; omega) (fun e => hne e.symm), Below.heap_alloc _ _ bw hl]; exact hbw
  have hgb : g' ≠ bw := by
    rcases hat with e | e
    · intro e2; subst e2; exact hne e
    · omega
  have hba : Below B w w1 := ((Below.refl B w).alloc hB _).trans (below_of_grown hg (by simp; omega) (own_lt hr))
  refine ⟨⟨⟨_, one_setCell hb1, ?_⟩, hge⟩, hba.trans ?_, cell_of_one hb1, free_of_one hb1, ?_⟩
  · rw [List.map_append, List.length_append]
    exact owns_same ho (Below.heap_setCell w1 ⟨bw, 0, none⟩ _ g' hgb)
  · have hs := hba.size
    exact (Mod.setCell w1 bw 0 _).below (by omega) (fun k e => by rw [e]; exact hge)
  · intro k cur e hk h1 h2
    have hkl := (Array.getElem?_eq_some_iff.1 hk).1
    rw [Below.heap_setCell w1 ⟨bw, 0, none⟩ _ k (two_types hk hbw h2), hg.block k (by simp; omega) (fun e1 => ?_), Below.heap_alloc _ _ k hkl]
    obtain ⟨cu, hcu⟩ := owns_block hr e1.symm
    exact two_types hk hcu h1 rfl

set_option maxHeartbeats 8000000 in
set_option maxRecDepth 100000 in
theorem wnumber_any (B bw : Nat) (xs : Str) (n : Nat) (w : World) (h : Wr B w bw xs) (hB : B ≤ w.heap.size) (hn : n < 1000000000) (hx : xs.length < 900000000) :
    Calls Tryz.prog 77 #[.pointer (some ⟨bw, 0, none⟩), .int .i64 n] w (Writes B w bw xs (numS n)) := by
  obtain ⟨i0, hi, hz0, hz1, hz2⟩ := info_parts Tryz.infoB
  unfold Writes
  have H := hide h
  clear h
  go_enter Tryz.func77, Tryz.ntmps77
  go_wp2
  go_loopw [1] (fun v wr => ∃ (k : Nat) (ys : Str), v = .int .i64 k ∧ k ≤ n ∧ ys.length + k ≤ n + 1 ∧ Hid (ys ++ numS k = numS n) ∧ Hid (Wr B wr bw (xs ++ ys)) ∧ Hid (Below B w wr) ∧ Hid (Keep8 w wr)) (fun v _ => (intOf v).toNat)
  case atStart => exact ⟨n, [], rfl, Nat.le_refl _, by simp, hide rfl, by rw [List.append_nil]; exact H, hide (Below.refl _ _), hide (Keep8.refl _)⟩
  case round =>
    clear H
    obtain ⟨k, ys, rfl, hk, hyk, HY, HW, HB, H8⟩ := hrel
    obtain ⟨v, q1, q2⟩ := (unhide HW).ex
    have hge := (unhide HW).ge
    have hBr : B ≤ wr.heap.size := Nat.le_trans hB (unhide HB).size
    have c1 : wr.cell? ⟨bw, 0, none⟩ = some v := cell_of_one q1
    have hbl : bw < wr.heap.size := (Array.getElem?_eq_some_iff.1 q1).1
    obtain ⟨m, hm⟩ : ∃ m, (xs ++ ys).length = m := ⟨_, rfl⟩
    have hmb : m < 2000000000 := by rw [← hm, List.length_append]; omega
    have HM := hide hm
    have HOA : Hid (∀ ob, (wr.alloc ob).ownsRow B 5 1 v m ((xs ++ ys).map encB)) := hide (fun ob => by rw [← hm]; exact q2.alloc _)
    have HK : Hid (∀ (c : UInt8) w1 g' cap', w1.ownsRow B 5 1 (.slice (some ⟨g', 0, none⟩) (m + 1) cap') (m + 1) ((xs ++ ys).map encB ++ [.int .u8 (c.toNat : Int)]) → (wr.alloc (.cells #[.int .u8 (c.toNat : Int)] 5)).grownBy w1 v.ownBlock → (v.ownBlock = some g' ∨ g' = wr.heap.size + 1) → Wr B (w1.setCell ⟨bw, 0, none⟩ (.slice (some ⟨g', 0, none⟩) (m + 1) cap')) bw (xs ++ (ys ++ [c])) ∧ Below B w (w1.setCell ⟨bw, 0, none⟩ (.slice (some ⟨g', 0, none⟩) (m + 1) cap')) ∧ w1.cell? ⟨bw, 0, none⟩ = some v ∧ w1.frozen? ⟨bw, 0, none⟩ = false ∧ Keep8 w (w1.setCell ⟨bw, 0, none⟩ (.slice (some ⟨g', 0, none⟩) (m + 1) cap'))) := hide (by
      intro c w1 g' cap' h1 h2 h3
      subst hm
      obtain ⟨a1, a2, a3, a4, a5⟩ := Wr.more (ys := [c]) hBr q1 q2 hge h1 h2 h3
      refine ⟨?_, (unhide HB).trans a2, a3, a4, (unhide H8).trans a5⟩
      rw [List.append_assoc] at a1
      exact a1)
    clear q1 q2 hm HM
    by_cases hb : k < 128
    · have i1 : ¬ (128 : Int) ≤ (k : Int) := by omega
      obtain ⟨c, hc⟩ : ∃ c, c = UInt8.ofNat k := ⟨_, rfl⟩
      have hcn : c.toNat = k := by rw [hc, UInt8.toNat_ofNat', Nat.mod_eq_of_lt (by omega)]
      have hw : IntKind.u8.wrap (k : Int) = (c.toNat : Int) := by rw [hcn]; simp [IntKind.wrap, IntKind.bits, IntKind.signed]; omega
      have HR : Hid (ys ++ [c] = numS n) := hide (by rw [← unhide HY, numS_small hb, hc])
      have HK := hide (unhide HK c)
      clear hc hcn
      go_wp2_with (at_builtin; refine wpList_append_lies _ rfl (.tmp 24) (.tmp 27) 27 rfl B 5 i0 (.int .u8 0) 1 1 Tryz.underlying27 hi hz0 hz1 hz2 rfl (by decide) _ m ((xs ++ ys).map encB) rfl (unhide HOA _) ⟨wr.heap.size, 0, none⟩ 1 1 [.int .u8 (c.toNat : Int)] rfl rfl (cell_one_new _ _ _) (by intro u hu; simp at hu; subst hu; rfl) (by omega) (by unfold maxLen; omega) (by omega) (by simp; omega) (wr.heap.size + 1) (by simp) ?_; intro g' cap' w1 hown' hgrow hat hlt'; obtain ⟨k1, k2, k3, k4, k5⟩ := unhide HK w1 g' cap' hown' hgrow hat; have HK1 := hide k1; have HK2 := hide k2; have HK5 := hide k5; clear hown' hgrow hat k1 k2 k5)
      go_end0
      exact ⟨rfl, hide (by have := unhide HK1; rw [unhide HR] at this; exact this), HK2, HK5⟩
    · have i1 : (128 : Int) ≤ (k : Int) := by omega
      obtain ⟨c, hc⟩ : ∃ c, c = UInt8.ofNat (k % 128 + 128) := ⟨_, rfl⟩
      have hcn : c.toNat = k % 128 + 128 := by rw [hc, UInt8.toNat_ofNat', Nat.mod_eq_of_lt (by omega)]
      have hw : IntKind.u8.wrap (k : Int) = ((k % 256 : Nat) : Int) := by simp [IntKind.wrap, IntKind.bits, IntKind.signed]
      have hor : bits .or .u8 ((k : Int) % 256) 128 = (c.toNat : Int) := by
        have := or128F ⟨k % 256, by omega⟩
        simp only [] at this
        rw [hcn, show ((k : Int) % 256) = ((k % 256 : Nat) : Int) by omega, this]
        omega
      have HR : Hid ((ys ++ [c]) ++ numS (k / 128) = numS n) := hide (by rw [← unhide HY, numS_big hb, hc]; simp)
      have HK := hide (unhide HK c)
      clear hc hcn
      go_wp2_with (at_builtin; refine wpList_append_lies _ rfl (.tmp 12) (.tmp 16) 27 rfl B 5 i0 (.int .u8 0) 1 1 Tryz.underlying27 hi hz0 hz1 hz2 rfl (by decide) _ m ((xs ++ ys).map encB) rfl (unhide HOA _) ⟨wr.heap.size, 0, none⟩ 1 1 [.int .u8 (c.toNat : Int)] rfl rfl (cell_one_new _ _ _) (by intro u hu; simp at hu; subst hu; rfl) (by omega) (by unfold maxLen; omega) (by omega) (by simp; omega) (wr.heap.size + 1) (by simp) ?_; intro g' cap' w1 hown' hgrow hat hlt'; obtain ⟨k1, k2, k3, k4, k5⟩ := unhide HK w1 g' cap' hown' hgrow hat; have HK1 := hide k1; have HK2 := hide k2; have HK5 := hide k5; clear hown' hgrow hat k1 k2 k5)
      go_roundw
      case rel => exact ⟨k / 128, ys ++ [c], by go_num, by omega, by simp; omega, HR, HK1, HK2, HK5⟩
      case measure => simp [intOf]; omega
end Go.Proofs.YtibkhphbilfckaaGreatDoor

namespace Go.Proofs.YtibkhphbilfckaaGreatDoor
open Go.RowKit Scour Go.Lib

/-- A list of numbers, written one behind the other. -/
def numsTo (o : Nat → Int) : Nat → Str
  | 0 => []
  | k + 1 => numsTo o k ++ numS (o k).toNat
theorem numsTo_len {o : Nat → Int} (ho : ∀ i, 0 ≤ o i ∧ o i < 200000000) : ∀ k, (numsTo o k).length ≤ 4 * k
  | 0 => Nat.le_refl _
  | k + 1 => by
    have := numsTo_len ho k
    have := numS_len4 (o k).toNat (by have := ho k; omega)
    rw [numsTo, List.length_append]
    omega

set_option maxHeartbeats 8000000 in
set_option maxRecDepth 100000 in
theorem woffsets_any (B bw : Nat) (xs : Str) (n : Nat) (o : Nat → Int) (vO : Value) (w : World) (h : Wr B w bw xs) (hB : B ≤ w.heap.size) (hO : w.ownsRow 0 3 1 vO n (intsF o n)) (ho : ∀ i, 0 ≤ o i ∧ o i < 200000000) (hn : n < 1000000) (hx : xs.length < 800000000) :
    Calls Tryz.prog 41 #[.pointer (some ⟨bw, 0, none⟩), vO] w (Writes B w bw xs (numsTo o n)) := by
  obtain ⟨aO, cO, hvO⟩ : ∃ aO cO, vO = .slice aO n cO := by
    rcases owns_form hO with ⟨h1, h2⟩ | ⟨g, cc, h1, _⟩
    · exact ⟨none, 0, by rw [h1, h2]⟩
    · exact ⟨_, cc, h1⟩
  subst hvO
  unfold Writes
  have H := hide h
  have HO := hide hO
  have HOO := hide ho
  have HLN := hide (numsTo_len ho)
  clear h hO ho
  go_enter Tryz.func41, Tryz.ntmps41
  go_wp2
  go_loopw [8] (fun v wr => ∃ k : Nat, v = .int .i64 k ∧ k ≤ n ∧ Hid (Wr B wr bw (xs ++ numsTo o k)) ∧ Hid (Below B w wr) ∧ Hid (Keep8 w wr)) (fun v _ => n - (intOf v).toNat)
  case atStart => exact ⟨0, rfl, Nat.zero_le _, by rw [numsTo, List.append_nil]; exact H, hide (Below.refl _ _), hide (Keep8.refl _)⟩
  case round =>
    clear H
    obtain ⟨k, rfl, hk, HW, HB, H8⟩ := hrel
    by_cases hkn : k < n
    · have hOr := (unhide H8).owns (unhide HO) (by decide) (by decide)
      obtain ⟨x, hx2⟩ : ∃ x : Nat, o k = (x : Int) := ⟨(o k).toNat, by have := unhide HOO k; omega⟩
      have hxb : x < 200000000 := by have := unhide HOO k; omega
      rcases owns_form hOr with ⟨_, e0⟩ | ⟨gO, cc, e1, _⟩
      · omega
      · obtain ⟨rfl, rfl⟩ : aO = some ⟨gO, 0, none⟩ ∧ cO = cc := by simpa using e1
        have hcell : wr.cell? ⟨gO, k, none⟩ = some (.int .i64 (x : Int)) := by rw [hOr.cellAt k (by omega), intsF_get _ _ _ hkn, hx2]
        have hlk := unhide HLN k
        have HNX : Hid (numsTo o (k + 1) = numsTo o k ++ numS x) := hide (by rw [numsTo, hx2, Int.toNat_natCast])
        have HC := hide (wnumber_any B bw (xs ++ numsTo o k) x wr (unhide HW) (Nat.le_trans hB (unhide HB).size) (by omega) (by rw [List.length_append]; omega))
        clear hOr e1 hx2
        go_wp2_with (go_at_call 77; refine (unhide HC).mono ?_; rintro e w1 ⟨rfl, H1, B1, K1⟩)
        go_roundw
        case rel => exact ⟨k + 1, by go_num, hkn, hide (by rw [unhide HNX, ← List.append_assoc]; exact unhide H1), hide ((unhide HB).trans (unhide B1)), hide ((unhide H8).trans (unhide K1))⟩
        case measure => simp [intOf]; omega
    · obtain rfl : k = n := by omega
      go_wp2
      go_end0
      exact ⟨rfl, HW, HB, H8⟩

set_option maxHeartbeats 8000000 in
set_option maxRecDepth 100000 in
theorem wpatterns_any (B bw : Nat) (xs : Str) (n : Nat) (o : Nat → Int) (vO : Value) (w : World) (h : Wr B w bw xs) (hB : B ≤ w.heap.size) (hO : w.ownsRow 0 3 1 vO n (intsF o n)) (ho : ∀ i, 0 ≤ o i ∧ o i < 200000000) (hn : n < 1000000) (hx : xs.length < 800000000) :
    Calls Tryz.prog 39 #[.pointer (some ⟨bw, 0, none⟩), vO] w (Writes B w bw xs (numS n ++ numsTo o n)) := by
  obtain ⟨aO, cO, hvO⟩ : ∃ aO cO, vO = .slice aO n cO := by
    rcases owns_form hO with ⟨h1, h2⟩ | ⟨g, cc, h1, _⟩
    · exact ⟨none, 0, by rw [h1, h2]⟩
    · exact ⟨_, cc, h1⟩
  subst hvO
  unfold Writes
  have H := hide h
  have HO := hide hO
  have HOO := hide ho
  have HLN := hide (numsTo_len ho)
  have hl4 := numS_len4 n (by omega)
  have HC0 := hide (wnumber_any B bw xs n w h hB (by omega) (by omega))
  clear h hO ho
  go_enter Tryz.func39, Tryz.ntmps39
  go_wp2_with (go_at_call 77; refine (unhide HC0).mono ?_; rintro e w0 ⟨rfl, H0, B0, K0⟩)
  go_loopw [12] (fun v wr => ∃ k : Nat, v = .int .i64 k ∧ k ≤ n ∧ Hid (Wr B wr bw (xs ++ (numS n ++ numsTo o k))) ∧ Hid (Below B w wr) ∧ Hid (Keep8 w wr)) (fun v _ => n - (intOf v).toNat)
  case atStart => exact ⟨0, rfl, Nat.zero_le _, by rw [numsTo, List.append_nil]; exact H0, B0, K0⟩
  case round =>
    clear H H0 B0 K0
    obtain ⟨k, rfl, hk, HW, HB, H8⟩ := hrel
    by_cases hkn : k < n
    · have hOr := (unhide H8).owns (unhide HO) (by decide) (by decide)
      obtain ⟨x, hx2⟩ : ∃ x : Nat, o k = (x : Int) := ⟨(o k).toNat, by have := unhide HOO k; omega⟩
      have hxb : x < 200000000 := by have := unhide HOO k; omega
      rcases owns_form hOr with ⟨_, e0⟩ | ⟨gO, cc, e1, _⟩
      · omega
      · obtain ⟨rfl, rfl⟩ : aO = some ⟨gO, 0, none⟩ ∧ cO = cc := by simpa using e1
        have hcell : wr.cell? ⟨gO, k, none⟩ = some (.int .i64 (x : Int)) := by rw [hOr.cellAt k (by omega), intsF_get _ _ _ hkn, hx2]
        have hlk := unhide HLN k
        have HNX : Hid (numsTo o (k + 1) = numsTo o k ++ numS x) := hide (by rw [numsTo, hx2, Int.toNat_natCast])
        have HC := hide (wnumber_any B bw (xs ++ (numS n ++ numsTo o k)) x wr (unhide HW) (Nat.le_trans hB (unhide HB).size) (by omega) (by simp only [List.length_append]; omega))
        clear hOr e1 hx2
        go_wp2_with (go_at_call 77; refine (unhide HC).mono ?_; rintro e w1 ⟨rfl, H1, B1, K1⟩)
        go_roundw
        case rel => exact ⟨k + 1, by go_num, hkn, hide (by have := unhide H1; rw [unhide HNX]; simp only [List.append_assoc] at this ⊢; exact this), hide ((unhide HB).trans (unhide B1)), hide ((unhide H8).trans (unhide K1))⟩
        case measure => simp [intOf]; omega
    · obtain rfl : k = n := by omega
      go_wp2
      go_end0
      exact ⟨rfl, HW, HB, H8⟩

end Go.Proofs.YtibkhphbilfckaaGreatDoor

namespace Go.Proofs.YtibkhphbilfckaaGreatDoor
open Go.RowKit Scour Go.Lib

/-- What is known of cells that are written. -/
def CWr (cl : List (Int × Int)) : Prop := ∀ q, q ∈ cl → (q.1 = -1 ∨ 1 ≤ q.1) ∧ q.1 < 10000 ∧ 0 ≤ q.2 ∧ q.2 < 10000

theorem celsTo_len2 {cl : List (Int × Int)} (h : CWr cl) (k : Nat) (hk : k ≤ cl.length) : (celsTo cl k).length ≤ 6 * k := celsTo_len (fun q hq => by have := h q hq; omega) k hk

set_option maxHeartbeats 8000000 in
set_option maxRecDepth 100000 in
theorem wcells_any (B bw : Nat) (xs : Str) (cl : List (Int × Int)) (vX : Value) (w : World) (h : Wr B w bw xs) (hB : B ≤ w.heap.size) (hO : w.ownsRow 0 167 2 vX cl.length (cellsP cl)) (hc : CWr cl) (hn : cl.length < 100000000) (hx : xs.length < 100000000) :
    Calls Tryz.prog 42 #[.pointer (some ⟨bw, 0, none⟩), vX] w (Writes B w bw xs (numS cl.length ++ celsTo cl cl.length)) := by
  obtain ⟨n, hcn⟩ : ∃ n, cl.length = n := ⟨_, rfl⟩
  rw [hcn] at hO hn ⊢
  obtain ⟨aO, cO, hvO⟩ : ∃ aO cO, vX = .slice aO n cO := by
    rcases owns_form hO with ⟨h1, h2⟩ | ⟨g, cc, h1, _⟩
    · exact ⟨none, 0, by rw [h1, h2]⟩
    · exact ⟨_, cc, h1⟩
  subst hvO
  unfold Writes
  have HO := hide hO
  have HCC := hide hc
  have HCN := hide hcn
  have HLN := hide (celsTo_len2 hc)
  have hl4 := numS_len4 n (by omega)
  have HC0 := hide (wnumber_any B bw xs n w h hB (by omega) (by omega))
  clear h hO hc hcn
  go_enter Tryz.func42, Tryz.ntmps42
  go_wp2_with (go_at_call 77; refine (unhide HC0).mono ?_; rintro e w0 ⟨rfl, H0, B0, K0⟩)
  go_loopw [12] (fun v wr => ∃ k : Nat, v = .int .i64 k ∧ k ≤ n ∧ Hid (Wr B wr bw (xs ++ (numS n ++ celsTo cl k))) ∧ Hid (Below B w wr) ∧ Hid (Keep8 w wr)) (fun v _ => n - (intOf v).toNat)
  case atStart => exact ⟨0, rfl, Nat.zero_le _, by rw [celsTo, List.append_nil]; exact H0, B0, K0⟩
  case round =>
    clear H0 B0 K0
    obtain ⟨k, rfl, hk, HW, HB, H8⟩ := hrel
    have hBr : B ≤ wr.heap.size := Nat.le_trans hB (unhide HB).size
    by_cases hkn : k < n
    · have hOr := (unhide H8).owns (unhide HO) (by decide) (by decide)
      have hkl : k < cl.length := by rw [unhide HCN]; exact hkn
      have hq := unhide HCC (cl.getD k (0, 0)) (by simp [List.getD, hkl])
      have hlk := unhide HLN k (by omega)
      rcases owns_form hOr with ⟨_, e0⟩ | ⟨gO, cc, e1, _⟩
      · omega
      · obtain ⟨rfl, rfl⟩ : aO = some ⟨gO, 0, none⟩ ∧ cO = cc := by simpa using e1
        have hcl := cellsP_len cl
        have c1 : wr.cell? ⟨gO, k * 2, none⟩ = some (.int .i64 (cellP (cl.getD k (0, 0))).1) := by rw [hOr.cellAt (k * 2) (by omega)]; exact (cellsP_get hkl).1
        have c2 : wr.cell? ⟨gO, k * 2 + 1, none⟩ = some (.int .i64 (cellP (cl.getD k (0, 0))).2) := by rw [hOr.cellAt (k * 2 + 1) (by omega)]; exact (cellsP_get hkl).2
        have HNX : Hid (celsTo cl (k + 1) = celsTo cl k ++ celS (cl.getD k (0, 0))) := hide rfl
        have hW : ∀ ob, Below wr.heap.size wr (wr.alloc ob) := fun ob => (Below.refl _ _).alloc (Nat.le_refl _) _
        have HNM : Hid (∀ ob x, x < 1000000 → Calls Tryz.prog 77 #[.pointer (some ⟨bw, 0, none⟩), .int .i64 (x : Nat)] (wr.alloc ob) (Writes B (wr.alloc ob) bw (xs ++ (numS n ++ celsTo cl k)) (numS x))) := hide fun ob x hx => wnumber_any B bw _ x (wr.alloc ob) ((unhide HW).below (hW ob)) (by simp; omega) (by omega) (by simp only [List.length_append]; omega)
        have HBA : Hid (∀ ob, Below B w (wr.alloc ob)) := hide fun ob => (unhide HB).trans ((hW ob).mono hBr)
        have H8A : Hid (∀ ob, Keep8 w (wr.alloc ob)) := hide fun ob => (unhide H8).trans (Keep8.below (hW ob))
        clear hOr e1 hW
        generalize cl.getD k (0, 0) = q at *
        by_cases hq0 : q.1 < 0
        · have hcp : cellP q = (0, 0) := by unfold cellP; rw [if_pos hq0]
          rw [hcp] at c1 c2
          have HNX2 : Hid (celsTo cl (k + 1) = celsTo cl k ++ numS 0) := hide (by
            rw [unhide HNX]; unfold celS
            rw [show (q.1 + 1).toNat = 0 by omega, if_neg (by omega), List.append_nil])
          have HN0 : Hid (∀ ob, Calls Tryz.prog 77 #[.pointer (some ⟨bw, 0, none⟩), .int .i64 0] (wr.alloc ob) (Writes B (wr.alloc ob) bw (xs ++ (numS n ++ celsTo cl k)) (numS 0))) := hide fun ob => unhide HNM ob 0 (by omega)
          simp only [] at c1 c2
          clear hcp HNX HNM
          go_wp2_with (go_at_call 77; refine (unhide HN0 _).mono ?_; rintro e w1 ⟨rfl, H1, B1, K1⟩)
          go_roundw
          case rel => exact ⟨k + 1, by go_num, hkn, hide (by have := unhide H1; rw [unhide HNX2]; simp only [List.append_assoc] at this ⊢; exact this), hide ((unhide HBA _).trans (unhide B1)), hide ((unhide H8A _).trans (unhide K1))⟩
          case measure => simp [intOf]; omega
        · have hcp : cellP q = q := by unfold cellP; rw [if_neg hq0]
          rw [hcp] at c1 c2
          obtain ⟨q1, q2⟩ := q
          simp only [] at c1 c2 hq hq0
          obtain ⟨x, rfl⟩ : ∃ x : Nat, q1 = (x : Int) := ⟨q1.toNat, by omega⟩
          obtain ⟨y, rfl⟩ : ∃ y : Nat, q2 = (y : Int) := ⟨q2.toNat, by omega⟩
          have HNX2 : Hid (celsTo cl (k + 1) = celsTo cl k ++ (numS (x + 1) ++ numS y)) := hide (by
            rw [unhide HNX]; unfold celS
            simp only []
            rw [show ((x : Int) + 1).toNat = x + 1 by omega, if_pos (by omega), Int.toNat_natCast])
          have HN1 : Hid (∀ ob, Calls Tryz.prog 77 #[.pointer (some ⟨bw, 0, none⟩), .int .i64 ((x : Int) + 1)] (wr.alloc ob) (Writes B (wr.alloc ob) bw (xs ++ (numS n ++ celsTo cl k)) (numS (x + 1)))) := hide fun ob => unhide HNM ob (x + 1) (by omega)
          have hl5 := numS_len4 (x + 1) (by omega)
          have HN2 : Hid (∀ w1, Wr B w1 bw ((xs ++ (numS n ++ celsTo cl k)) ++ numS (x + 1)) → B ≤ w1.heap.size → Calls Tryz.prog 77 #[.pointer (some ⟨bw, 0, none⟩), .int .i64 (y : Nat)] w1 (Writes B w1 bw ((xs ++ (numS n ++ celsTo cl k)) ++ numS (x + 1)) (numS y))) := hide fun w1 h1 h2 => wnumber_any B bw _ y w1 h1 h2 (by omega) (by simp only [List.length_append]; omega)
          have hx0 : ¬ x = 0 := by omega
          have HBX : Hid (∀ ob, (wr.alloc ob).heap[wr.heap.size]? = some ob) := hide fun ob => heap_alloc_new wr ob
          clear hcp HNX HNM
          go_wp2_with fail
          refine (unhide HN1 _).mono ?_
          rintro e w1 ⟨rfl, H1, B1, K1⟩
          have hbx : w1.heap[wr.heap.size]? = some (.cells #[.int .i64 (x : Int), .int .i64 (y : Int)] 167 (0, 0)) := (unhide K1 _ _ _ (unhide HBX _) (by decide) (by decide)).trans (unhide HBX _)
          have c5 : w1.cell? ⟨wr.heap.size, 1, none⟩ = some (.int .i64 (y : Int)) := by rw [cell_of_blk hbx]; rfl
          have hB1 : B ≤ w1.heap.size := Nat.le_trans (by simp; omega) (unhide B1).size
          clear hbx
          go_wp2_with fail
          refine (unhide HN2 w1 (unhide H1) hB1).mono ?_
          rintro e w2 ⟨rfl, H2, B2, K2⟩
          go_wp2
          go_roundw
          case rel => exact ⟨k + 1, by go_num, hkn, hide (by have := unhide H2; rw [unhide HNX2]; simp only [List.append_assoc] at this ⊢; exact this), hide (((unhide HBA _).trans (unhide B1)).trans (unhide B2)), hide (((unhide H8A _).trans (unhide K1)).trans (unhide K2))⟩
          case measure => simp [intOf]; omega
    · obtain rfl : k = n := by omega
      go_wp2
      go_end0
      exact ⟨rfl, HW, HB, H8⟩
end Go.Proofs.YtibkhphbilfckaaGreatDoor

namespace Go.Proofs.YtibkhphbilfckaaGreatDoor
open Go.RowKit Scour Go.Lib

theorem TrieM.keep8 {w w' : World} {bt be g : Nat} {ps S : List Str} (h : TrieM w bt be g ps S) (hk : Keep8 w w') (hs : w.heap.size ≤ w'.heap.size) : TrieM w' bt be g ps S := by
  obtain ⟨cap, par, lst, E, hT, _⟩ := h.ex
  refine h.same hs (fun k hk2 => ?_)
  rcases hk2 with e | e | e
  · subst e; exact hk _ _ _ hT.blk (by decide) (by decide)
  · subst e; obtain ⟨cu, hcu⟩ := owns_blk hT.ends; exact hk _ _ _ hcu (by decide) (by decide)
  · subst e; obtain ⟨cu, hcu⟩ := owns_blk hT.row; exact hk _ _ _ hcu (by decide) (by decide)

theorem stS_eq {w : World} {bt be g : Nat} {ps S : List Str} (h : TrieM w bt be g ps S) {i : Nat} (h0 : 0 < i) (hi : i < S.length) : stS S i = numS (parN S i) ++ [lastB S i] ++ numS (failN S i) := by
  obtain ⟨cap, par, lst, E, hT, _⟩ := h.ex
  obtain ⟨p, c, _, _, _, e3⟩ := hT.rep.kids i h0 hi
  have e1 : (at' S i).take ((at' S i).length - 1) = (at' S i).dropLast := by rw [List.dropLast_eq_take]
  have e2 : (at' S i).drop ((at' S i).length - 1) = [lastB S i] := by
    unfold lastB
    rw [e3]
    simp
  unfold stS parN failN
  rw [e1, e2, List.drop_one]

theorem Wr.moreD {B : Nat} {w w1 : World} {bw : Nat} {xs ys : Str} {v : Value} {xc : Array Value} {g' cap' : Nat} (hB : B ≤ w.heap.size) (hbw : w.heap[bw]? = some (.cells #[v] 95 (0, 0))) (hr : w.ownsRow B 5 1 v xs.length (xs.map encB)) (hge : B ≤ bw)
    (ho : w1.ownsRow B 5 1 (.slice (some ⟨g', 0, none⟩) (xs.length + ys.length) cap') (xs.length + ys.length) (xs.map encB ++ ys.map encB)) (hg : (w.alloc (.cells xc 5)).drew.grownBy w1 v.ownBlock) (hat : v.ownBlock = some g' ∨ g' = w.heap.size + 1) :
    Wr B (w1.setCell ⟨bw, 0, none⟩ (.slice (some ⟨g', 0, none⟩) (xs.length + ys.length) cap')) bw (xs ++ ys) ∧ Below B w (w1.setCell ⟨bw, 0, none⟩ (.slice (some ⟨g', 0, none⟩) (xs.length + ys.length) cap')) ∧ w1.cell? ⟨bw, 0, none⟩ = some v ∧ w1.frozen? ⟨bw, 0, none⟩ = false ∧ Keep8 w (w1.setCell ⟨bw, 0, none⟩ (.slice (some ⟨g', 0, none⟩) (xs.length + ys.length) cap')) :=
  Wr.more hB hbw hr hge ho (xc := xc) ⟨hg.os, hg.tape, hg.output, hg.size, hg.block⟩ hat

theorem one_new {w : World} {x : Value} {t : TypeId} : (w.alloc (.cells #[x] t)).drew.heap[w.heap.size]? = some (.cells #[x] t (0, 0)) := heap_alloc_new w _

set_option maxHeartbeats 16000000 in
set_option maxRecDepth 100000 in
theorem wstates_any (B bw : Nat) (xs : Str) (bt be g : Nat) (ps S : List Str) (w : World) (h : Wr B w bw xs) (hB : B ≤ w.heap.size) (hT : TrieM w bt be g ps S) (hx : xs.length < 100000000) :
    Calls Tryz.prog 38 #[.pointer (some ⟨bw, 0, none⟩), .pointer (some ⟨bt, 0, none⟩)] w (Writes B w bw xs (numS S.length ++ stsTo S S.length)) := by
  obtain ⟨i0, hi, hz0, hz1, hz2⟩ := info_parts Tryz.infoB
  have hl := hT.len
  unfold Writes
  have HT := hide hT
  have HST : Hid (∀ i, 0 < i → i < S.length → stS S i = numS (parN S i) ++ [lastB S i] ++ numS (failN S i)) := hide fun i h0 h1 => stS_eq hT h0 h1
  have HLN := hide (stsTo_len (S := S) (by omega))
  have hl4 := numS_len4 S.length (by omega)
  have HL0 := hide (tlen_any bt be g ps S w hT)
  have HC0 := hide (wnumber_any B bw xs S.length w h hB (by omega) (by omega))
  have HPB : Hid (∀ i, 0 < i → i < S.length → parN S i < 10000 ∧ failN S i < 10000) := hide fun i h0 h1 => by
    unfold parN failN
    have a1 := List.idxOf_le_length (a := (at' S i).dropLast) (l := S)
    have a2 := List.idxOf_le_length (a := lsuf S (at' S i).tail) (l := S)
    omega
  clear h hT
  go_enter Tryz.func38, Tryz.ntmps38
  go_wp2_with (first | (go_at_call 26; refine (unhide HL0).mono ?_; rintro e w' ⟨rfl, hw'⟩; obtain rfl := hw'.symm) | (go_at_call 77; refine (unhide HC0).mono ?_; rintro e w0 ⟨rfl, H0, B0, K0⟩))
  go_loopw [4] (fun v wr => ∃ k : Nat, v = .int .i64 k ∧ 1 ≤ k ∧ k ≤ S.length ∧ Hid (Wr B wr bw (xs ++ (numS S.length ++ stsTo S k))) ∧ Hid (Below B w wr) ∧ Hid (Keep8 w wr)) (fun v _ => S.length - (intOf v).toNat)
  case atStart => exact ⟨1, rfl, Nat.le_refl _, hl.1, by rw [stsTo, stsTo, if_pos rfl, List.append_nil, List.append_nil]; exact H0, B0, K0⟩
  case round =>
    clear H0 B0 K0 HL0 HC0
    obtain ⟨k, rfl, hk1, hk, HW, HB, H8⟩ := hrel
    have hBr : B ≤ wr.heap.size := Nat.le_trans hB (unhide HB).size
    have hTr := (unhide HT).keep8 (unhide H8) (unhide HB).size
    have HL1 := hide (tlen_any bt be g ps S wr hTr)
    by_cases hkn : k < S.length
    · have HA := hide (tat_any bt be g ps S wr hTr k hk1 hkn)
      have hpb := unhide HPB k hk1 hkn
      have HNX : Hid (stsTo S (k + 1) = stsTo S k ++ (numS (parN S k) ++ [lastB S k] ++ numS (failN S k))) := hide (by rw [stsTo, if_neg (by omega), unhide HST k hk1 hkn])
      have hlk := unhide HLN k
      clear hTr
      generalize parN S k = p at *
      generalize lastB S k = c at *
      generalize failN S k = f at *
      have hlp := numS_len4 p (by omega)
      obtain ⟨zs, hzs⟩ : ∃ zs, zs = xs ++ (numS S.length ++ stsTo S k) := ⟨_, rfl⟩
      have hzl : zs.length < 200000000 := by rw [hzs]; simp only [List.length_append]; omega
      rw [← hzs] at HW
      have HZ := hide hzs
      clear hzs
      have HN1 : Hid (∀ W ob, Below wr.heap.size wr W → Calls Tryz.prog 77 #[.pointer (some ⟨bw, 0, none⟩), .int .i64 (p : Nat)] (W.alloc ob) (Writes B (W.alloc ob) bw zs (numS p))) := hide fun W ob hb => by
        have hb2 : Below W.heap.size W (W.alloc ob) := (Below.refl _ _).alloc (Nat.le_refl _) _
        have := hb.size
        exact wnumber_any B bw zs p (W.alloc ob) (((unhide HW).below hb).below hb2) (by simp; omega) (by omega) (by omega)
      go_wp2_with (first | (go_at_call 26; refine (unhide HL1).mono ?_; rintro e w' ⟨rfl, hw'⟩; obtain rfl := hw'.symm) | (go_at_call 78; refine (unhide HA).mono ?_; rintro e w1 ⟨rfl, hb1⟩; have HB1 := hide hb1; clear hb1) | (go_at_call 77; refine (unhide HN1 w1 _ (unhide HB1)).mono ?_; rintro e w2 ⟨rfl, H2, B2, K2⟩))
      obtain ⟨v, q1, q2⟩ := (unhide H2).ex
      have hge := (unhide H2).ge
      have hs1 := (unhide HB1).size
      have hB2 : B ≤ w2.heap.size := Nat.le_trans (by simp; omega) (unhide B2).size
      obtain ⟨m, hm⟩ : ∃ m, (zs ++ numS p).length = m := ⟨_, rfl⟩
      have hmb : m < 300000000 := by rw [← hm, List.length_append]; omega
      have hbx : w2.heap[w1.heap.size]? = some (.cells #[.int .i64 (p : Int), .int .u8 (c.toNat : Int), .int .i64 (f : Int)] 163 (0, 0)) := (unhide K2 _ _ _ (heap_alloc_new w1 _) (by decide) (by decide)).trans (heap_alloc_new w1 _)
      have c5 : w2.cell? ⟨w1.heap.size, 1, none⟩ = some (.int .u8 (c.toNat : Int)) := by rw [cell_of_blk hbx]; rfl
      have c1 : w2.cell? ⟨bw, 0, none⟩ = some v := cell_of_one q1
      have hbl : bw < w2.heap.size := (Array.getElem?_eq_some_iff.1 q1).1
      obtain ⟨gw, cw, hv⟩ : ∃ gw cw, v = .slice (some ⟨gw, 0, none⟩) m cw := by
        have h0 : 0 < (numS p).length := by
          by_cases hp : p < 128
          · rw [numS_small hp]; simp
          · rw [numS_big hp]; simp
        rcases owns_form q2 with ⟨_, e⟩ | ⟨gw, cw, e, _⟩
        · simp only [List.length_append] at e; omega
        · exact ⟨gw, cw, by rw [e, hm]⟩
      subst hv
      have HOWN : Hid ((w2.alloc (.cells #[.int .u8 (c.toNat : Int)] 5)).drew.ownsRow B 5 1 (.slice (some ⟨gw, 0, none⟩) m cw) m ((zs ++ numS p).map encB)) := hide (by have := q2.alloc (.cells #[.int .u8 (c.toNat : Int)] 5); rw [hm] at this; exact this)
      have HNEW : Hid (∀ j u, [Value.int .u8 (c.toNat : Int)][j]? = some u → (w2.alloc (.cells #[.int .u8 (c.toNat : Int)] 5)).drew.cell? ((⟨w2.heap.size, 0, none⟩ : Addr).add j) = some u) := hide (World.news_of_block (one_new (w := w2)))
      have HK : Hid (∀ w3 g' cap', w3.ownsRow B 5 1 (.slice (some ⟨g', 0, none⟩) (m + 1) cap') (m + 1) ((zs ++ numS p).map encB ++ [.int .u8 (c.toNat : Int)]) → (w2.alloc (.cells #[.int .u8 (c.toNat : Int)] 5)).drew.grownBy w3 (some gw) → (some gw = some g' ∨ g' = w2.heap.size + 1) → Wr B (w3.setCell ⟨bw, 0, none⟩ (.slice (some ⟨g', 0, none⟩) (m + 1) cap')) bw ((zs ++ numS p) ++ [c]) ∧ Below B w2 (w3.setCell ⟨bw, 0, none⟩ (.slice (some ⟨g', 0, none⟩) (m + 1) cap')) ∧ w3.cell? ⟨bw, 0, none⟩ = some (.slice (some ⟨gw, 0, none⟩) m cw) ∧ w3.frozen? ⟨bw, 0, none⟩ = false ∧ Keep8 w2 (w3.setCell ⟨bw, 0, none⟩ (.slice (some ⟨g', 0, none⟩) (m + 1) cap'))) := hide (by
        intro w3 g' cap' h1 h2 h3
        subst hm
        exact Wr.moreD (ys := [c]) hB2 q1 q2 hge h1 h2 h3)
      have HBX := hide hbx
      have HFN : Hid (∀ W, Wr B W bw ((zs ++ numS p) ++ [c]) → B ≤ W.heap.size → Calls Tryz.prog 77 #[.pointer (some ⟨bw, 0, none⟩), .int .i64 (f : Nat)] W (Writes B W bw ((zs ++ numS p) ++ [c]) (numS f))) := hide fun W h1 h2 => wnumber_any B bw _ f W h1 h2 (by omega) (by simp only [List.length_append, List.length_singleton]; omega)
      have HC2 : Hid (∀ W : World, Keep8 w2 W → W.cell? ⟨w1.heap.size, 2, none⟩ = some (.int .i64 (f : Int))) := hide fun W hk => by
        have := (hk _ _ _ hbx (by decide) (by decide)).trans hbx
        rw [cell_of_blk this]; rfl
      clear q1 q2 hm hbx
      go_region_law (refine step_append_lies _ rfl (.tmp 27) (.tmp 30) 27 rfl B 5 i0 _ 1 1 Tryz.underlying27 hi hz0 hz1 hz2 rfl (by decide) _ m ((zs ++ numS p).map encB) (by simp [Act.eval]) (unhide HOWN) ⟨w2.heap.size, 0, none⟩ 1 1 [.int .u8 (c.toNat : Int)] (by simp [Act.eval]) rfl (unhide HNEW) (by intro u hu; simp at hu; subst hu; rfl) (by omega) (by unfold maxLen; omega) (by omega) (by simp; omega) _ rfl ?_; intro g' cap' w3 hown' hgrow hat hlt'; obtain ⟨k1, k2, k3, k4, k5⟩ := unhide HK w3 g' cap' hown' hgrow (by simpa [Value.ownBlock] using hat); have HK1 := hide k1; have HK2 := hide k2; have c6 := unhide HC2 _ k5; have HK5 := hide k5; clear hown' hgrow hat k1 k2 k5)
      all_goals go_wp2_with (go_at_call 77; refine (unhide HFN _ (unhide HK1) (Nat.le_trans hB2 (unhide HK2).size)).mono ?_; rintro e w4 ⟨rfl, H4, B4, K4⟩)
      all_goals go_roundw
      all_goals try case measure => simp [intOf]; omega
      all_goals
        case rel =>
          have e1 : Below B wr w2 := ((unhide HB1).mono hBr).trans (((Below.refl _ _).alloc (Nat.le_trans hBr hs1) _).trans (unhide B2))
          have e2 : Keep8 wr w2 := (Keep8.below (unhide HB1)).trans ((Keep8.below ((Below.refl _ _).alloc (Nat.le_refl _) _)).trans (unhide K2))
          exact ⟨k + 1, by go_num, by omega, by omega, hide (by have := unhide H4; rw [unhide HNX]; rw [unhide HZ] at this; simp only [List.append_assoc] at this ⊢; exact this), hide ((unhide HB).trans (e1.trans ((unhide HK2).trans (unhide B4)))), hide ((unhide H8).trans (e2.trans ((unhide HK5).trans (unhide K4))))⟩
    · obtain rfl : k = S.length := by omega
      go_wp2_with (go_at_call 26; refine (unhide HL1).mono ?_; rintro e w' ⟨rfl, hw'⟩; obtain rfl := hw'.symm)
      go_end0
      exact ⟨rfl, HW, HB, H8⟩
end Go.Proofs.YtibkhphbilfckaaGreatDoor

namespace Go.Proofs.YtibkhphbilfckaaGreatDoor
open Go.RowKit Scour Go.Lib

/-- Behind an append that gives any row, and the store. -/
theorem Wr.moreV {B : Nat} {w w1 : World} {bw : Nat} {xs ys : Str} {v v' : Value} (hB : B ≤ w.heap.size) (hbw : w.heap[bw]? = some (.cells #[v] 95 (0, 0))) (hr : w.ownsRow B 5 1 v xs.length (xs.map encB)) (hge : B ≤ bw)
    (ho : w1.ownsRow B 5 1 v' (xs.length + ys.length) (xs.map encB ++ ys.map encB)) (hg : w.grownBy w1 v.ownBlock) :
    Wr B (w1.setCell ⟨bw, 0, none⟩ v') bw (xs ++ ys) ∧ Below B w (w1.setCell ⟨bw, 0, none⟩ v') ∧ w1.cell? ⟨bw, 0, none⟩ = some v ∧ w1.frozen? ⟨bw, 0, none⟩ = false ∧ Keep8 w (w1.setCell ⟨bw, 0, none⟩ v') := by
  have hl := (Array.getElem?_eq_some_iff.1 hbw).1
  have hne : v.ownBlock ≠ some bw := fun e => by
    obtain ⟨cu, hcu⟩ := owns_block hr e
    exact two_types hcu hbw (by decide) rfl
  have hb1 : w1.heap[bw]? = some (.cells #[v] 95 (0, 0)) := by
    rw [hg.block bw hl (fun e => hne e.symm)]; exact hbw
  have hba : Below B w w1 := below_of_grown hg hB (own_lt hr)
  refine ⟨⟨⟨_, one_setCell hb1, ?_⟩, hge⟩, hba.trans ?_, cell_of_one hb1, free_of_one hb1, ?_⟩
  · rw [List.map_append, List.length_append]
    refine owns_kept ho (fun b _ hv => ?_)
    obtain ⟨cu, hcu⟩ := owns_block ho hv
    exact Below.heap_setCell w1 ⟨bw, 0, none⟩ _ b (two_types hcu hb1 (by decide))
  · have hs := hba.size
    exact (Mod.setCell w1 bw 0 _).below (by omega) (fun k e => by rw [e]; exact hge)
  · intro k cur e hk h1 h2
    have hkl := (Array.getElem?_eq_some_iff.1 hk).1
    rw [Below.heap_setCell w1 ⟨bw, 0, none⟩ _ k (two_types hk hbw h2), hg.block k hkl (fun e1 => ?_)]
    obtain ⟨cu, hcu⟩ := owns_block hr e1.symm
    exact two_types hk hcu h1 rfl

theorem numS_pos (n : Nat) : 0 < (numS n).length := by
  by_cases hp : n < 128
  · rw [numS_small hp]; simp
  · rw [numS_big hp]; simp
theorem owns_some {w : World} {base e s n : Nat} {v : Value} {xs : List Value} (h : w.ownsRow base e s v n xs) (hn : 0 < n) : ∃ g cap, v = .slice (some ⟨g, 0, none⟩) n cap := by
  rcases owns_form h with ⟨_, h0⟩ | ⟨g, cap, e, _⟩
  · omega
  · exact ⟨g, cap, e⟩

set_option maxHeartbeats 8000000 in
set_option maxRecDepth 100000 in
theorem wclasses_any (B bw : Nat) (xs c : Str) (vC : Value) (w : World) (h : Wr B w bw xs) (hB : B ≤ w.heap.size) (hC : w.ownsRow 0 5 1 vC c.length (c.map encB)) (hCB : ∀ b, vC.ownBlock = some b → b < B) (hc : c.length ≤ 256) (hx : xs.length < 100000000) :
    Calls Tryz.prog 37 #[.pointer (some ⟨bw, 0, none⟩), vC] w (Writes B w bw xs (numS c.length ++ c)) := by
  obtain ⟨i0, hi, hz0, hz1, hz2⟩ := info_parts Tryz.infoB
  obtain ⟨aC, cC, hvC⟩ : ∃ aC cC, vC = .slice aC c.length cC := by
    rcases owns_form hC with ⟨h1, h2⟩ | ⟨g, cc, h1, _⟩
    · exact ⟨none, 0, by rw [h1, h2]⟩
    · exact ⟨_, cc, h1⟩
  subst hvC
  unfold Writes
  have hl4 := numS_len4 c.length (by omega)
  have HC0 := hide (wnumber_any B bw xs c.length w h hB (by omega) (by omega))
  have HNL : Hid (aC = none → cC = 0 ∧ c.map encB = []) := hide fun e => by
    rcases owns_form hC with ⟨h1, h2⟩ | ⟨g, cc, h1, _⟩
    · simp only [Value.slice.injEq] at h1
      exact ⟨h1.2.2, by rw [List.length_eq_zero_iff.1 h2]; rfl⟩
    · subst e; simp at h1
  have HSR : Hid (∀ w0, Below B w w0 → ∀ ad, aC = some ad → ∀ j u, (c.map encB)[j]? = some u → w0.cell? (ad.add j) = some u) := hide fun w0 hb ad ha j u hu => by
    have hC0 : w0.ownsRow 0 5 1 (.slice aC c.length cC) c.length (c.map encB) := owns_kept hC (fun b _ hv => hb.block b (hCB b hv))
    rcases owns_form hC0 with ⟨h1, h2⟩ | ⟨g, cc, h1, _⟩
    · simp only [Value.slice.injEq] at h1; rw [h1.1] at ha; cases ha
    · simp only [Value.slice.injEq] at h1
      rw [h1.1] at ha hC0
      obtain rfl := Option.some.inj ha
      have hj : j < c.length := by
        have := (List.getElem?_eq_some_iff.1 hu).1
        simpa using this
      have := hC0.cellAt j (by omega)
      rw [hu] at this
      have e3 : (⟨g, 0, none⟩ : Addr).add j = ⟨g, j, none⟩ := by
        unfold Addr.add
        split
        · rename_i e0; simp_all
        · simp
      rw [e3]; exact this
  have hcl : (c.map encB).length = c.length := by simp
  have hoc : ∀ u ∈ c.map encB, u.oneCell' = true := fun u hu => by
    obtain ⟨x, _, rfl⟩ := List.mem_map.1 hu; rfl
  have HOC := hide hoc
  clear h hC hCB hoc
  go_enter Tryz.func37, Tryz.ntmps37
  have HK : Hid (∀ (w0 w1 : World) (v v' : Value), Hid (Below B w w0) → w0.heap[bw]? = some (.cells #[v] 95 (0, 0)) → w0.ownsRow B 5 1 v (xs ++ numS c.length).length ((xs ++ numS c.length).map encB) → B ≤ bw → w1.ownsRow B 5 1 v' ((xs ++ numS c.length).length + c.length) ((xs ++ numS c.length).map encB ++ c.map encB) → w0.grownBy w1 v.ownBlock → Wr B (w1.setCell ⟨bw, 0, none⟩ v') bw (xs ++ (numS c.length ++ c)) ∧ Below B w0 (w1.setCell ⟨bw, 0, none⟩ v') ∧ w1.cell? ⟨bw, 0, none⟩ = some v ∧ w1.frozen? ⟨bw, 0, none⟩ = false ∧ Keep8 w0 (w1.setCell ⟨bw, 0, none⟩ v')) := hide fun w0 w1 v v' hb h1 h2 h3 h4 h5 => by
    have := Wr.moreV (Nat.le_trans hB (unhide hb).size) h1 h2 h3 h4 h5
    rw [List.append_assoc] at this
    exact this
  have hlz : (xs ++ numS c.length).length < 200000000 := by rw [List.length_append]; omega
  have hpos : 0 < (xs ++ numS c.length).length := by
    have := numS_pos c.length
    rw [List.length_append]; omega
  obtain ⟨zs, hzs⟩ : ∃ zs, zs = xs ++ numS c.length := ⟨_, rfl⟩
  rw [← hzs] at HK hlz hpos
  have HZ := hide hzs
  clear hzs
  generalize hcm : c.map encB = cm at *
  clear hcm
  go_wp2_with (first | (go_at_call 77; refine (unhide HC0).mono ?_; rintro e w0 ⟨rfl, H0, B0, K0⟩; rw [← unhide HZ] at H0; obtain ⟨v, q1, q2⟩ := (unhide H0).ex; have c1 : w0.cell? ⟨bw, 0, none⟩ = some v := cell_of_one q1; have hbl : bw < w0.heap.size := (Array.getElem?_eq_some_iff.1 q1).1; have HQ1 := hide q1; have HQ2 := hide q2; clear q1 q2) | (at_builtin; go_loud (refine wpList_append_either rfl (.tmp 12) (.tmp 13) 27 rfl B 5 i0 _ 1 1 Tryz.underlying27 hi hz0 hz1 hz2 rfl (by decide) v zs.length (zs.map encB) rfl (unhide HQ2) aC c.length cC cm rfl (unhide HNL) (by omega) (unhide HSR w0 (unhide B0)) (unhide HOC) (by unfold maxLen; omega) (by omega) (Nat.le_trans hB (unhide B0).size) ?_); intro v' w1 ho hg; obtain ⟨g', cap', rfl⟩ := owns_some ho (by omega); obtain ⟨k1, k2, k3, k4, k5⟩ := unhide HK w0 w1 v _ B0 (unhide HQ1) (unhide HQ2) (unhide H0).ge ho hg; have HK1 := hide k1; have HK2 := hide k2; have HK5 := hide k5; clear ho hg k1 k2 k5))
  go_end0
  exact ⟨rfl, HK1, hide ((unhide B0).trans (unhide HK2)), hide ((unhide K0).trans (unhide HK5))⟩
end Go.Proofs.YtibkhphbilfckaaGreatDoor
