import Derived.Test.YtfpohfifdfbpkaaGreatDoorCheck
import Derived.WalkLawsBesides
import Derived.Test.YtfpohfifdfbpkaaGreatDoorCompile
import Derived.Test.YtfpohfifdfbpkaaGreatDoorBoth
import Derived.Laws.AppendOwnNone
namespace Go.Proofs.YtfpohfifdfbpkaaGreatDoor
open Go.RowKit Scour
def sltB (a b : Str) : Bool := decide (a.length < b.length) || (decide (a.length = b.length) && blt a b)
theorem sltB_iff (a b : Str) : sltB a b = true ↔ slt a b := by unfold sltB slt; simp
theorem bytesLess_eq : ∀ a b : Str, Op.bytesLess a b = blt a b
 | [], [] => rfl
 | _ :: _, [] => rfl
 | [], _ :: _ => rfl
 | a :: x, b :: y => by
   unfold Op.bytesLess blt
   rw [bytesLess_eq x y]
   rcases u8_tri a b with h | h | h
   ·simp [h]
   ·subst h; simp
   ·have hne : (a == b) = false := by
     rw [beq_eq_false_iff_ne]; rintro rfl; exact yh _ h
    simp [h, u8_lt_asymm h, hne]
set_option maxHeartbeats 400000 in
theorem ahead_any (a b : ByteArray) (w : World) :
  Calls Tryz.prog 149 #[.string a, .string b] w fun e w' => e = .returned (.bool (sltB a.data.toList b.data.toList)) /\ w' = w := by
 have ha : a.data.toList.length = a.size := by simp
 have hb : b.data.toList.length = b.size := by simp
 by_cases h1 : a.size < b.size
 ·have HP : Hid (sltB a.data.toList b.data.toList = true) := zB (by unfold sltB; rw [ha, hb]; simp [h1])
  have i1 : decide ((a.size : Int) < (b.size : Int)) = true := by simp; omega
  clear ha hb
  go_enter Tryz.func149, Tryz.ntmps149
  go_wp2
  go_ret
  exact ⟨by rw [zA HP]; rfl, rfl⟩
 ·have i1 : decide ((a.size : Int) < (b.size : Int)) = false := by simp; omega
  by_cases h2 : a.size = b.size
  ·have HP : Hid (sltB a.data.toList b.data.toList = Op.bytesLess a.toList b.toList) := zB (by unfold sltB; rw [ha, hb, ByteArray.toList_eq, ByteArray.toList_eq, bytesLess_eq]; simp [h2])
   have i2 : ((a.size : Int) == (b.size : Int)) = true := by simp [h2]
   clear ha hb h2
   go_enter Tryz.func149, Tryz.ntmps149
   go_wp2
   go_ret
   exact ⟨by rw [zA HP]; rfl, rfl⟩
  ·have HP : Hid (sltB a.data.toList b.data.toList = false) := zB (by unfold sltB; rw [ha, hb]; simp [h1, h2])
   have i2 : ((a.size : Int) == (b.size : Int)) = false := by simp; omega
   clear ha hb
   go_enter Tryz.func149, Tryz.ntmps149
   go_wp2
   go_ret
   exact ⟨by rw [zA HP]; rfl, rfl⟩
def yC (s : Str) : Value := .string ⟨s.toArray⟩
theorem Tryz.infoT : (Tryz.prog.info? 9).map (fun i => (i.zero, i.size, i.bytes)) = some (some (.string ⟨#[]⟩), 1, 16) := by kernel_rfl
def insAt (S : List Str) (k : Nat) (x : Str) : List Str := S.take k ++ [x] ++ S.drop k
end Go.Proofs.YtfpohfifdfbpkaaGreatDoor
namespace Go.Proofs.YtfpohfifdfbpkaaGreatDoor
open Go.RowKit Scour
structure Place (S : List Str) (x : Str) (k : Nat) : Prop where
 le : k <= S.length
 lo : ∀ i, i < k -> sltB (at' S i) x = true
 hi : k < S.length -> sltB (at' S k) x = false
def insS (S : List Str) (k : Nat) (x : Str) : List Str := if k < S.length /\ at' S k = x then S else insAt S k x
theorem mapT_get (S : List Str) (i : Nat) (h : i < S.length) : (S.map yC)[i]? = some (yC (at' S i)) := by
 simp [at', List.getD, h]
theorem cellT {w : World} {base g n cap : Nat} {S : List Str} (h : w.ownsRow base 9 1 (.slice (some ⟨g, 0, none⟩) n cap) n (S.map yC)) (hn : S.length = n) (i : Nat) (hi : i < n) : w.cell? ⟨g, i, none⟩ = some (.string ⟨(at' S i).toArray⟩) := by
 rw [h.cellAt i (by omega), mapT_get S i (by omega)]; rfl
theorem srcT {w W : World} {base g n cap B : Nat} {S : List Str} (h : w.ownsRow base 9 1 (.slice (some ⟨g, 0, none⟩) n cap) n (S.map yC)) (hn : S.length = n) (hb : Below B w W) (hg : g < B) (k m : Nat) (hm : k + m <= n) :
  ∀ j u, (((S.drop k).take m).map yC)[j]? = some u -> W.cell? ((⟨g, k, none⟩ : Addr).add j) = some u := by
 intro j u hj
 have hjm : j < m := by
  have := (List.getElem?_eq_some_iff.1 hj).1
  simp at this; omega
 rw [zg, hb.cell (p := ⟨g, k + j, none⟩) hg, cellT h hn (k + j) (by omega)]
 simp [List.getElem?_take_of_lt hjm, show k + j < S.length by omega] at hj
 rw [← hj]
 simp [yC, at', List.getD, show k + j < S.length by omega]
theorem oneT (l : List Str) : ∀ u ∈ l.map yC, u.oneCell' = true := by
 intro u hu
 obtain ⟨s, _, rfl⟩ := List.mem_map.1 hu
 rfl
theorem insAt_map (S : List Str) (k : Nat) (x : Str) : (insAt S k x).map yC = (S.take k).map yC ++ [yC x] ++ (S.drop k).map yC := by simp [insAt]
theorem insAt_len (S : List Str) (k : Nat) (x : Str) (h : k <= S.length) : (insAt S k x).length = S.length + 1 := by simp [insAt]; omega
theorem own_slice {g n c B : Nat} (h : B <= g) : ∀ k, (Value.slice (some ⟨g, 0, none⟩) n c).ownBlock = some k -> B <= k := by intro k hk; cases hk; exact h
set_option maxHeartbeats 2000000 in
set_option maxRecDepth 100000 in
theorem with_any (base g cap : Nat) (S : List Str) (x : Str) (w : World) (hO : w.ownsRow base 9 1 (.slice (some ⟨g, 0, none⟩) S.length cap) S.length (S.map yC)) (hpos : 0 < S.length) (h0 : at' S 0 = []) (hx : 0 < x.length) (hn : S.length < 100000) (hb : base <= w.heap.size) :
  Calls Tryz.prog 146 #[.slice (some ⟨g, 0, none⟩) S.length cap, .string ⟨x.toArray⟩] w fun e w' => ∃ g' cap' k, e = .returned (.slice (some ⟨g', 0, none⟩) (insS S k x).length cap') /\ Place S x k /\ w'.ownsRow base 9 1 (.slice (some ⟨g', 0, none⟩) (insS S k x).length cap') (insS S k x).length ((insS S k x).map yC) /\ Below w.heap.size w w' := by
 obtain ⟨i0, hi, hz0, hz1, hz2⟩ := info_parts Tryz.infoT
 have hcap := (jI hO hpos).2.2
 have hgl := (jI hO hpos).2.1
 have HO := zB hO
 have H0 := zB h0
 clear hO h0
 go_enter Tryz.func146, Tryz.ntmps146
 go_wp2
 go_loop [5] (fun v => ∃ k : Nat, v = .int .i64 k /\ k <= S.length /\ Hid (∀ i, i < k -> sltB (at' S i) x = true)) (fun v => S.length - (intOf v).toNat)
 case atStart => exact ⟨0, rfl, Nat.zero_le _, zB (fun i h => absurd h (Nat.not_lt_zero _))⟩
 case round =>
  obtain ⟨k, rfl, hk, HL⟩ := hrel
  by_cases hlt : k < S.length
  ·have c0 := cellT (zA HO) rfl k hlt
   have i1 : decide ((k : Int) < (S.length : Int)) = true := by simp; omega
   have i2 : (k : Int) < (S.length : Int) := by omega
   have HA := zB (ahead_any ⟨(at' S k).toArray⟩ ⟨x.toArray⟩ w)
   by_cases ha : sltB (at' S k) x = true
   ·have HA2 : Hid (Calls Tryz.prog 149 #[.string ⟨(at' S k).toArray⟩, .string ⟨x.toArray⟩] w fun e w' => e = .returned (.bool true) /\ w' = w) := zB (by have := zA HA; simp only [ha] at this; exact this)
    have HL2 : Hid (∀ i, i < k + 1 -> sltB (at' S i) x = true) := zB (fun i h => by
     by_cases e : i = k
     ·rw [e]; exact ha
     ·exact zA HL i (by omega))
    clear HA ha
    generalize (⟨(at' S k).toArray⟩ : ByteArray) = tk at c0 HA2
    generalize (⟨x.toArray⟩ : ByteArray) = tx at HA2 ⊢
    go_wp2_with (go_at_call 149; refine (zA HA2).mono ?_; rintro e w' ⟨rfl, rfl⟩)
    go_round
    case rel => exact ⟨k + 1, by go_num, hlt, HL2⟩
    case measure => simp [intOf]; omega
   ·have ha' : sltB (at' S k) x = false := by simpa using ha
    have HA2 : Hid (Calls Tryz.prog 149 #[.string ⟨(at' S k).toArray⟩, .string ⟨x.toArray⟩] w fun e w' => e = .returned (.bool false) /\ w' = w) := zB (by have := zA HA; simp only [ha'] at this; exact this)
    have HPL : Hid (Place S x k) := zB ⟨hk, zA HL, fun _ => ha'⟩
    have hk1 : 0 < k := by
     rcases Nat.eq_zero_or_pos k with e | e
     ·subst e
      rw [zA H0] at ha'
      unfold sltB at ha'
      simp [hx] at ha'
     ·exact e
    have htl : ((⟨(at' S k).toArray⟩ : ByteArray).toList == (⟨x.toArray⟩ : ByteArray).toList) = (at' S k == x) := by rw [ByteArray.toList_eq, ByteArray.toList_eq]
    clear HA ha ha'
    by_cases he : at' S k = x
    ·have hte : ((⟨(at' S k).toArray⟩ : ByteArray).toList == (⟨x.toArray⟩ : ByteArray).toList) = true := by rw [htl]; simp [he]
     have HIS : Hid (insS S k x = S) := zB (if_pos ⟨hlt, he⟩)
     clear htl he
     generalize (⟨(at' S k).toArray⟩ : ByteArray) = tk at c0 HA2 hte
     generalize (⟨x.toArray⟩ : ByteArray) = tx at HA2 hte ⊢
     go_wp2_with (go_at_call 149; refine (zA HA2).mono ?_; rintro e w' ⟨rfl, hw⟩; have hw' := hw.symm; clear hw; subst hw')
     go_ret
     refine ⟨g, cap, k, ?_, zA HPL, ?_, Below.refl _ _⟩
     ·rw [zA HIS]; rfl
     ·rw [zA HIS]; exact zA HO
    ·have hte : ((⟨(at' S k).toArray⟩ : ByteArray).toList == (⟨x.toArray⟩ : ByteArray).toList) = false := by rw [htl]; simp [he]
     have HIS : Hid (insS S k x = insAt S k x) := zB (if_neg (fun h => he h.2))
     clear htl he
     generalize (⟨(at' S k).toArray⟩ : ByteArray) = tk at c0 HA2 hte
     have HTX : Hid (∃ tx, tx = (⟨x.toArray⟩ : ByteArray)) := zB ⟨_, rfl⟩
     obtain ⟨tx, htx⟩ := zA HTX
     have HTE := zB htx
     rw [← htx] at HA2 hte ⊢
     clear htx HTX
     have HS1 : Hid (∀ j u, ((S.take k).map yC)[j]? = some u -> w.cell? ((⟨g, 0, none⟩ : Addr).add j) = some u) := zB (srcT (zA HO) rfl (Below.refl _ w) hgl 0 k (by omega))
     have HS3 : Hid (∀ W, Below w.heap.size w W -> ∀ j u, ((S.drop k).map yC)[j]? = some u -> W.cell? ((⟨g, k, none⟩ : Addr).add j) = some u) := zB (fun W hW => by
      have := srcT (zA HO) rfl hW hgl k (S.length - k) (by omega)
      rw [List.take_of_length_le (by simp)] at this
      exact this)
     go_wp2_with (first | (go_at_call 149; refine (zA HA2).mono ?_; rintro e w' ⟨rfl, hw⟩; have hw' := hw.symm; clear hw; subst hw') | (at_builtin; refine wpList_append_lies _ rfl (.tmp 34) (.tmp 37) 26 rfl base 9 i0 (.string ⟨#[]⟩) 1 16 Tryz.underlying26 hi hz0 hz1 hz2 rfl (by decide) _ 0 [] rfl (World.ownsRow_nil _ _ _ _) ⟨g, 0, none⟩ k cap ((S.take k).map yC) rfl (by simp; omega) (zA HS1) (oneT _) hk1 (by unfold maxLen; omega) (by omega) hb w.heap.size rfl ?_; intro g1 cap1 w1 o1 gr1 at1 lt1; simp only [Nat.zero_add, List.nil_append] at o1; have HO1 := zB o1; obtain ⟨bb1, bg1⟩ := y8 (Below.refl w.heap.size w) (Nat.le_refl _) (by intro k h; cases h) gr1 at1 rfl; have HB1 := zB bb1; have hz1' := bb1.size; clear o1 gr1 at1 bb1) | (at_builtin; refine wpList_append_lies _ rfl (.tmp 39) (.tmp 41) 26 rfl base 9 i0 (.string ⟨#[]⟩) 1 16 Tryz.underlying26 hi hz0 hz1 hz2 rfl (by decide) _ k ((S.take k).map yC) rfl ((zA HO1).alloc _) ⟨w1.heap.size, 0, none⟩ 1 1 [.string tx] rfl rfl (cell_one_new _ _ _) (by intro u hu; simp at hu; subst hu; rfl) (by omega) (by unfold maxLen; omega) (by omega) (by simp; omega) _ rfl ?_; intro g2 cap2 w2 o2 gr2 at2 lt2; have HO2 := zB o2; obtain ⟨bb2, bg2⟩ := y8 (w := w) ((zA HB1).alloc hz1' _) (by simp; omega) (own_slice bg1) gr2 at2 rfl; have HB2 := zB bb2; have hz2' := bb2.size; clear o2 gr2 at2 bb2) | (at_builtin; refine wpList_append_lies _ rfl (.tmp 43) (.tmp 46) 26 rfl base 9 i0 (.string ⟨#[]⟩) 1 16 Tryz.underlying26 hi hz0 hz1 hz2 rfl (by decide) _ (k + 1) ((S.take k).map yC ++ [Value.string tx]) rfl (zA HO2) ⟨g, k, none⟩ (S.length - k) (cap - k) ((S.drop k).map yC) rfl (by simp) (zA HS3 w2 (zA HB2)) (oneT _) (by omega) (by unfold maxLen; omega) (by omega) (by omega) _ rfl ?_; intro g3 cap3 w3 o3 gr3 at3 lt3; have HO3 := zB o3; obtain ⟨bb3, bg3⟩ := y8 (w := w) (zA HB2) (by omega) (own_slice bg2) gr3 at3 rfl; have HB3 := zB bb3; clear o3 gr3 at3 bb3))
     go_ret
     have e1 : k + 1 + (S.length - k) = (insS S k x).length := by rw [zA HIS, insAt_len S k x hk]; omega
     have e2 : (S.take k).map yC ++ [Value.string tx] ++ (S.drop k).map yC = (insS S k x).map yC := by rw [zA HIS, insAt_map, zA HTE]; rfl
     have o3 := zA HO3
     rw [e1, e2] at o3
     exact ⟨g3, cap3, k, by rw [← e1]; rfl, zA HPL, o3, zA HB3⟩
  ·obtain rfl : k = S.length := by omega
   have HPL : Hid (Place S x S.length) := zB ⟨Nat.le_refl _, zA HL, fun h => absurd h (Nat.lt_irrefl _)⟩
   have HIS : Hid (insS S S.length x = insAt S S.length x) := zB (if_neg (fun h => absurd h.1 (Nat.lt_irrefl _)))
   have HS1 : Hid (∀ j u, ((S.take S.length).map yC)[j]? = some u -> w.cell? ((⟨g, 0, none⟩ : Addr).add j) = some u) := zB (srcT (zA HO) rfl (Below.refl _ w) hgl 0 S.length (by omega))
   have HTX : Hid (∃ tx, tx = (⟨x.toArray⟩ : ByteArray)) := zB ⟨_, rfl⟩
   obtain ⟨tx, htx⟩ := zA HTX
   have HTE := zB htx
   rw [← htx]
   clear htx HTX
   by_cases hcn : cap = S.length
   ·subst hcn
    go_wp2_with (first | (at_builtin; refine wpList_append_lies _ rfl (.tmp 34) (.tmp 37) 26 rfl base 9 i0 (.string ⟨#[]⟩) 1 16 Tryz.underlying26 hi hz0 hz1 hz2 rfl (by decide) _ 0 [] rfl (World.ownsRow_nil _ _ _ _) ⟨g, 0, none⟩ S.length S.length ((S.take S.length).map yC) rfl (by simp) (zA HS1) (oneT _) hpos (by unfold maxLen; omega) (by omega) hb w.heap.size rfl ?_; intro g1 cap1 w1 o1 gr1 at1 lt1; simp only [Nat.zero_add, List.nil_append] at o1; have HO1 := zB o1; obtain ⟨bb1, bg1⟩ := y8 (Below.refl w.heap.size w) (Nat.le_refl _) (by intro k h; cases h) gr1 at1 rfl; have HB1 := zB bb1; have hz1' := bb1.size; clear o1 gr1 at1 bb1) | (at_builtin; refine wpList_append_lies _ rfl (.tmp 39) (.tmp 41) 26 rfl base 9 i0 (.string ⟨#[]⟩) 1 16 Tryz.underlying26 hi hz0 hz1 hz2 rfl (by decide) _ S.length ((S.take S.length).map yC) rfl ((zA HO1).alloc _) ⟨w1.heap.size, 0, none⟩ 1 1 [.string tx] rfl rfl (cell_one_new _ _ _) (by intro u hu; simp at hu; subst hu; rfl) (by omega) (by unfold maxLen; omega) (by omega) (by simp; omega) _ rfl ?_; intro g2 cap2 w2 o2 gr2 at2 lt2; have HO2 := zB o2; obtain ⟨bb2, bg2⟩ := y8 (w := w) ((zA HB1).alloc hz1' _) (by simp; omega) (own_slice bg1) gr2 at2 rfl; have HB2 := zB bb2; have hz2' := bb2.size; clear o2 gr2 at2 bb2) | (at_builtin; refine wpList_append_own _ rfl (.tmp 43) (.tmp 46) 26 rfl base 9 i0 (.string ⟨#[]⟩) 1 16 Tryz.underlying26 hi hz0 hz1 hz2 rfl (by decide) _ (S.length + 1) ((S.take S.length).map yC ++ [Value.string tx]) rfl (zA HO2) ⟨g, 0, none⟩ 0 0 [] rfl rfl (by intro j u h; cases h) (by intro u h; cases h) (by unfold maxLen; omega) (by omega) (by omega) ?_; intro v3 w3 o3 gr3 nn3; have HO3 := zB o3; have HB3 := zB ((zA HB2).trans (zG gr3 (by omega) (own_slice bg2))); clear o3 gr3 nn3))
    go_ret
    have e1 : S.length + 1 + 0 = (insS S S.length x).length := by rw [zA HIS, insAt_len S S.length x (Nat.le_refl _)]
    have e2 : (S.take S.length).map yC ++ [Value.string tx] ++ [] = (insS S S.length x).map yC := by rw [zA HIS, insAt_map, zA HTE]; simp [yC]
    have o3 := zA HO3
    rw [e1, e2] at o3
    obtain ⟨g3, cap3, hv3, _, _⟩ := o3.form (by omega)
    subst hv3
    exact ⟨g3, cap3, S.length, rfl, zA HPL, o3, zA HB3⟩
   ·go_wp2_with (first | (at_builtin; refine wpList_append_lies _ rfl (.tmp 34) (.tmp 37) 26 rfl base 9 i0 (.string ⟨#[]⟩) 1 16 Tryz.underlying26 hi hz0 hz1 hz2 rfl (by decide) _ 0 [] rfl (World.ownsRow_nil _ _ _ _) ⟨g, 0, none⟩ S.length cap ((S.take S.length).map yC) rfl (by simp) (zA HS1) (oneT _) hpos (by unfold maxLen; omega) (by omega) hb w.heap.size rfl ?_; intro g1 cap1 w1 o1 gr1 at1 lt1; simp only [Nat.zero_add, List.nil_append] at o1; have HO1 := zB o1; obtain ⟨bb1, bg1⟩ := y8 (Below.refl w.heap.size w) (Nat.le_refl _) (by intro k h; cases h) gr1 at1 rfl; have HB1 := zB bb1; have hz1' := bb1.size; clear o1 gr1 at1 bb1) | (at_builtin; refine wpList_append_lies _ rfl (.tmp 39) (.tmp 41) 26 rfl base 9 i0 (.string ⟨#[]⟩) 1 16 Tryz.underlying26 hi hz0 hz1 hz2 rfl (by decide) _ S.length ((S.take S.length).map yC) rfl ((zA HO1).alloc _) ⟨w1.heap.size, 0, none⟩ 1 1 [.string tx] rfl rfl (cell_one_new _ _ _) (by intro u hu; simp at hu; subst hu; rfl) (by omega) (by unfold maxLen; omega) (by omega) (by simp; omega) _ rfl ?_; intro g2 cap2 w2 o2 gr2 at2 lt2; have HO2 := zB o2; obtain ⟨bb2, bg2⟩ := y8 (w := w) ((zA HB1).alloc hz1' _) (by simp; omega) (own_slice bg1) gr2 at2 rfl; have HB2 := zB bb2; have hz2' := bb2.size; clear o2 gr2 at2 bb2) | (at_builtin; refine wpList_append_own _ rfl (.tmp 43) (.tmp 46) 26 rfl base 9 i0 (.string ⟨#[]⟩) 1 16 Tryz.underlying26 hi hz0 hz1 hz2 rfl (by decide) _ (S.length + 1) ((S.take S.length).map yC ++ [Value.string tx]) rfl (zA HO2) ⟨g, S.length, none⟩ 0 (cap - S.length) [] rfl rfl (by intro j u h; cases h) (by intro u h; cases h) (by unfold maxLen; omega) (by omega) (by omega) ?_; intro v3 w3 o3 gr3 nn3; have HO3 := zB o3; have HB3 := zB ((zA HB2).trans (zG gr3 (by omega) (own_slice bg2))); clear o3 gr3 nn3))
    go_ret
    have e1 : S.length + 1 + 0 = (insS S S.length x).length := by rw [zA HIS, insAt_len S S.length x (Nat.le_refl _)]
    have e2 : (S.take S.length).map yC ++ [Value.string tx] ++ [] = (insS S S.length x).map yC := by rw [zA HIS, insAt_map, zA HTE]; simp [yC]
    have o3 := zA HO3
    rw [e1, e2] at o3
    obtain ⟨g3, cap3, hv3, _, _⟩ := o3.form (by omega)
    subst hv3
    exact ⟨g3, cap3, S.length, rfl, zA HPL, o3, zA HB3⟩
end Go.Proofs.YtfpohfifdfbpkaaGreatDoor
namespace Go.Proofs.YtfpohfifdfbpkaaGreatDoor
open Go.RowKit Scour
theorem sltB_false {a b : Str} (h : sltB a b = false) (hne : a ≠ b) : slt b a := by
 rcases slt_tri a b with g | g | g
 ·rw [(sltB_iff a b).2 g] at h; cases h
 ·exact absurd g hne
 ·exact g
theorem insS_mem {S : List Str} {x : Str} {k : Nat} {y : Str} : y ∈ insS S k x ↔ y ∈ S \/ y = x := by
 unfold insS
 split
 ·rename_i h
  constructor
  ·exact Or.inl
  ·rintro (g | rfl)
   ·exact g
   ·rw [← h.2]; exact jO h.1
 ·unfold insAt
  simp only [List.mem_append, List.mem_singleton]
  have : y ∈ S ↔ y ∈ S.take k \/ y ∈ S.drop k := by
   conv => lhs; rw [← List.take_append_drop k S]
   rw [List.mem_append]
  rw [this]
  constructor
  ·rintro ((g | g) | g)
   ·exact Or.inl (Or.inl g)
   ·exact Or.inr g
   ·exact Or.inl (Or.inr g)
  ·rintro ((g | g) | g)
   ·exact Or.inl (Or.inl g)
   ·exact Or.inr g
   ·exact Or.inl (Or.inr g)
theorem insS_sorted {S : List Str} (hs : S.Pairwise slt) {x : Str} {k : Nat} (hp : Place S x k) : (insS S k x).Pairwise slt := by
 unfold insS
 split
 ·exact hs
 ·rename_i hne
  unfold insAt
  have hlo : ∀ a ∈ S.take k, slt a x := by
   intro a ha
   obtain ⟨i, hi, rfl⟩ := List.getElem_of_mem ha
   simp only [List.length_take] at hi
   have := (sltB_iff _ _).1 (hp.lo i (by omega))
   unfold at' at this
   simpa [List.getD, show i < S.length by omega] using this
  have hhi : ∀ a ∈ S.drop k, slt x a := by
   intro a ha
   obtain ⟨i, hi, rfl⟩ := List.getElem_of_mem ha
   simp only [List.length_drop] at hi
   have hk : k < S.length := by omega
   have h1 : slt x (at' S k) := sltB_false (hp.hi hk) (fun e => hne ⟨hk, e⟩)
   have e : (S.drop k)[i] = at' S (k + i) := by unfold at'; simp [List.getD, show k + i < S.length by omega]
   rw [e]
   rcases Nat.eq_zero_or_pos i with g | g
   ·subst g; exact h1
   ·exact slt_trans h1 (at_lt hs (by omega) (by omega))
  rw [List.append_assoc, List.pairwise_append]
  refine ⟨hs.sublist (List.take_sublist _ _), ?_, ?_⟩
  ·rw [List.singleton_append, List.pairwise_cons]
   exact ⟨hhi, hs.sublist (List.drop_sublist _ _)⟩
  ·intro a ha b hb
   rw [List.singleton_append, List.mem_cons] at hb
   rcases hb with rfl | hb
   ·exact hlo a ha
   ·exact slt_trans (hlo a ha) (hhi b hb)
theorem insS_len {S : List Str} {x : Str} {k : Nat} (hk : k <= S.length) : (insS S k x).length <= S.length + 1 /\ S.length <= (insS S k x).length := by
 unfold insS
 split
 ·omega
 ·rw [insAt_len S k x hk]; omega
theorem insS_head {S : List Str} {x : Str} {k : Nat} (h0 : at' S 0 = []) (hpos : 0 < S.length) (hp : Place S x k) (hx : 0 < x.length) : at' (insS S k x) 0 = [] := by
 unfold insS
 split
 ·exact h0
 ·have hk1 : 0 < k := by
   rcases Nat.eq_zero_or_pos k with e | e
   ·subst e
    have := hp.hi hpos
    rw [h0] at this
    unfold sltB at this
    simp [hx] at this
   ·exact e
  unfold insAt at'
  unfold at' at h0
  rw [List.append_assoc]
  simp only [List.getD_eq_getElem?_getD] at h0 ⊢
  rw [List.getElem?_append_left (by simp; omega), List.getElem?_take_of_lt hk1]
  exact h0
structure RS (ps : List Str) (i k : Nat) (R : List Str) : Prop where
 sorted : R.Pairwise slt
 pos : 0 < R.length
 head : at' R 0 = []
 mem : ∀ x, x ∈ R ↔ x = [] \/ ∃ j, (j < i \/ (j = i /\ x.length < k)) /\ 1 <= x.length /\ x.length <= (pat ps j).length /\ x = (pat ps j).take x.length
 len : R.length <= 1 + 64 * i + (k - 1)
theorem RS.start (ps : List Str) : RS ps 0 1 [[]] := by
 refine ⟨by simp, by simp, rfl, ?_, by simp⟩
 intro x
 constructor
 ·intro h; exact Or.inl (by simpa using h)
 ·rintro (e | ⟨j, (h | ⟨_, h⟩), h2, _⟩)
  ·simp [e]
  ·omega
  ·omega
theorem RS.step {ps : List Str} {i k q : Nat} {R : List Str} (h : RS ps i k R) (h1 : 1 <= k) (h2 : k <= (pat ps i).length) (hp : Place R ((pat ps i).take k) q) : RS ps i (k + 1) (insS R q ((pat ps i).take k)) := by
 have hl : ((pat ps i).take k).length = k := by rw [List.length_take]; omega
 refine ⟨insS_sorted h.sorted hp, by have := (insS_len (x := (pat ps i).take k) hp.le).2; have := h.pos; omega, insS_head h.head h.pos hp (by omega), ?_, by have := (insS_len (x := (pat ps i).take k) hp.le).1; have := h.len; omega⟩
 intro x
 rw [insS_mem, h.mem]
 constructor
 ·rintro ((e | ⟨j, hj, g⟩) | e)
  ·exact Or.inl e
  ·refine Or.inr ⟨j, ?_, g⟩
   rcases hj with hj | ⟨hj, hj'⟩
   ·exact Or.inl hj
   ·exact Or.inr ⟨hj, by omega⟩
  ·exact Or.inr ⟨i, Or.inr ⟨rfl, by rw [e, hl]; omega⟩, by rw [e, hl]; exact h1, by rw [e, hl]; exact h2, by rw [e, hl]⟩
 ·rintro (e | ⟨j, hj, g1, g2, g3⟩)
  ·exact Or.inl (Or.inl e)
  ·rcases hj with hj | ⟨rfl, hj⟩
   ·exact Or.inl (Or.inr ⟨j, Or.inl hj, g1, g2, g3⟩)
   ·by_cases e : x.length = k
    ·right; rw [g3, e]
    ·exact Or.inl (Or.inr ⟨j, Or.inr ⟨rfl, by omega⟩, g1, g2, g3⟩)
theorem RS.next {ps : List Str} {i k : Nat} {R : List Str} (h : RS ps i k R) (hk : k = (pat ps i).length + 1) (h64 : (pat ps i).length <= 64) : RS ps (i + 1) 1 R := by
 refine ⟨h.sorted, h.pos, h.head, ?_, by have := h.len; omega⟩
 intro x
 rw [h.mem]
 constructor
 ·rintro (e | ⟨j, hj, g⟩)
  ·exact Or.inl e
  ·exact Or.inr ⟨j, Or.inl (by omega), g⟩
 ·rintro (e | ⟨j, hj, g1, g2, g3⟩)
  ·exact Or.inl e
  ·refine Or.inr ⟨j, ?_, g1, g2, g3⟩
   rcases hj with hj | ⟨_, hj⟩
   ·by_cases e : j = i
    ·subst e; exact Or.inr ⟨rfl, by omega⟩
    ·exact Or.inl (by omega)
   ·omega
end Go.Proofs.YtfpohfifdfbpkaaGreatDoor
namespace Go.Proofs.YtfpohfifdfbpkaaGreatDoor
open Go.RowKit Scour
def TxtIn (w : World) (B : Nat) (ap : Option Addr) (ps : List Str) : Prop :=
 0 < ps.length -> ∃ b o, b < B /\ ap = some ⟨b, o, none⟩ /\ ∀ i, i < ps.length -> w.cell? ⟨b, o + i, none⟩ = some (.string ⟨(pat ps i).toArray⟩)
theorem TxtIn.below {w w' : World} {B B' : Nat} {ap : Option Addr} {ps : List Str} (h : TxtIn w B ap ps) (hb : Below B' w w') (hB : B <= B') : TxtIn w' B ap ps := fun h0 => by
 obtain ⟨b, o, h1, h2, h3⟩ := h h0
 exact ⟨b, o, h1, h2, fun i hi => (hb.cell (p := ⟨b, o + i, none⟩) (by show b < B'; omega)).trans (h3 i hi)⟩
theorem extract_take (x : Str) (k : Nat) : (⟨x.toArray⟩ : ByteArray).extract 0 k = ⟨(x.take k).toArray⟩ := by
 apply ByteArray.ext
 simp [ByteArray.data_extract]
set_option maxHeartbeats 2000000 in
set_option maxRecDepth 100000 in
theorem rstates_any (ap : Option Addr) (cap : Nat) (ps : List Str) (w : World) (hS : TxtIn w w.heap.size ap ps) (hps : ps.length <= 64) (hpl : ∀ i, i < ps.length -> (pat ps i).length <= 64) :
  Calls Tryz.prog 123 #[.slice ap ps.length cap] w fun e w' => ∃ g cap' R, e = .returned (.slice (some ⟨g, 0, none⟩) R.length cap') /\ RS ps ps.length 1 R /\ w'.ownsRow w.heap.size 9 1 (.slice (some ⟨g, 0, none⟩) R.length cap') R.length (R.map yC) /\ Below w.heap.size w w' := by
 have HS := zB hS
 have HPL := zB hpl
 clear hS hpl
 have hown0 := World.ownsRow_lit (base := w.heap.size) (e := 9) (size := 1) w #[.string ⟨#[]⟩] 1 (Nat.le_refl _) (by unfold maxLen; omega) rfl
 have HO0 := zB hown0
 clear hown0
 go_enter Tryz.func123, Tryz.ntmps123
 go_wp2
 go_loopw [3, 4] (fun v3 v4 wr => ∃ (i g c : Nat) (R : List Str), v3 = .slice (some ⟨g, 0, none⟩) R.length c /\ v4 = .int .i64 i /\ i <= ps.length /\ Hid (RS ps i 1 R) /\ Hid (wr.ownsRow w.heap.size 9 1 (.slice (some ⟨g, 0, none⟩) R.length c) R.length (R.map yC)) /\ Hid (Below w.heap.size w wr)) (fun _ v4 _ => ps.length - (intOf v4).toNat)
 case atStart => exact ⟨0, w.heap.size, 1, [[]], rfl, rfl, Nat.zero_le _, zB (RS.start ps), HO0, zB ((Below.refl _ _).alloc (Nat.le_refl _) _)⟩
 case round =>
  obtain ⟨i, g, c, R, rfl, rfl, hi, HR, HO, HB⟩ := hrel
  by_cases hlt : i < ps.length
  ·obtain ⟨b, o, hb, rfl, hcell⟩ := zA HS (by omega)
   have hpi := zA HPL i hlt
   have HCL : Hid (∀ W, Below w.heap.size w W -> W.cell? ⟨b, o + i, none⟩ = some (.string ⟨(pat ps i).toArray⟩)) := zB (fun W hW => (hW.cell (p := ⟨b, o + i, none⟩) hb).trans (hcell i hlt))
   have i1 : (i : Int) < (ps.length : Int) := by omega
   have i0' : (0 : Int) <= (i : Int) := by omega
   clear hcell
   go_wp2_with fail
   go_loopw [3, 5] (fun v3 v5 wz => ∃ (k g' c' : Nat) (R' : List Str), v3 = .slice (some ⟨g', 0, none⟩) R'.length c' /\ v5 = .int .i64 k /\ 1 <= k /\ k <= (pat ps i).length + 1 /\ Hid (RS ps i k R') /\ Hid (wz.ownsRow w.heap.size 9 1 (.slice (some ⟨g', 0, none⟩) R'.length c') R'.length (R'.map yC)) /\ Hid (Below w.heap.size w wz)) (fun _ v5 _ => (pat ps i).length + 1 - (intOf v5).toNat)
   case atStart => exact ⟨1, g, c, R, rfl, rfl, Nat.le_refl _, by omega, HR, HO, HB⟩
   case round =>
    rename World => wz
    obtain ⟨k, g', c', R', rfl, rfl, hk1, hk2, HR', HO', HB'⟩ := hrel
    have c0 := zA HCL wz (zA HB')
    have hszz := (zA HB').size
    have hsl : (⟨(pat ps i).toArray⟩ : ByteArray).size = (pat ps i).length := by simp [ByteArray.size]
    by_cases hkk : k <= (pat ps i).length
    ·have hr := zA HR'
     have hwl := with_any w.heap.size g' c' R' ((pat ps i).take k) wz (zA HO') hr.pos hr.head (by rw [List.length_take]; omega) (by have := hr.len; omega) hszz
     rw [← extract_take] at hwl
     have HW := zB hwl
     have HST : Hid (∀ q, Place R' ((pat ps i).take k) q -> RS ps i (k + 1) (insS R' q ((pat ps i).take k))) := zB (fun q hq => hr.step hk1 hkk hq)
     have j1 : (k : Int) <= ((⟨(pat ps i).toArray⟩ : ByteArray).size : Int) := by omega
     have j2 : (0 : Int) <= (k : Int) := by omega
     have j3 : ((⟨(pat ps i).toArray⟩ : ByteArray).size : Int) < 1000 := by omega
     have HSL := zB hsl
     clear hr hwl hsl
     generalize (⟨(pat ps i).toArray⟩ : ByteArray) = ti at c0 HW j1 j3 HSL
     go_wp2_with (go_at_call 146; refine (zA HW).mono ?_; rintro e w2 ⟨g2, c2, q, rfl, hpl2, ho2, hb2⟩; have HR2 := zB (zA HST q hpl2); have HO2 := zB ho2; have HB2 := zB ((zA HB').trans (hb2.mono hszz)); clear hpl2 ho2 hb2)
     go_roundw
     case rel => exact ⟨k + 1, g2, c2, _, rfl, by go_num, by omega, by omega, HR2, HO2, HB2⟩
     case measure => simp [intOf]; omega
    ·have HRN := zB ((zA HR').next (by omega) hpi)
     have j1 : ¬ (k : Int) <= ((⟨(pat ps i).toArray⟩ : ByteArray).size : Int) := by omega
     clear hsl
     generalize (⟨(pat ps i).toArray⟩ : ByteArray) = ti at c0 j1
     go_wp2_with fail
     go_roundw
     case rel => exact ⟨i + 1, g', c', R', rfl, by go_num, hlt, HRN, HO', HB'⟩
     case measure => simp [intOf]; omega
  ·obtain rfl : i = ps.length := by omega
   have HRW := HR
   go_wp2_with fail
   go_ret
   exact ⟨g, c, R, rfl, zA HR, zA HO, zA HB⟩
end Go.Proofs.YtfpohfifdfbpkaaGreatDoor
namespace Go.Proofs.YtfpohfifdfbpkaaGreatDoor
open Go.RowKit Scour
structure yZ (w : World) (br : Nat) (vL : Value) (gS cS : Nat) (ps S : List Str) : Prop where
 blk : w.heap[br]? = some (.cells #[vL, .slice (some ⟨gS, 0, none⟩) S.length cS] 183 (0, 0))
 lrow : w.ownsRow 0 9 1 vL ps.length (ps.map yC)
 srow : w.ownsRow 0 9 1 (.slice (some ⟨gS, 0, none⟩) S.length cS) S.length (S.map yC)
 sorted : S.Pairwise slt
 pos : 0 < S.length
 head : at' S 0 = []
 closed : Closed S
 len : S.length < 10000
def findN (S : List Str) (x : Str) : Int := if x ∈ S then (S.idxOf x : Nat) else -1
theorem find_end {S : List Str} (hs : S.Pairwise slt) {x : Str} {k : Nat} (hp : Place S x k) : (k < S.length /\ at' S k = x -> findN S x = (k : Nat)) /\ (¬ (k < S.length /\ at' S k = x) -> findN S x = -1) := by
 constructor
 ·rintro ⟨h1, h2⟩
  have hm : x ∈ S := h2 ▸ jO h1
  unfold findN
  rw [if_pos hm, ← h2, idx_at hs h1]
 ·intro h
  unfold findN
  rw [if_neg]
  intro hm
  have hi := List.idxOf_lt_length_of_mem hm
  have he := jV hm
  generalize S.idxOf x = j at hi he
  rcases Nat.lt_trichotomy j k with g | g | g
  ·have := (sltB_iff _ _).1 (hp.lo j g)
   rw [he] at this
   exact jF _ this
  ·subst g; exact h ⟨hi, he⟩
  ·have h1 := at_lt hs hi g
   rw [he] at h1
   have := hp.hi (by omega)
   rw [(sltB_iff _ _).2 h1] at this
   cases this
set_option maxHeartbeats 2000000 in
set_option maxRecDepth 100000 in
theorem rfind_any (br gS cS : Nat) (vL : Value) (ps S : List Str) (x : Str) (w : World) (hM : yZ w br vL gS cS ps S) :
  Calls Tryz.prog 130 #[.pointer (some ⟨br, 0, none⟩), .string ⟨x.toArray⟩] w fun e w' => e = .returned (.int .i64 (findN S x)) /\ w' = w := by
 have c0 : w.cell? ⟨br, 1, none⟩ = some (.slice (some ⟨gS, 0, none⟩) S.length cS) := by rw [zC hM.blk]; rfl
 have HC : Hid (∀ i, i < S.length -> w.cell? ⟨gS, i, none⟩ = some (.string ⟨(at' S i).toArray⟩)) := zB (fun i hi => cellT hM.srow rfl i hi)
 have HS := zB hM.sorted
 have hn := hM.len
 clear hM
 obtain ⟨tx, htx⟩ : ∃ tx, tx = (⟨x.toArray⟩ : ByteArray) := ⟨_, rfl⟩
 rw [← htx]
 have HTX := zB htx
 clear htx
 go_enter Tryz.func130, Tryz.ntmps130
 go_wp2
 go_loop [5, 6] (fun v5 v6 => ∃ lo hi : Nat, v5 = .int .i64 lo /\ v6 = .int .i64 hi /\ lo <= hi /\ hi <= S.length /\ Hid (∀ i, i < lo -> sltB (at' S i) x = true) /\ Hid (∀ i, hi <= i -> i < S.length -> sltB (at' S i) x = false)) (fun v5 v6 => (intOf v6).toNat - (intOf v5).toNat)
 case atStart => exact ⟨0, S.length, rfl, rfl, Nat.zero_le _, Nat.le_refl _, zB (fun i h => absurd h (Nat.not_lt_zero _)), zB (fun i h1 h2 => absurd h1 (by omega))⟩
 case round =>
  obtain ⟨lo, hi, rfl, rfl, h1, h2, HL, HH⟩ := hrel
  by_cases hlt : lo < hi
  ·have hk1 : lo <= (lo + hi) / 2 := by omega
   have hk2 : (lo + hi) / 2 < hi := by omega
   have c1 := zA HC ((lo + hi) / 2) (by omega)
   have HA := zB (ahead_any ⟨(at' S ((lo + hi) / 2)).toArray⟩ tx w)
   have HA' : Hid (Calls Tryz.prog 149 #[.string ⟨(at' S ((lo + hi) / 2)).toArray⟩, .string tx] w fun e w' => e = .returned (.bool (sltB (at' S ((lo + hi) / 2)) x)) /\ w' = w) := zB (by
    have := zA HA
    rw [zA HTX] at this ⊢
    simpa using this)
   have i1 : (((lo + hi) / 2 : Nat) : Int) < (S.length : Int) := by omega
   clear HA
   by_cases ha : sltB (at' S ((lo + hi) / 2)) x = true
   ·rw [ha] at HA'
    have HL2 : Hid (∀ i, i < (lo + hi) / 2 + 1 -> sltB (at' S i) x = true) := zB (fun i hi' => by
     by_cases e : i = (lo + hi) / 2
     ·rw [e]; exact ha
     ·refine (sltB_iff _ _).2 (slt_trans (at_lt (zA HS) (by omega) (show i < (lo + hi) / 2 by omega)) ((sltB_iff _ _).1 ha)))
    clear ha
    generalize (⟨(at' S ((lo + hi) / 2)).toArray⟩ : ByteArray) = tk at c1 HA'
    go_wp2_with (go_at_call 149; refine (zA HA').mono ?_; rintro e w' ⟨rfl, hw⟩; have hw' := hw.symm; clear hw; subst hw')
    go_round
    case rel => exact ⟨(lo + hi) / 2 + 1, hi, by go_num, rfl, by omega, h2, HL2, HH⟩
    case measure => simp [intOf]; omega
   ·have ha' : sltB (at' S ((lo + hi) / 2)) x = false := by simpa using ha
    rw [ha'] at HA'
    have HH2 : Hid (∀ i, (lo + hi) / 2 <= i -> i < S.length -> sltB (at' S i) x = false) := zB (fun i g1 g2 => by
     by_cases e : i = (lo + hi) / 2
     ·rw [e]; exact ha'
     ·cases hc : sltB (at' S i) x with
      | false => rfl
      | true =>
        have := (sltB_iff _ _).2 (slt_trans (at_lt (zA HS) g2 (show (lo + hi) / 2 < i by omega)) ((sltB_iff _ _).1 hc))
        rw [this] at ha'; cases ha')
    clear ha ha'
    generalize (⟨(at' S ((lo + hi) / 2)).toArray⟩ : ByteArray) = tk at c1 HA'
    go_wp2_with (go_at_call 149; refine (zA HA').mono ?_; rintro e w' ⟨rfl, hw⟩; have hw' := hw.symm; clear hw; subst hw')
    go_round
    case rel => exact ⟨lo, (lo + hi) / 2, rfl, by go_num, by omega, by omega, HL, HH2⟩
    case measure => simp [intOf]; omega
  ·obtain rfl : lo = hi := by omega
   have hpl : Place S x lo := ⟨h2, zA HL, fun h => zA HH lo (Nat.le_refl _) h⟩
   have hfe := find_end (zA HS) hpl
   by_cases hln : lo < S.length
   ·have c1 := zA HC lo hln
    have i1 : decide ((lo : Int) < (S.length : Int)) = true := by simp; omega
    have i2 : (lo : Int) < (S.length : Int) := by omega
    have htl : ((⟨(at' S lo).toArray⟩ : ByteArray).toList == tx.toList) = (at' S lo == x) := by rw [zA HTX, ByteArray.toList_eq, ByteArray.toList_eq]
    by_cases he : at' S lo = x
    ·have hte : ((⟨(at' S lo).toArray⟩ : ByteArray).toList == tx.toList) = true := by rw [htl]; simp [he]
     have HF := zB (hfe.1 ⟨hln, he⟩)
     clear htl he hfe hpl
     generalize (⟨(at' S lo).toArray⟩ : ByteArray) = tk at c1 hte
     go_wp2
     go_ret
     exact ⟨by rw [zA HF]; rfl, rfl⟩
    ·have hte : ((⟨(at' S lo).toArray⟩ : ByteArray).toList == tx.toList) = false := by rw [htl]; simp [he]
     have HF := zB (hfe.2 (fun h => he h.2))
     clear htl he hfe hpl
     generalize (⟨(at' S lo).toArray⟩ : ByteArray) = tk at c1 hte
     go_wp2
     go_ret
     exact ⟨by rw [zA HF]; rfl, rfl⟩
   ·have i1 : decide ((lo : Int) < (S.length : Int)) = false := by simp; omega
    have HF := zB (hfe.2 (fun h => hln h.1))
    clear hfe hpl
    go_wp2
    go_ret
    exact ⟨by rw [zA HF]; rfl, rfl⟩
end Go.Proofs.YtfpohfifdfbpkaaGreatDoor
namespace Go.Proofs.YtfpohfifdfbpkaaGreatDoor
open Go.RowKit Scour
theorem lsuf_drop (S : List Str) (x : Str) : ∀ k, k <= x.length -> (∀ i, i < k -> x.drop i ∉ S) -> yI S x = yI S (x.drop k)
 | 0, _, _ => rfl
 | k + 1, hk, h => by
   rw [lsuf_drop S x k (by omega) (fun i hi => h i (by omega))]
   have : x.drop k = x[k] :: x.drop (k + 1) := List.drop_eq_getElem_cons (by omega)
   have hn := h k (by omega)
   rw [this] at hn ⊢
   rw [yI, if_neg hn]
theorem jT (x : Str) (k : Nat) : (⟨x.toArray⟩ : ByteArray).extract k (⟨x.toArray⟩ : ByteArray).size = ⟨(x.drop k).toArray⟩ := by
 apply ByteArray.ext
 simp [ByteArray.data_extract, ByteArray.size]
 exact List.take_of_length_le (by simp)
set_option maxHeartbeats 2000000 in
theorem rlongest_any (br gS cS : Nat) (vL : Value) (ps S : List Str) (x : Str) (w : World) (hM : yZ w br vL gS cS ps S) (hx : x.length < 1000000) :
  Calls Tryz.prog 131 #[.pointer (some ⟨br, 0, none⟩), .string ⟨x.toArray⟩] w fun e w' => e = .returned (.int .i64 (S.idxOf (yI S x) : Nat)) /\ w' = w := by
 have hnil : [] ∈ S := hM.head ▸ jO hM.pos
 have HF := zB (fun k => rfind_any br gS cS vL ps S (x.drop k) w hM)
 clear hM
 have hsz : (⟨x.toArray⟩ : ByteArray).size = x.length := by simp [ByteArray.size]
 obtain ⟨tx, htx⟩ : ∃ tx, tx = (⟨x.toArray⟩ : ByteArray) := ⟨_, rfl⟩
 have HF' : Hid (∀ k, Calls Tryz.prog 130 #[.pointer (some ⟨br, 0, none⟩), .string (tx.extract k tx.size)] w fun e w' => e = .returned (.int .i64 (findN S (x.drop k))) /\ w' = w) := zB (fun k => by
  rw [htx, jT]; exact zA HF k)
 rw [← htx] at hsz ⊢
 clear htx HF
 have hs2 : tx.size < 1000000 := by omega
 have HSZ := zB hsz
 clear hsz
 go_enter Tryz.func131, Tryz.ntmps131
 go_wp2
 go_loop [5] (fun v => ∃ k : Nat, v = .int .i64 k /\ k <= tx.size /\ Hid (∀ i, i < k -> x.drop i ∉ S)) (fun v => tx.size + 1 - (intOf v).toNat)
 case atStart => exact ⟨0, rfl, Nat.zero_le _, zB (fun i h => absurd h (Nat.not_lt_zero _))⟩
 case round =>
  obtain ⟨k, rfl, hk, HK⟩ := hrel
  have hsz := zA HSZ
  have hc := zA HF' k
  by_cases hm : x.drop k ∈ S
  ·have e1 : findN S (x.drop k) = (S.idxOf (yI S x) : Nat) := by
    unfold findN; rw [if_pos hm, lsuf_drop S x k (by omega) (zA HK), lsuf_of_mem S _ hm]
   rw [e1] at hc
   have HC := zB hc
   clear hc e1 hm hsz
   go_wp2_with (go_at_call 130; refine (zA HC).mono ?_; rintro e w' ⟨rfl, hw⟩; have hw' := hw.symm; clear hw; subst hw')
   go_ret
   exact ⟨rfl, rfl⟩
  ·have hkl : k < tx.size := by
    rcases Nat.lt_or_ge k tx.size with h | h
    ·exact h
    ·exact absurd (by rw [List.drop_eq_nil_of_le (by omega)]; exact hnil) hm
   have e1 : findN S (x.drop k) = -1 := by unfold findN; rw [if_neg hm]
   rw [e1] at hc
   have HC := zB hc
   have HK2 : Hid (∀ i, i < k + 1 -> x.drop i ∉ S) := zB (fun i h => by
    by_cases e : i = k
    ·rw [e]; exact hm
    ·exact zA HK i (by omega))
   clear hc e1 hm hsz
   go_wp2_with (go_at_call 130; refine (zA HC).mono ?_; rintro e w' ⟨rfl, hw⟩; have hw' := hw.symm; clear hw; subst hw')
   go_round
   case rel => exact ⟨k + 1, by go_num, hkl, HK2⟩
   case measure => simp [intOf]; omega
theorem yZ.below {w w' : World} {br gS cS : Nat} {vL : Value} {ps S : List Str} (h : yZ w br vL gS cS ps S) (hb : Below w.heap.size w w') : yZ w' br vL gS cS ps S :=
 ⟨(hb.block br (Array.getElem?_eq_some_iff.1 h.blk).1).trans h.blk, h.lrow.kept (zM hb none) (by cases vL.ownBlock <;> simp), h.srow.kept (zM hb none) (by simp [Value.ownBlock]), h.sorted, h.pos, h.head, h.closed, h.len⟩
theorem append_bytes (x : Str) (b : UInt8) : (⟨x.toArray⟩ : ByteArray) ++ (⟨#[b]⟩ : ByteArray) = ⟨(x ++ [b]).toArray⟩ := by
 apply ByteArray.ext
 simp
set_option maxHeartbeats 2000000 in
set_option maxRecDepth 100000 in
theorem rnext_any (br gS cS : Nat) (vL : Value) (ps S : List Str) (n : Nat) (b : UInt8) (w : World) (hM : yZ w br vL gS cS ps S) (hn : n < S.length) (hl : (at' S n).length < 1000) :
  Calls Tryz.prog 127 #[.pointer (some ⟨br, 0, none⟩), .int .i64 n, .int .u8 b.toNat] w fun e w' => e = .returned (.int .i64 (zO S n b)) /\ Below w.heap.size w w' := by
 have c0 : w.cell? ⟨br, 1, none⟩ = some (.slice (some ⟨gS, 0, none⟩) S.length cS) := by rw [zC hM.blk]; rfl
 have c1 := cellT hM.srow rfl n hn
 have i1 : (n : Int) < (S.length : Int) := by omega
 have hbA : Below w.heap.size w (w.alloc (.cells #[.int .u8 b.toNat] 5)).drew := ((Below.refl _ _).alloc (Nat.le_refl _) _).drew
 have hcv : (convert 27 9 (.slice (some ⟨w.heap.size, 0, none⟩) 1 1)).run Tryz.prog (w.alloc (.cells #[.int .u8 b.toNat] 5)).drew = .ok (.string ⟨#[b]⟩) (w.alloc (.cells #[.int .u8 b.toNat] 5)).drew :=
  run_convert_bytes_back _ 27 9 5 ⟨w.heap.size, 0, none⟩ 1 [b] Tryz.underlying27 Tryz.underlying5 Tryz.underlying9 (fun j hj => by
   have : j = 0 := by simp at hj; exact hj
   subst this
   rw [zg]
   exact zC (w := (w.alloc (.cells #[.int .u8 b.toNat] 5)).drew) (heap_alloc_new w _) (0 + 0))
 have HL := zB (rlongest_any br gS cS vL ps S (at' S n ++ [b]) _ (hM.below hbA) (by simp; omega))
 have HB := zB hbA
 have hlt := (jI hM.srow hM.pos).2.1
 have hbr := (Array.getElem?_eq_some_iff.1 hM.blk).1
 clear hM hbA
 have hs1 : (⟨(at' S n).toArray⟩ : ByteArray).size < 1000 := by simpa [ByteArray.size] using hl
 have e1 := append_bytes (at' S n) b
 rw [← e1] at HL
 clear e1
 have HN : Hid (∃ r, r = zO S n b) := zB ⟨_, rfl⟩
 obtain ⟨r, hr⟩ := zA HN
 unfold zO at hr
 rw [← hr] at HL
 have HR : Hid (zO S n b = r) := zB (by rw [hr]; rfl)
 clear hr HN
 generalize (⟨(at' S n).toArray⟩ : ByteArray) = ts at c1 HL hs1
 go_enter Tryz.func127, Tryz.ntmps127
 go_wp2_with fail
 go_region_with (first | (go_at_call 131; refine (zA HL).mono ?_; rintro e w' ⟨rfl, hw⟩; have hw' := hw.symm; clear hw; subst hw'))
 all_goals go_wp2
 all_goals go_ret
 all_goals exact ⟨by rw [zA HR]; rfl, zA HB⟩
end Go.Proofs.YtfpohfifdfbpkaaGreatDoor
namespace Go.Proofs.YtfpohfifdfbpkaaGreatDoor
open Go.RowKit Scour
set_option maxHeartbeats 1000000 in
theorem rNext_low (p : Value) (n b : Int) (w : World) (hn : n < 0) :
  Calls Tryz.prog 94 #[p, .int .i64 n, .int .u8 b] w fun e w' => e = .returned (.tuple #[.int .i64 0, .int .i64 1]) /\ w' = w := by
 go_enter Tryz.func94, Tryz.ntmps94
 go_wp2
 go_ret2
 exact ⟨rfl, rfl⟩
set_option maxHeartbeats 1000000 in
theorem rNext_high (br gS cS : Nat) (vL : Value) (ps S : List Str) (n b : Int) (w : World) (hM : yZ w br vL gS cS ps S) (hn : (S.length : Int) <= n) :
  Calls Tryz.prog 94 #[.pointer (some ⟨br, 0, none⟩), .int .i64 n, .int .u8 b] w fun e w' => e = .returned (.tuple #[.int .i64 0, .int .i64 1]) /\ w' = w := by
 have c0 : w.cell? ⟨br, 1, none⟩ = some (.slice (some ⟨gS, 0, none⟩) S.length cS) := by rw [zC hM.blk]; rfl
 have h0 : 0 <= n := by omega
 clear hM
 go_enter Tryz.func94, Tryz.ntmps94
 go_wp2
 go_ret2
 exact ⟨rfl, rfl⟩
set_option maxHeartbeats 1000000 in
theorem rNext_in (br gS cS : Nat) (vL : Value) (ps S : List Str) (n : Nat) (b : UInt8) (w : World) (hM : yZ w br vL gS cS ps S) (hn : n < S.length) (hl : (at' S n).length < 1000) :
  Calls Tryz.prog 94 #[.pointer (some ⟨br, 0, none⟩), .int .i64 n, .int .u8 b.toNat] w fun e w' => e = .returned (.tuple #[.int .i64 (zO S n b), .int .i64 0]) /\ Below w.heap.size w w' := by
 have c0 : w.cell? ⟨br, 1, none⟩ = some (.slice (some ⟨gS, 0, none⟩) S.length cS) := by rw [zC hM.blk]; rfl
 have HC := zB (rnext_any br gS cS vL ps S n b w hM hn hl)
 have hsl := hM.len
 clear hM
 have i1 : ¬ (S.length : Int) <= (n : Int) := by omega
 go_enter Tryz.func94, Tryz.ntmps94
 go_wp2_with (go_at_call 127; refine (zA HC).mono ?_; rintro e w' ⟨rfl, hbw⟩)
 go_ret2
 exact ⟨rfl, hbw⟩
theorem RS.closed {ps : List Str} {R : List Str} {i : Nat} (h : RS ps i 1 R) : Closed R := by
 intro y c hm
 rcases (h.mem _).1 hm with e | ⟨j, hj, h1, h2, h3⟩
 ·simp at e
 ·rw [h.mem]
  by_cases hy : y = []
  ·exact Or.inl hy
  ·right
   have hl : (y ++ [c]).length = y.length + 1 := by simp
   have hyp : 1 <= y.length := by
    rcases Nat.eq_zero_or_pos y.length with e | e
    ·exact absurd (List.length_eq_zero_iff.1 e) hy
    ·exact e
   refine ⟨j, Or.inl (by omega), hyp, by omega, ?_⟩
   have := congrArg (List.take y.length) h3
   rw [List.take_append_of_le_length (Nat.le_refl _), List.take_length, List.take_take] at this
   rw [show min y.length (y ++ [c]).length = y.length by omega] at this
   exact this
theorem RS.states {ps S R : List Str} {E : Nat -> Int} {par lst : Nat -> Int} (h : RS ps ps.length 1 R) (hS : zm ps S E) (hR : Rep S par lst) : R = S := by
 refine sorted_eq R S h.sorted hR.sorted (fun x => ?_)
 rw [h.mem, hS.mem]
 constructor
 ·rintro (e | ⟨j, hj, g⟩)
  ·exact Or.inl e
  ·exact Or.inr ⟨j, by omega, g⟩
 ·rintro (e | ⟨j, hj, g⟩)
  ·exact Or.inl e
  ·exact Or.inr ⟨j, Or.inl hj, g⟩
theorem txt_empty {x : Str} (h : x.length = 0) : (⟨x.toArray⟩ : ByteArray).toList.isEmpty = true := by
 rw [ByteArray.toList_eq]; obtain rfl := List.length_eq_zero_iff.1 h; rfl
theorem txt_not {x : Str} (h : x.length ≠ 0) : (⟨x.toArray⟩ : ByteArray).toList.isEmpty = false := by
 rw [ByteArray.toList_eq]
 match x, h with
 | _ :: _, _ => rfl
set_option maxHeartbeats 2000000 in
set_option maxRecDepth 100000 in
theorem rcompile_bad (ap : Option Addr) (cap : Nat) (ps : List Str) (w : World) (hS : TxtIn w w.heap.size ap ps) (hbig : ps.length <= 9000000000000000000) (hl : ∀ i, i < ps.length -> (pat ps i).length <= 9000000000000000000) (hc : (chk ps).1 ≠ 0) :
  Calls Tryz.prog 86 #[.slice ap ps.length cap] w fun e w' => e = .returned (.tuple #[.pointer none, .int .i64 (chk ps).1, .int .i64 (chk ps).2]) /\ w' = w := by
 by_cases hm : 64 < ps.length
 ·have HC : Hid (chk ps = (2, 0)) := zB (by unfold chk; rw [if_pos hm])
  clear hc
  go_enter Tryz.func86, Tryz.ntmps86
  go_wp2
  go_ret3
  rw [zA HC]
  exact ⟨rfl, rfl⟩
 ·have HC : Hid (chk ps = zr ps 0 0) := zB (by unfold chk; rw [if_neg hm])
  have HP := zB hS
  have HL := zB hl
  have HNZ := zB hc
  clear hS hl hc
  go_enter Tryz.func86, Tryz.ntmps86
  go_wp2
  go_loop [5, 6] (fun v5 v6 => ∃ k t : Nat, v5 = .int .i64 t /\ v6 = .int .i64 k /\ k <= ps.length /\ t <= 64 * k /\ Hid (chk ps = zr (ps.drop k) k t)) (fun _ v6 => ps.length - (intOf v6).toNat)
  case atStart => exact ⟨0, 0, rfl, rfl, Nat.zero_le _, by omega, zB (by rw [zA HC]; rfl)⟩
  case round =>
   obtain ⟨k, t, rfl, rfl, hk, ht, HR⟩ := hrel
   by_cases hlt : k < ps.length
   ·obtain ⟨b, o, hb, rfl, hcell⟩ := zA HP (by omega)
    have h4 := hcell k hlt
    have hlk := zA HL k hlt
    have hd := drop_pat hlt
    have i1 : (k : Int) < (ps.length : Int) := by omega
    have HR2 : Hid (chk ps = if (pat ps k).length = 0 then (3, (k : Int)) else if 64 < (pat ps k).length then (4, (k : Int)) else zr (ps.drop (k + 1)) (k + 1) (t + (pat ps k).length)) := zB (by rw [zA HR, hd, zr])
    clear hd hcell HR
    have hsz : (⟨(pat ps k).toArray⟩ : ByteArray).size = (pat ps k).length := by simp [ByteArray.size]
    have hem := @txt_empty (pat ps k)
    have hno := @txt_not (pat ps k)
    generalize (⟨(pat ps k).toArray⟩ : ByteArray) = tk at *
    rw [← hsz] at HR2 hlk hem hno
    clear hsz
    by_cases h0 : tk.size = 0
    ·have e0 := hem h0
     have HR3 : Hid (chk ps = (3, (k : Int))) := zB (by rw [zA HR2]; simp [h0])
     clear hem hno h0
     go_wp2
     go_ret3
     rw [zA HR3]
     exact ⟨rfl, rfl⟩
    ·have e0 := hno h0
     by_cases h64 : 64 < tk.size
     ·have HR3 : Hid (chk ps = (4, (k : Int))) := zB (by rw [zA HR2, if_neg h0, if_pos h64])
      clear hem hno h0
      go_wp2
      go_ret3
      rw [zA HR3]
      exact ⟨rfl, rfl⟩
     ·have HR3 := zB ((zA HR2).trans (by rw [if_neg h0, if_neg h64]))
      clear hem hno h0
      go_wp2
      go_round
      case rel => exact ⟨k + 1, t + tk.size, by go_num, by go_num, hlt, by omega, HR3⟩
      case measure => simp [intOf]; omega
   ·obtain rfl : k = ps.length := by omega
    have HR2 : Hid (chk ps = if 512 < t then (5, 0) else (0, 0)) := zB (by rw [zA HR, List.drop_length, zr])
    have h5 : 512 < t := by
     rcases Nat.lt_or_ge 512 t with h | h
     ·exact h
     ·exact absurd (by rw [zA HR2, if_neg (by omega)]) (zA HNZ)
    have HR3 : Hid (chk ps = (5, 0)) := zB (by rw [zA HR2, if_pos h5])
    clear HR
    go_wp2
    go_ret3
    rw [zA HR3]
    exact ⟨rfl, rfl⟩
end Go.Proofs.YtfpohfifdfbpkaaGreatDoor
namespace Go.Proofs.YtfpohfifdfbpkaaGreatDoor
open Go.RowKit Scour
theorem txts_src {w : World} {b o : Nat} {ps : List Str} (h : ∀ i, i < ps.length -> w.cell? ⟨b, o + i, none⟩ = some (.string ⟨(pat ps i).toArray⟩)) : ∀ j u, (ps.map yC)[j]? = some u -> w.cell? ((⟨b, o, none⟩ : Addr).add j) = some u := by
 intro j u hj
 have hjl : j < ps.length := by have := (List.getElem?_eq_some_iff.1 hj).1; simpa using this
 rw [zg, h j hjl]
 simp [hjl] at hj
 rw [← hj]
 simp [yC, pat, List.getD, hjl]
theorem rmach_of {w w1 w2 : World} {vL : Value} {g c : Nat} {ps R : List Str} (hl : w1.ownsRow w.heap.size 9 1 vL ps.length (ps.map yC)) (hb2 : Below w1.heap.size w1 w2) (hR : RS ps ps.length 1 R) (h64 : ps.length <= 64)
  (ho : w2.ownsRow w1.heap.size 9 1 (.slice (some ⟨g, 0, none⟩) R.length c) R.length (R.map yC)) :
  yZ (w2.alloc (.cells #[vL, .slice (some ⟨g, 0, none⟩) R.length c] 183)) w2.heap.size vL g c ps R := by
 have hba : Below w2.heap.size w2 (w2.alloc (.cells #[vL, .slice (some ⟨g, 0, none⟩) R.length c] 183)) := (Below.refl _ _).alloc (Nat.le_refl _) _
 refine ⟨heap_alloc_new w2 _, ?_, ?_, hR.sorted, hR.pos, hR.head, hR.closed, by have := hR.len; omega⟩
 ·exact zu ((hl.kept (zM hb2 none) (by cases vL.ownBlock <;> simp)).kept (zM hba none) (by cases vL.ownBlock <;> simp))
 ·exact zu (ho.kept (zM hba none) (by simp [Value.ownBlock]))
set_option maxHeartbeats 2000000 in
set_option maxRecDepth 100000 in
theorem rcompile_ok (ap : Option Addr) (cap : Nat) (ps : List Str) (w : World) (hS : TxtIn w w.heap.size ap ps) (hcap : ap = none -> cap = 0) (hc : (chk ps).1 = 0) :
  Calls Tryz.prog 86 #[.slice ap ps.length cap] w fun e w' => ∃ br vL gS cS R, e = .returned (.tuple #[.pointer (some ⟨br, 0, none⟩), .int .i64 0, .int .i64 0]) /\ yZ w' br vL gS cS ps R /\ RS ps ps.length 1 R /\ (w.heap.size <= br /\ w.heap.size <= gS /\ ∀ b, vL.ownBlock = some b -> w.heap.size <= b) /\ Below w.heap.size w w' := by
 obtain ⟨i0, hi, hz0, hz1, hz2⟩ := info_parts Tryz.infoT
 obtain ⟨h64, hlen, hch⟩ := yr hc
 have HC : Hid (chk ps = zr ps 0 0) := zB (by unfold chk; rw [if_neg (by omega)])
 have HCH := zB hch
 have HP := zB hS
 have HL := zB hlen
 clear hS hlen hc hch
 go_enter Tryz.func86, Tryz.ntmps86
 go_wp2
 go_loop [5, 6] (fun v5 v6 => ∃ k t : Nat, v5 = .int .i64 t /\ v6 = .int .i64 k /\ k <= ps.length /\ t <= 64 * k /\ Hid (chk ps = zr (ps.drop k) k t)) (fun _ v6 => ps.length - (intOf v6).toNat)
 case atStart => exact ⟨0, 0, rfl, rfl, Nat.zero_le _, by omega, zB (by rw [zA HC]; rfl)⟩
 case round =>
  obtain ⟨k, t, rfl, rfl, hk, ht, HR⟩ := hrel
  by_cases hlt : k < ps.length
  ·obtain ⟨b, o, hb, rfl, hcell⟩ := zA HP (by omega)
   have h4 := hcell k hlt
   have hlk := zA HL k hlt
   have hd := drop_pat hlt
   have i1 : (k : Int) < (ps.length : Int) := by omega
   have HR2 : Hid (chk ps = zr (ps.drop (k + 1)) (k + 1) (t + (pat ps k).length)) := zB (by rw [zA HR, hd, zr, if_neg (by omega), if_neg (by omega)])
   clear hd hcell HR
   have hsz : (⟨(pat ps k).toArray⟩ : ByteArray).size = (pat ps k).length := by simp [ByteArray.size]
   have e0 := @txt_not (pat ps k) (by omega)
   generalize (⟨(pat ps k).toArray⟩ : ByteArray) = tk at *
   rw [← hsz] at HR2 hlk
   clear hsz
   obtain ⟨hl1, hl2⟩ := hlk
   go_wp2
   go_round
   case rel => exact ⟨k + 1, t + tk.size, by go_num, by go_num, hlt, by omega, HR2⟩
   case measure => simp [intOf]; omega
  ·obtain rfl : k = ps.length := by omega
   have h5 : ¬ 512 < t := fun h => by
    have h1 := zA HR
    rw [List.drop_length, zr, if_pos h, zA HCH] at h1
    cases h1
   have HPL : Hid (∀ i, i < ps.length -> (pat ps i).length <= 64) := zB (fun i hi => (zA HL i hi).2)
   clear HR
   by_cases h0 : ps.length = 0
   ·obtain rfl : ps = [] := List.length_eq_zero_iff.1 h0
    clear h0
    have HST : Hid (∀ W, Calls Tryz.prog 123 #[.slice ap 0 cap] W fun e w' => ∃ g cap' R, e = .returned (.slice (some ⟨g, 0, none⟩) R.length cap') /\ RS [] 0 1 R /\ w'.ownsRow W.heap.size 9 1 (.slice (some ⟨g, 0, none⟩) R.length cap') R.length (R.map yC) /\ Below W.heap.size W w') := zB (fun W => rstates_any ap cap [] W (fun h => absurd h (Nat.lt_irrefl _)) (by simp) (fun i h => absurd h (Nat.not_lt_zero _)))
    cases ap with
    | none =>
      obtain rfl := hcap rfl
      go_wp2_with (first | (at_builtin; refine wpList_append_own_none rfl (.tmp 39) (.tmp 40) 26 rfl w.heap.size 9 i0 1 Tryz.underlying26 hi _ 0 [] rfl (World.ownsRow_nil _ _ _ _) rfl ?_) | (go_at_call 123; refine (zA HST _).mono ?_; rintro e w2 ⟨g, c, R, rfl, hR, ho2, hb2⟩; have HR2 := zB hR; have HO2 := zB ho2; have HB2 := zB hb2; clear hR ho2 hb2))
      go_ret3
      have s2 := (zA HB2).size
      exact ⟨w2.heap.size, _, g, c, R, rfl, rmach_of (w := w) (World.ownsRow_nil _ _ _ _) (zA HB2) (zA HR2) h64 (zA HO2), zA HR2, ⟨by omega, yQ (zA HO2), fun b h => by cases h⟩, ((zA HB2).mono (Nat.le_refl _)).trans ((Below.refl _ _).alloc (by omega) _)⟩
    | some x =>
      go_wp2_with (first | (at_builtin; refine wpList_append_own _ rfl (.tmp 39) (.tmp 40) 26 rfl w.heap.size 9 i0 (.string ⟨#[]⟩) 1 16 Tryz.underlying26 hi hz0 hz1 hz2 rfl (by decide) _ 0 [] rfl (World.ownsRow_nil _ _ _ _) x 0 cap [] rfl rfl (by intro j u h; cases h) (by intro u h; cases h) (by unfold maxLen; omega) (by omega) (Nat.le_refl _) ?_; intro v1 w1 o1 gr1 nn1; obtain rfl := nn1.2 ⟨rfl, rfl⟩; have HO1 := zB o1; have HB1 := zB (zG gr1 (Nat.le_refl _) (by intro k h; cases h)); have hz1' := gr1.size; clear o1 gr1 nn1))
      refine (zA HST w1).mono ?_
      rintro e w2 ⟨g, c, R, rfl, hR, ho2, hb2⟩
      have HR2 := zB hR
      have HO2 := zB ho2
      have HB2 := zB hb2
      clear hR ho2 hb2
      go_wp2_with fail
      go_ret3
      have s2 := (zA HB2).size
      exact ⟨w2.heap.size, _, g, c, R, rfl, rmach_of (w := w) (zA HO1) (zA HB2) (zA HR2) h64 (zA HO2), zA HR2, ⟨by omega, Nat.le_trans hz1' (yQ (zA HO2)), yN (zA HO1)⟩, (zA HB1).trans (((zA HB2).mono hz1').trans ((Below.refl _ _).alloc (by omega) _))⟩
   ·obtain ⟨b, o, hb, rfl, hcell⟩ := zA HP (by omega)
    have HSRC := zB (txts_src hcell)
    clear hcell
    go_wp2_with (first | (at_builtin; refine wpList_append_lies _ rfl (.tmp 39) (.tmp 40) 26 rfl w.heap.size 9 i0 (.string ⟨#[]⟩) 1 16 Tryz.underlying26 hi hz0 hz1 hz2 rfl (by decide) _ 0 [] rfl (World.ownsRow_nil _ _ _ _) ⟨b, o, none⟩ ps.length cap (ps.map yC) rfl (by simp) (zA HSRC) (oneT _) (by omega) (by unfold maxLen; omega) (by omega) (Nat.le_refl _) w.heap.size rfl ?_; intro g1 cap1 w1 o1 gr1 at1 lt1; simp only [Nat.zero_add, List.nil_append] at o1; have HO1 := zB o1; obtain ⟨bb1, bg1⟩ := y8 (Below.refl w.heap.size w) (Nat.le_refl _) (by intro k h; cases h) gr1 at1 rfl; have HB1 := zB bb1; have hz1' := bb1.size; clear o1 gr1 at1 bb1) | (go_at_call 123; refine (rstates_any (some ⟨b, o, none⟩) cap ps w1 (fun h => by obtain ⟨b', o', hb', e, hh⟩ := (zA HP).below (zA HB1) (Nat.le_refl _) h; exact ⟨b', o', by omega, e, hh⟩) h64 (zA HPL)).mono ?_; rintro e w2 ⟨g, c, R, rfl, hR, ho2, hb2⟩; have HR2 := zB hR; have HO2 := zB ho2; have HB2 := zB hb2; clear hR ho2 hb2))
    go_ret3
    have s2 := (zA HB2).size
    exact ⟨w2.heap.size, _, g, c, R, rfl, rmach_of (zA HO1) (zA HB2) (zA HR2) h64 (zA HO2), zA HR2, ⟨by omega, Nat.le_trans hz1' (yQ (zA HO2)), yN (zA HO1)⟩, (zA HB1).trans (((zA HB2).mono hz1').trans ((Below.refl _ _).alloc (by omega) _))⟩
end Go.Proofs.YtfpohfifdfbpkaaGreatDoor
