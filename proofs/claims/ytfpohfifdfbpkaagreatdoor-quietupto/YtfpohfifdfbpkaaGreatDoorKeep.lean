import Derived.Test.YtfpohfifdfbpkaaGreatDoorBoth
import Derived.Test.YtfpohfifdfbpkaaGreatDoorCompile
namespace Go.Proofs.YtfpohfifdfbpkaaGreatDoor
open Go.RowKit Scour
set_option maxHeartbeats 400000 in
theorem pick_any (c n : Int) (w : World) (hn : 0 < n) (hn2 : n <= 9223372036854775807) (hc : -9223372036854775808 <= c /\ c <= 9223372036854775807) :
  Calls Tryz.prog 19 #[.int .i64 c, .int .i64 n] w fun e w' => e = .returned (.int .i64 (pickI c n)) /\ w' = w := by
 have hnz : (n == 0) = false := by simp; omega
 obtain ⟨hc1, hc2⟩ := hc
 by_cases h : c < 0
 ·have HP : Hid (pickI c n = (-(c + 1)) % n) := zB (by unfold pickI; rw [if_pos h])
  go_enter Tryz.func19, Tryz.ntmps19
  go_wp2
  go_ret
  exact ⟨by rw [zA HP, ← Int.tmod_eq_emod_of_nonneg (by omega), Int.neg_tmod]; rfl, rfl⟩
 ·have HP : Hid (pickI c n = c % n) := zB (by unfold pickI; rw [if_neg h])
  go_enter Tryz.func19, Tryz.ntmps19
  go_wp2
  go_ret
  exact ⟨by rw [zA HP]; rfl, rfl⟩
set_option maxHeartbeats 1000000 in
theorem made_any (ap : Option Addr) (cp : Nat) (ps : List Str) (w : World) (hP : yO w w.heap.size ap ps) (hc : (chk ps).1 = 0) :
  Calls Tryz.prog 13 #[.slice ap ps.length cp] w fun e w' => ∃ (bm bt be : Nat) (g : List Nat) (S : List Str), e = .returned (.pointer (some ⟨bm, 0, none⟩)) /\ yV w' bm bt be g ps S /\ (w.heap.size <= bm /\ w.heap.size <= bt /\ w.heap.size <= be /\ ∀ k, k ∈ g -> w.heap.size <= k) /\ Below w.heap.size w w' := by
 have HC := zB (compile_ok ap cp ps w hP hc)
 clear hP hc
 go_enter Tryz.func13, Tryz.ntmps13
 go_wp2_with (go_at_call 28; refine (zA HC).mono ?_; rintro e w' ⟨bm, bt, be, g, S, rfl, hM, hz, hb⟩; have HM := zB hM; have HZ := zB hz; have HB := zB hb; clear hM hz hb)
 go_ret
 exact ⟨bm, bt, be, g, S, rfl, zA HM, zA HZ, zA HB⟩
end Go.Proofs.YtfpohfifdfbpkaaGreatDoor
namespace Go.Proofs.YtfpohfifdfbpkaaGreatDoor
open Go.RowKit Scour
def fixS (s : ByteArray) : Str := (if s.size = 0 then [97] else s.data.toList).take 32
def jH (ss : List ByteArray) (len : Nat) : List Str := (ss.take (min len 16)).map fixS
theorem keepP_len (ss : List ByteArray) (len : Nat) (h : len <= ss.length) : (jH ss len).length = min len 16 := by unfold jH; simp; omega
def keepK (ss : List ByteArray) (k : Nat) : List Str := (ss.take k).map fixS
theorem keepK_len (ss : List ByteArray) (k : Nat) (h : k <= ss.length) : (keepK ss k).length = k := by unfold keepK; simp; omega
theorem keepK_succ (ss : List ByteArray) (k : Nat) (h : k < ss.length) : keepK ss (k + 1) = keepK ss k ++ [fixS (ss.getD k .empty)] := by
 unfold keepK
 have : ss.getD k .empty = ss[k] := by simp [List.getD, h]
 rw [this, List.take_succ_eq_append_getElem h, List.map_append]
 rfl
theorem fixS_empty {s : ByteArray} (h : s.size = 0) : fixS s = (⟨#[97]⟩ : ByteArray).data.toList := by unfold fixS; rw [if_pos h]; rfl
theorem fixS_short {s : ByteArray} (h0 : s.size ≠ 0) (h : s.size <= 32) : fixS s = s.data.toList := by unfold fixS; rw [if_neg h0, List.take_of_length_le (by simpa using h)]
theorem fixS_long {s : ByteArray} (h : 32 < s.size) : fixS s = (s.extract 0 32).data.toList := by
 unfold fixS; rw [if_neg (by omega)]
 simp [ByteArray.data_extract]
set_option maxHeartbeats 2000000 in
set_option maxRecDepth 100000 in
theorem keepPats_any (ap : Option Addr) (len cap : Nat) (ss : List ByteArray) (w : World) (hS : StrsIn w w.heap.size ap len ss) (hl : len <= ss.length) (hlen : len <= maxLen) (hsz : ∀ i, i < len -> (ss.getD i .empty).size <= maxLen) :
  Calls Tryz.prog 14 #[.slice ap len cap] w fun e w' => ∃ ap' cap', e = .returned (.slice ap' (jH ss len).length cap') /\ yO w' w'.heap.size ap' (jH ss len) /\ Below w.heap.size w w' := by
 unfold maxLen at hlen hsz
 obtain ⟨i0, hi, hz0, hz1, hz2⟩ := info_parts Tryz.infoL
 have HS := zB hS
 have HSZ := zB hsz
 clear hS hsz
 go_enter Tryz.func14, Tryz.ntmps14
 go_wp2
 go_loopw [3, 4] (fun v3 v4 wr => ∃ k : Nat, v4 = .int .i64 k /\ k <= min len 16 /\ Hid (Kept wr w.heap.size v3 (keepK ss k)) /\ Hid (Below w.heap.size w wr)) (fun _ v4 _ => len - (intOf v4).toNat)
 case atStart => exact ⟨0, rfl, Nat.zero_le _, zB (Kept.nil _ _), zB (Below.refl _ _)⟩
 case round =>
  obtain ⟨k, rfl, hk, HK, HB⟩ := hrel
  have hszw := (zA HB).size
  have hk1 : k <= len := by omega
  have hk2 : k <= 16 := by omega
  by_cases hlt : k < len /\ k < 16
  ·obtain ⟨hlt1, hlt2⟩ := hlt
   obtain ⟨b, o, hb, rfl, hcell⟩ := zA HS (by omega)
   have c0 := ((zA HB).cell (p := ⟨b, o + k, none⟩) hb).trans (hcell k hlt1)
   have hss := zA HSZ k hlt1
   obtain ⟨xs, hxs, hall⟩ := (zA HK).ex
   have hkl := keepK_len ss k (by omega)
   rw [hkl] at hxs hall
   have HSU := zB (keepK_succ ss k (by omega))
   have i1 : (k : Int) < (len : Int) := by omega
   have i2 : (k : Int) < 16 := by omega
   have i0' : (0 : Int) <= (k : Int) := by omega
   generalize ss.getD k .empty = s at c0 hss HSU
   have HXS := zB hxs
   have HALL := zB hall
   have HKL := zB hkl
   clear hcell hxs hall hkl
   by_cases h0 : s.size = 0
   ·have h0b : s.toList.isEmpty = true := empty_of h0
    have HF := zB (fixS_empty h0)
    obtain ⟨capf, objf, hcv, hbb⟩ := conv_bytes (⟨#[97]⟩ : ByteArray)
    have HOa : Hid (((wr.alloc (objf wr)).alloc (.cells #[.slice (some ⟨wr.heap.size, 0, none⟩) ((⟨#[97]⟩ : ByteArray)).size (capf wr)] 27)).drew.ownsRow w.heap.size 27 1 u3 k xs) := zB ((((zA HXS).alloc _).alloc _).drew)
    have HNW : Hid (∀ j u, [Value.slice (some ⟨wr.heap.size, 0, none⟩) ((⟨#[97]⟩ : ByteArray)).size (capf wr)][j]? = some u -> ((wr.alloc (objf wr)).alloc (.cells #[.slice (some ⟨wr.heap.size, 0, none⟩) ((⟨#[97]⟩ : ByteArray)).size (capf wr)] 27)).drew.cell? ((⟨wr.heap.size + 1, 0, none⟩ : Addr).add j) = some u) := zB (by
     have := World.news_of_block (w := ((wr.alloc (objf wr)).alloc (.cells #[.slice (some ⟨wr.heap.size, 0, none⟩) ((⟨#[97]⟩ : ByteArray)).size (capf wr)] 27)).drew) (heap_alloc_new (wr.alloc (objf wr)) (.cells #[.slice (some ⟨wr.heap.size, 0, none⟩) ((⟨#[97]⟩ : ByteArray)).size (capf wr)] 27))
     rw [show (wr.alloc (objf wr)).heap.size = wr.heap.size + 1 by simp] at this
     exact this)
    have HKN : Hid (∀ (w1 : World) (g' cap' : Nat), w1.ownsRow w.heap.size 27 1 (.slice (some ⟨g', 0, none⟩) (k + 1) cap') (k + 1) (xs ++ [.slice (some ⟨wr.heap.size, 0, none⟩) ((⟨#[97]⟩ : ByteArray)).size (capf wr)]) -> ((wr.alloc (objf wr)).alloc (.cells #[.slice (some ⟨wr.heap.size, 0, none⟩) ((⟨#[97]⟩ : ByteArray)).size (capf wr)] 27)).drew.grownBy w1 u3.ownBlock -> Kept w1 w.heap.size (.slice (some ⟨g', 0, none⟩) (k + 1) cap') (keepK ss (k + 1)) /\ Below w.heap.size w w1) := zB (by
     intro w1 g' cap' ho hg
     have hba : Below wr.heap.size wr ((wr.alloc (objf wr)).alloc (.cells #[.slice (some ⟨wr.heap.size, 0, none⟩) ((⟨#[97]⟩ : ByteArray)).size (capf wr)] 27)).drew := (((Below.refl _ _).alloc (Nat.le_refl _) _).alloc (by simp) _).drew
     have hbx : ye ((wr.alloc (objf wr)).alloc (.cells #[.slice (some ⟨wr.heap.size, 0, none⟩) ((⟨#[97]⟩ : ByteArray)).size (capf wr)] 27)).drew wr.heap.size (fixS s) := by
      rw [zA HF]
      exact (hbb wr).kept (Below.heap_alloc (wr.alloc (objf wr)) _ _ (by simp))
     have hfl : ((⟨#[97]⟩ : ByteArray)).size = (fixS s).length := by rw [zA HF]; exact size_list _
     have hkl := zA HKL
     rw [zA HSU]
     refine ⟨?_, (zA HB).trans ((hba.mono hszw).trans (zG hg (by simp; omega) (yN (zA HXS))))⟩
     have hm := Kept.more (g' := g') (cap' := cap') (c := capf wr) hba hbx (by rw [hkl]; exact zA HXS) (by rw [hkl]; exact zA HALL) (by rw [hkl, ← hfl]; exact ho) hg
     rw [hkl] at hm
     exact hm)
    clear hbb
    go_wp2_with (first | (at_builtin; refine wpList_append_lies _ rfl (.tmp 27) (.tmp 30) 30 rfl w.heap.size 27 i0 (.slice none 0 0) 1 24 Tryz.underlying30 hi hz0 hz1 hz2 rfl (by decide) _ k xs rfl (zA HOa) ⟨wr.heap.size + 1, 0, none⟩ 1 1 [.slice (some ⟨wr.heap.size, 0, none⟩) ((⟨#[97]⟩ : ByteArray)).size (capf wr)] rfl rfl (zA HNW) (by intro u hu; simp at hu; subst hu; rfl) (by omega) (by unfold maxLen; omega) (by omega) (by simp; omega) _ rfl ?_; intro g' cap' w1 hown' hgrow hat hlt'; obtain ⟨k1, k2⟩ := zA HKN w1 g' cap' hown' hgrow; have HK1 := zB k1; have HK2 := zB k2; clear hown' hgrow hat k1 k2))
    go_roundw
    case rel => exact ⟨k + 1, by go_num, by omega, HK1, HK2⟩
    case measure => simp [intOf]; omega
   ·have h0b : s.toList.isEmpty = false := empty_not h0
    by_cases h32 : 32 < s.size
    ·have h32i : (32 : Int) < (s.size : Int) := by omega
     have HF := zB (fixS_long h32)
     obtain ⟨capf, objf, hcv, hbb⟩ := conv_bytes (s.extract 0 32)
     have eT : (s.extract 0 32).size = min 32 s.size := by simp
     rw [eT] at hcv
     have HOa : Hid (((wr.alloc (objf wr)).alloc (.cells #[.slice (some ⟨wr.heap.size, 0, none⟩) (min 32 s.size) (capf wr)] 27)).drew.ownsRow w.heap.size 27 1 u3 k xs) := zB ((((zA HXS).alloc _).alloc _).drew)
     have HNW : Hid (∀ j u, [Value.slice (some ⟨wr.heap.size, 0, none⟩) (min 32 s.size) (capf wr)][j]? = some u -> ((wr.alloc (objf wr)).alloc (.cells #[.slice (some ⟨wr.heap.size, 0, none⟩) (min 32 s.size) (capf wr)] 27)).drew.cell? ((⟨wr.heap.size + 1, 0, none⟩ : Addr).add j) = some u) := zB (by
      have := World.news_of_block (w := ((wr.alloc (objf wr)).alloc (.cells #[.slice (some ⟨wr.heap.size, 0, none⟩) (min 32 s.size) (capf wr)] 27)).drew) (heap_alloc_new (wr.alloc (objf wr)) (.cells #[.slice (some ⟨wr.heap.size, 0, none⟩) (min 32 s.size) (capf wr)] 27))
      rw [show (wr.alloc (objf wr)).heap.size = wr.heap.size + 1 by simp] at this
      exact this)
     have HKN : Hid (∀ (w1 : World) (g' cap' : Nat), w1.ownsRow w.heap.size 27 1 (.slice (some ⟨g', 0, none⟩) (k + 1) cap') (k + 1) (xs ++ [.slice (some ⟨wr.heap.size, 0, none⟩) (min 32 s.size) (capf wr)]) -> ((wr.alloc (objf wr)).alloc (.cells #[.slice (some ⟨wr.heap.size, 0, none⟩) (min 32 s.size) (capf wr)] 27)).drew.grownBy w1 u3.ownBlock -> Kept w1 w.heap.size (.slice (some ⟨g', 0, none⟩) (k + 1) cap') (keepK ss (k + 1)) /\ Below w.heap.size w w1) := zB (by
      intro w1 g' cap' ho hg
      have hba : Below wr.heap.size wr ((wr.alloc (objf wr)).alloc (.cells #[.slice (some ⟨wr.heap.size, 0, none⟩) (min 32 s.size) (capf wr)] 27)).drew := (((Below.refl _ _).alloc (Nat.le_refl _) _).alloc (by simp) _).drew
      have hbx : ye ((wr.alloc (objf wr)).alloc (.cells #[.slice (some ⟨wr.heap.size, 0, none⟩) (min 32 s.size) (capf wr)] 27)).drew wr.heap.size (fixS s) := by
       rw [zA HF]
       exact (hbb wr).kept (Below.heap_alloc (wr.alloc (objf wr)) _ _ (by simp))
      have hfl : (min 32 s.size) = (fixS s).length := by rw [zA HF, ← eT]; exact size_list _
      have hkl := zA HKL
      rw [zA HSU]
      refine ⟨?_, (zA HB).trans ((hba.mono hszw).trans (zG hg (by simp; omega) (yN (zA HXS))))⟩
      have hm := Kept.more (g' := g') (cap' := cap') (c := capf wr) hba hbx (by rw [hkl]; exact zA HXS) (by rw [hkl]; exact zA HALL) (by rw [hkl, ← hfl]; exact ho) hg
      rw [hkl] at hm
      exact hm)
     clear hbb eT
     go_wp2_with (first | (at_builtin; refine wpList_append_lies _ rfl (.tmp 27) (.tmp 30) 30 rfl w.heap.size 27 i0 (.slice none 0 0) 1 24 Tryz.underlying30 hi hz0 hz1 hz2 rfl (by decide) _ k xs rfl (zA HOa) ⟨wr.heap.size + 1, 0, none⟩ 1 1 [.slice (some ⟨wr.heap.size, 0, none⟩) (min 32 s.size) (capf wr)] rfl rfl (zA HNW) (by intro u hu; simp at hu; subst hu; rfl) (by omega) (by unfold maxLen; omega) (by omega) (by simp; omega) _ rfl ?_; intro g' cap' w1 hown' hgrow hat hlt'; obtain ⟨k1, k2⟩ := zA HKN w1 g' cap' hown' hgrow; have HK1 := zB k1; have HK2 := zB k2; clear hown' hgrow hat k1 k2))
     go_roundw
     case rel => exact ⟨k + 1, by go_num, by omega, HK1, HK2⟩
     case measure => simp [intOf]; omega
    ·have h32i : ¬ (32 : Int) < (s.size : Int) := by omega
     have HF := zB (fixS_short h0 (by omega))
     obtain ⟨capf, objf, hcv, hbb⟩ := conv_bytes s
     have HOa : Hid (((wr.alloc (objf wr)).alloc (.cells #[.slice (some ⟨wr.heap.size, 0, none⟩) (s).size (capf wr)] 27)).drew.ownsRow w.heap.size 27 1 u3 k xs) := zB ((((zA HXS).alloc _).alloc _).drew)
     have HNW : Hid (∀ j u, [Value.slice (some ⟨wr.heap.size, 0, none⟩) (s).size (capf wr)][j]? = some u -> ((wr.alloc (objf wr)).alloc (.cells #[.slice (some ⟨wr.heap.size, 0, none⟩) (s).size (capf wr)] 27)).drew.cell? ((⟨wr.heap.size + 1, 0, none⟩ : Addr).add j) = some u) := zB (by
      have := World.news_of_block (w := ((wr.alloc (objf wr)).alloc (.cells #[.slice (some ⟨wr.heap.size, 0, none⟩) (s).size (capf wr)] 27)).drew) (heap_alloc_new (wr.alloc (objf wr)) (.cells #[.slice (some ⟨wr.heap.size, 0, none⟩) (s).size (capf wr)] 27))
      rw [show (wr.alloc (objf wr)).heap.size = wr.heap.size + 1 by simp] at this
      exact this)
     have HKN : Hid (∀ (w1 : World) (g' cap' : Nat), w1.ownsRow w.heap.size 27 1 (.slice (some ⟨g', 0, none⟩) (k + 1) cap') (k + 1) (xs ++ [.slice (some ⟨wr.heap.size, 0, none⟩) (s).size (capf wr)]) -> ((wr.alloc (objf wr)).alloc (.cells #[.slice (some ⟨wr.heap.size, 0, none⟩) (s).size (capf wr)] 27)).drew.grownBy w1 u3.ownBlock -> Kept w1 w.heap.size (.slice (some ⟨g', 0, none⟩) (k + 1) cap') (keepK ss (k + 1)) /\ Below w.heap.size w w1) := zB (by
      intro w1 g' cap' ho hg
      have hba : Below wr.heap.size wr ((wr.alloc (objf wr)).alloc (.cells #[.slice (some ⟨wr.heap.size, 0, none⟩) (s).size (capf wr)] 27)).drew := (((Below.refl _ _).alloc (Nat.le_refl _) _).alloc (by simp) _).drew
      have hbx : ye ((wr.alloc (objf wr)).alloc (.cells #[.slice (some ⟨wr.heap.size, 0, none⟩) (s).size (capf wr)] 27)).drew wr.heap.size (fixS s) := by
       rw [zA HF]
       exact (hbb wr).kept (Below.heap_alloc (wr.alloc (objf wr)) _ _ (by simp))
      have hfl : (s).size = (fixS s).length := by rw [zA HF]; exact size_list _
      have hkl := zA HKL
      rw [zA HSU]
      refine ⟨?_, (zA HB).trans ((hba.mono hszw).trans (zG hg (by simp; omega) (yN (zA HXS))))⟩
      have hm := Kept.more (g' := g') (cap' := cap') (c := capf wr) hba hbx (by rw [hkl]; exact zA HXS) (by rw [hkl]; exact zA HALL) (by rw [hkl, ← hfl]; exact ho) hg
      rw [hkl] at hm
      exact hm)
     clear hbb
     go_wp2_with (first | (at_builtin; refine wpList_append_lies _ rfl (.tmp 27) (.tmp 30) 30 rfl w.heap.size 27 i0 (.slice none 0 0) 1 24 Tryz.underlying30 hi hz0 hz1 hz2 rfl (by decide) _ k xs rfl (zA HOa) ⟨wr.heap.size + 1, 0, none⟩ 1 1 [.slice (some ⟨wr.heap.size, 0, none⟩) (s).size (capf wr)] rfl rfl (zA HNW) (by intro u hu; simp at hu; subst hu; rfl) (by omega) (by unfold maxLen; omega) (by omega) (by simp; omega) _ rfl ?_; intro g' cap' w1 hown' hgrow hat hlt'; obtain ⟨k1, k2⟩ := zA HKN w1 g' cap' hown' hgrow; have HK1 := zB k1; have HK2 := zB k2; clear hown' hgrow hat k1 k2))
     go_roundw
     case rel => exact ⟨k + 1, by go_num, by omega, HK1, HK2⟩
     case measure => simp [intOf]; omega
  ·have hkk : k = min len 16 := by omega
   have HF : Hid (keepK ss k = jH ss len) := zB (by rw [hkk]; rfl)
   obtain ⟨ap', cap', hv, hP⟩ := (zA HK).pats
   subst hv
   have HP := zB hP
   clear hP hkk
   by_cases hlt1 : k < len
   ·have i1 : (k : Int) < (len : Int) := by omega
    have i2 : ¬ (k : Int) < 16 := by omega
    go_wp2
    go_ret
    rw [← zA HF]
    first | exact ⟨ap', cap', rfl, zA HP, zA HB⟩ | exact ⟨ap', ⟨cap', rfl⟩, zA HP, zA HB⟩
   ·have i1 : ¬ (k : Int) < (len : Int) := by omega
    go_wp2
    go_ret
    rw [← zA HF]
    first | exact ⟨ap', cap', rfl, zA HP, zA HB⟩ | exact ⟨ap', ⟨cap', rfl⟩, zA HP, zA HB⟩
end Go.Proofs.YtfpohfifdfbpkaaGreatDoor
namespace Go.Proofs.YtfpohfifdfbpkaaGreatDoor
open Scour
theorem chkFrom_small : ∀ (r : List Str) (i t : Nat), (∀ p ∈ r, 0 < p.length /\ p.length <= 32) -> t + 32 * r.length <= 512 -> (zr r i t).1 = 0
 | [], i, t, _, h => by unfold zr; rw [if_neg (by simp at h; omega)]
 | p :: r, i, t, hp, h => by
   have h1 := hp p List.mem_cons_self
   unfold zr
   rw [if_neg (by omega), if_neg (by omega)]
   exact chkFrom_small r (i + 1) (t + p.length) (fun q hq => hp q (List.mem_cons_of_mem _ hq)) (by simp at h; omega)
theorem fixS_len (s : ByteArray) : 0 < (fixS s).length /\ (fixS s).length <= 32 := by
 unfold fixS
 by_cases h : s.size = 0
 ·rw [if_pos h]; simp
 ·rw [if_neg h, List.length_take]
  have := size_list s
  omega
theorem keepP_mem {ss : List ByteArray} {len : Nat} {p : Str} (h : p ∈ jH ss len) : 0 < p.length /\ p.length <= 32 := by
 unfold jH at h
 obtain ⟨s, _, rfl⟩ := List.mem_map.1 h
 exact fixS_len s
theorem keepP_le (ss : List ByteArray) (len : Nat) : (jH ss len).length <= 16 := by unfold jH; simp; omega
theorem keepP_pat {ss : List ByteArray} {len i : Nat} (h : i < (jH ss len).length) : 0 < (pat (jH ss len) i).length /\ (pat (jH ss len) i).length <= 32 :=
 keepP_mem (ss := ss) (len := len) (by simp [pat, List.getD, h])
theorem keepP_chk (ss : List ByteArray) (len : Nat) : (chk (jH ss len)).1 = 0 := by
 have := keepP_le ss len
 unfold chk
 rw [if_neg (by omega)]
 exact chkFrom_small _ 0 0 (fun p hp => keepP_mem hp) (by omega)
theorem lsuf_far (S : List Str) (t : Str) (h : ∀ y ∈ S, y.length <= t.length) : ∀ x : Str, yI S (x ++ t) = yI S t
 | [] => rfl
 | c :: x => by
   rw [List.cons_append, yI, if_neg (fun g => by have := h _ g; simp at this; omega)]
   exact lsuf_far S t h x
theorem walk_lsuf {S : List Str} {par lst : Nat -> Int} (h : Rep S par lst) (i : Nat) (hi : i < S.length) : ∀ (n : Nat) (l : Str), l.length = n -> walkN S i l = S.idxOf (yI S (at' S i ++ l))
 | 0, l, hl => by
   obtain rfl := List.length_eq_zero_iff.1 hl
   rw [List.append_nil, lsuf_of_mem S _ (jO hi), idx_at h.sorted hi]
   rfl
 | n + 1, l, hl => by
   have hne : l ≠ [] := by rintro rfl; simp at hl
   have e := List.dropLast_concat_getLast hne
   generalize l.dropLast = l' at e
   generalize l.getLast hne = c at e
   subst e
   rw [walkN_snoc, walk_lsuf h i hi n l' (by simpa using hl)]
   unfold zO
   rw [jV (lsuf_mem S h.nil_mem _), ← List.append_assoc, lsuf_snoc S h.closed c (at' S i ++ l')]
theorem walk_to {S : List Str} {par lst : Nat -> Int} (h : Rep S par lst) {x : Str} (hx : x ∈ S) : walkN S 0 x = S.idxOf x := by
 rw [walk_lsuf h 0 h.pos _ x rfl, h.head, List.nil_append, lsuf_of_mem S x hx]
theorem walk_same {S : List Str} {par lst : Nat -> Int} (h : Rep S par lst) (i : Nat) (hi : i < S.length) (t : Str) (hl : ∀ y ∈ S, y.length <= t.length) : walkN S i t = walkN S 0 t := by
 rw [walk_lsuf h i hi _ t rfl, walk_lsuf h 0 h.pos _ t rfl, lsuf_far S t hl, lsuf_far S t hl]
theorem idx_pos {S : List Str} {par lst : Nat -> Int} (h : Rep S par lst) {x : Str} (hx : x ∈ S) (h0 : 0 < x.length) : 0 < S.idxOf x := by
 rcases Nat.eq_zero_or_pos (S.idxOf x) with e | e
 ·have := jV hx; rw [e, h.head] at this; rw [← this] at h0; simp at h0
 ·exact e
end Go.Proofs.YtfpohfifdfbpkaaGreatDoor
