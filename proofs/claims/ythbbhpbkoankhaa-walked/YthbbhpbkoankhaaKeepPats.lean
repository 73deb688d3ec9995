import Derived.Test.YthbbhpbkoankhaaBoth
namespace Go.Proofs.Ythbbhpbkoankhaa
open Go.RowKit Scour

/-- A pattern is made of any text. -/
def fixS (s : ByteArray) : Str := (if s.size = 0 then [97] else s.data.toList).take 32
/-- The patterns that are made of texts. -/
def keepP (ss : List ByteArray) (len : Nat) : List Str := (ss.take (min len 16)).map fixS

theorem keepP_len (ss : List ByteArray) (len : Nat) (h : len ≤ ss.length) : (keepP ss len).length = min len 16 := by unfold keepP; simp; omega
/-- The first k of them. -/
def keepK (ss : List ByteArray) (k : Nat) : List Str := (ss.take k).map fixS
theorem keepK_len (ss : List ByteArray) (k : Nat) (h : k ≤ ss.length) : (keepK ss k).length = k := by unfold keepK; simp; omega
theorem keepK_succ (ss : List ByteArray) (k : Nat) (h : k < ss.length) : keepK ss (k + 1) = keepK ss k ++ [fixS (ss.getD k .empty)] := by
  unfold keepK
  have : ss.getD k .empty = ss[k] := by simp [List.getD, h]
  rw [this, List.take_succ_eq_append_getElem h, List.map_append]
  rfl

theorem fixS_empty {s : ByteArray} (h : s.size = 0) : fixS s = (⟨#[97]⟩ : ByteArray).data.toList := by unfold fixS; rw [if_pos h]; rfl
theorem fixS_short {s : ByteArray} (h0 : s.size ≠ 0) (h : s.size ≤ 32) : fixS s = s.data.toList := by unfold fixS; rw [if_neg h0, List.take_of_length_le (by simpa using h)]
theorem fixS_long {s : ByteArray} (h : 32 < s.size) : fixS s = (s.extract 0 32).data.toList := by
  unfold fixS; rw [if_neg (by omega)]
  simp [ByteArray.data_extract]

set_option maxHeartbeats 2000000 in
set_option maxRecDepth 100000 in
theorem keepPats_any (ap : Option Addr) (len cap : Nat) (ss : List ByteArray) (w : World) (hS : StrsIn w w.heap.size ap len ss) (hl : len ≤ ss.length) (hlen : len ≤ maxLen) (hsz : ∀ i, i < len → (ss.getD i .empty).size ≤ maxLen) :
    Calls Try.prog 4 #[.slice ap len cap] w fun e w' => ∃ ap' cap', e = .returned (.slice ap' (keepP ss len).length cap') ∧ PatsIn w' w'.heap.size ap' (keepP ss len) ∧ Below w.heap.size w w' := by
  unfold maxLen at hlen hsz
  obtain ⟨i0, hi, hz0, hz1, hz2⟩ := info_parts Try.infoL
  have HS := hide hS
  have HSZ := hide hsz
  clear hS hsz
  go_enter Try.func4, Try.ntmps4
  go_wp2
  go_loopw [3, 4] (fun v3 v4 wr => ∃ k : Nat, v4 = .int .i64 k ∧ k ≤ min len 16 ∧ Hid (Kept wr w.heap.size v3 (keepK ss k)) ∧ Hid (Below w.heap.size w wr)) (fun _ v4 _ => len - (intOf v4).toNat)
  case atStart => exact ⟨0, rfl, Nat.zero_le _, hide (Kept.nil _ _), hide (Below.refl _ _)⟩
  case round =>
    obtain ⟨k, rfl, hk, HK, HB⟩ := hrel
    have hszw := (unhide HB).size
    have hk1 : k ≤ len := by omega
    have hk2 : k ≤ 16 := by omega
    by_cases hlt : k < len ∧ k < 16
    · obtain ⟨hlt1, hlt2⟩ := hlt
      obtain ⟨b, o, hb, rfl, hcell⟩ := unhide HS (by omega)
      have c0 := ((unhide HB).cell (p := ⟨b, o + k, none⟩) hb).trans (hcell k hlt1)
      have hss := unhide HSZ k hlt1
      obtain ⟨xs, hxs, hall⟩ := (unhide HK).ex
      have hkl := keepK_len ss k (by omega)
      rw [hkl] at hxs hall
      have HSU := hide (keepK_succ ss k (by omega))
      have i1 : (k : Int) < (len : Int) := by omega
      have i2 : (k : Int) < 16 := by omega
      have i0' : (0 : Int) ≤ (k : Int) := by omega
      generalize ss.getD k .empty = s at c0 hss HSU
      have HXS := hide hxs
      have HALL := hide hall
      have HKL := hide hkl
      clear hcell hxs hall hkl
      by_cases h0 : s.size = 0
      · have h0b : s.toList.isEmpty = true := empty_of h0
        have HF := hide (fixS_empty h0)
        obtain ⟨capf, objf, hcv, hbb⟩ := conv_bytes (⟨#[97]⟩ : ByteArray)
        have HOa : Hid (((wr.alloc (objf wr)).alloc (.cells #[.slice (some ⟨wr.heap.size, 0, none⟩) ((⟨#[97]⟩ : ByteArray)).size (capf wr)] 28)).drew.ownsRow w.heap.size 28 1 u3 k xs) := hide ((((unhide HXS).alloc _).alloc _).drew)
        have HNW : Hid (∀ j u, [Value.slice (some ⟨wr.heap.size, 0, none⟩) ((⟨#[97]⟩ : ByteArray)).size (capf wr)][j]? = some u → ((wr.alloc (objf wr)).alloc (.cells #[.slice (some ⟨wr.heap.size, 0, none⟩) ((⟨#[97]⟩ : ByteArray)).size (capf wr)] 28)).drew.cell? ((⟨wr.heap.size + 1, 0, none⟩ : Addr).add j) = some u) := hide (by
          have := World.news_of_block (w := ((wr.alloc (objf wr)).alloc (.cells #[.slice (some ⟨wr.heap.size, 0, none⟩) ((⟨#[97]⟩ : ByteArray)).size (capf wr)] 28)).drew) (heap_alloc_new (wr.alloc (objf wr)) (.cells #[.slice (some ⟨wr.heap.size, 0, none⟩) ((⟨#[97]⟩ : ByteArray)).size (capf wr)] 28))
          rw [show (wr.alloc (objf wr)).heap.size = wr.heap.size + 1 by simp] at this
          exact this)
        have HKN : Hid (∀ (w1 : World) (g' cap' : Nat), w1.ownsRow w.heap.size 28 1 (.slice (some ⟨g', 0, none⟩) (k + 1) cap') (k + 1) (xs ++ [.slice (some ⟨wr.heap.size, 0, none⟩) ((⟨#[97]⟩ : ByteArray)).size (capf wr)]) → ((wr.alloc (objf wr)).alloc (.cells #[.slice (some ⟨wr.heap.size, 0, none⟩) ((⟨#[97]⟩ : ByteArray)).size (capf wr)] 28)).drew.grownBy w1 u3.ownBlock → Kept w1 w.heap.size (.slice (some ⟨g', 0, none⟩) (k + 1) cap') (keepK ss (k + 1)) ∧ Below w.heap.size w w1) := hide (by
          intro w1 g' cap' ho hg
          have hba : Below wr.heap.size wr ((wr.alloc (objf wr)).alloc (.cells #[.slice (some ⟨wr.heap.size, 0, none⟩) ((⟨#[97]⟩ : ByteArray)).size (capf wr)] 28)).drew := (((Below.refl _ _).alloc (Nat.le_refl _) _).alloc (by simp) _).drew
          have hbx : BytesBlk ((wr.alloc (objf wr)).alloc (.cells #[.slice (some ⟨wr.heap.size, 0, none⟩) ((⟨#[97]⟩ : ByteArray)).size (capf wr)] 28)).drew wr.heap.size (fixS s) := by
            rw [unhide HF]
            exact (hbb wr).kept (Below.heap_alloc (wr.alloc (objf wr)) _ _ (by simp))
          have hfl : ((⟨#[97]⟩ : ByteArray)).size = (fixS s).length := by rw [unhide HF]; exact size_list _
          have hkl := unhide HKL
          rw [unhide HSU]
          refine ⟨?_, (unhide HB).trans ((hba.mono hszw).trans (below_of_grown hg (by simp; omega) (own_lt (unhide HXS))))⟩
          have hm := Kept.more (g' := g') (cap' := cap') (c := capf wr) hba hbx (by rw [hkl]; exact unhide HXS) (by rw [hkl]; exact unhide HALL) (by rw [hkl, ← hfl]; exact ho) hg
          rw [hkl] at hm
          exact hm)
        clear hbb
        go_wp2_with (first | (at_builtin; refine wpList_append_lies _ rfl (.tmp 27) (.tmp 30) 23 rfl w.heap.size 28 i0 (.slice none 0 0) 1 24 Try.underlying23 hi hz0 hz1 hz2 rfl (by decide) _ k xs rfl (unhide HOa) ⟨wr.heap.size + 1, 0, none⟩ 1 1 [.slice (some ⟨wr.heap.size, 0, none⟩) ((⟨#[97]⟩ : ByteArray)).size (capf wr)] rfl rfl (unhide HNW) (by intro u hu; simp at hu; subst hu; rfl) (by omega) (by unfold maxLen; omega) (by omega) (by simp; omega) _ rfl ?_; intro g' cap' w1 hown' hgrow hat hlt'; obtain ⟨k1, k2⟩ := unhide HKN w1 g' cap' hown' hgrow; have HK1 := hide k1; have HK2 := hide k2; clear hown' hgrow hat k1 k2))
        go_roundw
        case rel => exact ⟨k + 1, by go_num, by omega, HK1, HK2⟩
        case measure => simp [intOf]; omega
      · have h0b : s.toList.isEmpty = false := empty_not h0
        by_cases h32 : 32 < s.size
        · have h32i : (32 : Int) < (s.size : Int) := by omega
          have HF := hide (fixS_long h32)
          obtain ⟨capf, objf, hcv, hbb⟩ := conv_bytes (s.extract 0 32)
          have eT : (s.extract 0 32).size = min 32 s.size := by simp
          rw [eT] at hcv
          have HOa : Hid (((wr.alloc (objf wr)).alloc (.cells #[.slice (some ⟨wr.heap.size, 0, none⟩) (min 32 s.size) (capf wr)] 28)).drew.ownsRow w.heap.size 28 1 u3 k xs) := hide ((((unhide HXS).alloc _).alloc _).drew)
          have HNW : Hid (∀ j u, [Value.slice (some ⟨wr.heap.size, 0, none⟩) (min 32 s.size) (capf wr)][j]? = some u → ((wr.alloc (objf wr)).alloc (.cells #[.slice (some ⟨wr.heap.size, 0, none⟩) (min 32 s.size) (capf wr)] 28)).drew.cell? ((⟨wr.heap.size + 1, 0, none⟩ : Addr).add j) = some u) := hide (by
            have := World.news_of_block (w := ((wr.alloc (objf wr)).alloc (.cells #[.slice (some ⟨wr.heap.size, 0, none⟩) (min 32 s.size) (capf wr)] 28)).drew) (heap_alloc_new (wr.alloc (objf wr)) (.cells #[.slice (some ⟨wr.heap.size, 0, none⟩) (min 32 s.size) (capf wr)] 28))
            rw [show (wr.alloc (objf wr)).heap.size = wr.heap.size + 1 by simp] at this
            exact this)
          have HKN : Hid (∀ (w1 : World) (g' cap' : Nat), w1.ownsRow w.heap.size 28 1 (.slice (some ⟨g', 0, none⟩) (k + 1) cap') (k + 1) (xs ++ [.slice (some ⟨wr.heap.size, 0, none⟩) (min 32 s.size) (capf wr)]) → ((wr.alloc (objf wr)).alloc (.cells #[.slice (some ⟨wr.heap.size, 0, none⟩) (min 32 s.size) (capf wr)] 28)).drew.grownBy w1 u3.ownBlock → Kept w1 w.heap.size (.slice (some ⟨g', 0, none⟩) (k + 1) cap') (keepK ss (k + 1)) ∧ Below w.heap.size w w1) := hide (by
            intro w1 g' cap' ho hg
            have hba : Below wr.heap.size wr ((wr.alloc (objf wr)).alloc (.cells #[.slice (some ⟨wr.heap.size, 0, none⟩) (min 32 s.size) (capf wr)] 28)).drew := (((Below.refl _ _).alloc (Nat.le_refl _) _).alloc (by simp) _).drew
            have hbx : BytesBlk ((wr.alloc (objf wr)).alloc (.cells #[.slice (some ⟨wr.heap.size, 0, none⟩) (min 32 s.size) (capf wr)] 28)).drew wr.heap.size (fixS s) := by
              rw [unhide HF]
              exact (hbb wr).kept (Below.heap_alloc (wr.alloc (objf wr)) _ _ (by simp))
            have hfl : (min 32 s.size) = (fixS s).length := by rw [unhide HF, ← eT]; exact size_list _
            have hkl := unhide HKL
            rw [unhide HSU]
            refine ⟨?_, (unhide HB).trans ((hba.mono hszw).trans (below_of_grown hg (by simp; omega) (own_lt (unhide HXS))))⟩
            have hm := Kept.more (g' := g') (cap' := cap') (c := capf wr) hba hbx (by rw [hkl]; exact unhide HXS) (by rw [hkl]; exact unhide HALL) (by rw [hkl, ← hfl]; exact ho) hg
            rw [hkl] at hm
            exact hm)
          clear hbb eT
          go_wp2_with (first | (at_builtin; refine wpList_append_lies _ rfl (.tmp 27) (.tmp 30) 23 rfl w.heap.size 28 i0 (.slice none 0 0) 1 24 Try.underlying23 hi hz0 hz1 hz2 rfl (by decide) _ k xs rfl (unhide HOa) ⟨wr.heap.size + 1, 0, none⟩ 1 1 [.slice (some ⟨wr.heap.size, 0, none⟩) (min 32 s.size) (capf wr)] rfl rfl (unhide HNW) (by intro u hu; simp at hu; subst hu; rfl) (by omega) (by unfold maxLen; omega) (by omega) (by simp; omega) _ rfl ?_; intro g' cap' w1 hown' hgrow hat hlt'; obtain ⟨k1, k2⟩ := unhide HKN w1 g' cap' hown' hgrow; have HK1 := hide k1; have HK2 := hide k2; clear hown' hgrow hat k1 k2))
          go_roundw
          case rel => exact ⟨k + 1, by go_num, by omega, HK1, HK2⟩
          case measure => simp [intOf]; omega
        · have h32i : ¬ (32 : Int) < (s.size : Int) := by omega
          have HF := hide (fixS_short h0 (by omega))
          obtain ⟨capf, objf, hcv, hbb⟩ := conv_bytes s
          have HOa : Hid (((wr.alloc (objf wr)).alloc (.cells #[.slice (some ⟨wr.heap.size, 0, none⟩) (s).size (capf wr)] 28)).drew.ownsRow w.heap.size 28 1 u3 k xs) := hide ((((unhide HXS).alloc _).alloc _).drew)
          have HNW : Hid (∀ j u, [Value.slice (some ⟨wr.heap.size, 0, none⟩) (s).size (capf wr)][j]? = some u → ((wr.alloc (objf wr)).alloc (.cells #[.slice (some ⟨wr.heap.size, 0, none⟩) (s).size (capf wr)] 28)).drew.cell? ((⟨wr.heap.size + 1, 0, none⟩ : Addr).add j) = some u) := hide (by
            have := World.news_of_block (w := ((wr.alloc (objf wr)).alloc (.cells #[.slice (some ⟨wr.heap.size, 0, none⟩) (s).size (capf wr)] 28)).drew) (heap_alloc_new (wr.alloc (objf wr)) (.cells #[.slice (some ⟨wr.heap.size, 0, none⟩) (s).size (capf wr)] 28))
            rw [show (wr.alloc (objf wr)).heap.size = wr.heap.size + 1 by simp] at this
            exact this)
          have HKN : Hid (∀ (w1 : World) (g' cap' : Nat), w1.ownsRow w.heap.size 28 1 (.slice (some ⟨g', 0, none⟩) (k + 1) cap') (k + 1) (xs ++ [.slice (some ⟨wr.heap.size, 0, none⟩) (s).size (capf wr)]) → ((wr.alloc (objf wr)).alloc (.cells #[.slice (some ⟨wr.heap.size, 0, none⟩) (s).size (capf wr)] 28)).drew.grownBy w1 u3.ownBlock → Kept w1 w.heap.size (.slice (some ⟨g', 0, none⟩) (k + 1) cap') (keepK ss (k + 1)) ∧ Below w.heap.size w w1) := hide (by
            intro w1 g' cap' ho hg
            have hba : Below wr.heap.size wr ((wr.alloc (objf wr)).alloc (.cells #[.slice (some ⟨wr.heap.size, 0, none⟩) (s).size (capf wr)] 28)).drew := (((Below.refl _ _).alloc (Nat.le_refl _) _).alloc (by simp) _).drew
            have hbx : BytesBlk ((wr.alloc (objf wr)).alloc (.cells #[.slice (some ⟨wr.heap.size, 0, none⟩) (s).size (capf wr)] 28)).drew wr.heap.size (fixS s) := by
              rw [unhide HF]
              exact (hbb wr).kept (Below.heap_alloc (wr.alloc (objf wr)) _ _ (by simp))
            have hfl : (s).size = (fixS s).length := by rw [unhide HF]; exact size_list _
            have hkl := unhide HKL
            rw [unhide HSU]
            refine ⟨?_, (unhide HB).trans ((hba.mono hszw).trans (below_of_grown hg (by simp; omega) (own_lt (unhide HXS))))⟩
            have hm := Kept.more (g' := g') (cap' := cap') (c := capf wr) hba hbx (by rw [hkl]; exact unhide HXS) (by rw [hkl]; exact unhide HALL) (by rw [hkl, ← hfl]; exact ho) hg
            rw [hkl] at hm
            exact hm)
          clear hbb
          go_wp2_with (first | (at_builtin; refine wpList_append_lies _ rfl (.tmp 27) (.tmp 30) 23 rfl w.heap.size 28 i0 (.slice none 0 0) 1 24 Try.underlying23 hi hz0 hz1 hz2 rfl (by decide) _ k xs rfl (unhide HOa) ⟨wr.heap.size + 1, 0, none⟩ 1 1 [.slice (some ⟨wr.heap.size, 0, none⟩) (s).size (capf wr)] rfl rfl (unhide HNW) (by intro u hu; simp at hu; subst hu; rfl) (by omega) (by unfold maxLen; omega) (by omega) (by simp; omega) _ rfl ?_; intro g' cap' w1 hown' hgrow hat hlt'; obtain ⟨k1, k2⟩ := unhide HKN w1 g' cap' hown' hgrow; have HK1 := hide k1; have HK2 := hide k2; clear hown' hgrow hat k1 k2))
          go_roundw
          case rel => exact ⟨k + 1, by go_num, by omega, HK1, HK2⟩
          case measure => simp [intOf]; omega
    · have hkk : k = min len 16 := by omega
      have HF : Hid (keepK ss k = keepP ss len) := hide (by rw [hkk]; rfl)
      obtain ⟨ap', cap', hv, hP⟩ := (unhide HK).pats
      subst hv
      have HP := hide hP
      clear hP hkk
      by_cases hlt1 : k < len
      · have i1 : (k : Int) < (len : Int) := by omega
        have i2 : ¬ (k : Int) < 16 := by omega
        go_wp2
        go_ret
        rw [← unhide HF]
        first | exact ⟨ap', cap', rfl, unhide HP, unhide HB⟩ | exact ⟨ap', ⟨cap', rfl⟩, unhide HP, unhide HB⟩
      · have i1 : ¬ (k : Int) < (len : Int) := by omega
        go_wp2
        go_ret
        rw [← unhide HF]
        first | exact ⟨ap', cap', rfl, unhide HP, unhide HB⟩ | exact ⟨ap', ⟨cap', rfl⟩, unhide HP, unhide HB⟩
end Go.Proofs.Ythbbhpbkoankhaa
