import Derived.Test.YtmmmhmdjcpajgaaKeep
namespace Go.Proofs.Ytmmmhmdjcpajgaa
open Go.RowKit Scour

/-- A pattern is made of any text. -/
def fixS (s : ByteArray) : Str := (if s.size = 0 then [97] else s.data.toList).take 32
/-- The patterns that are made of texts. -/
def keepP (ss : List ByteArray) (len : Nat) : List Str := (ss.take (min len 16)).map fixS

/-- A block of bytes. -/
def BytesBlk (w : World) (b : Nat) (s : Str) : Prop := ∃ cur fr, w.heap[b]? = some (.cells cur 5 fr) ∧ ∀ j, j < s.length → cur[j]? = some (.int .u8 (s.getD j 0).toNat)

theorem BytesBlk.lt {w : World} {b : Nat} {s : Str} (h : BytesBlk w b s) : b < w.heap.size := by
  obtain ⟨cur, fr, h1, _⟩ := h; exact (Array.getElem?_eq_some_iff.1 h1).1
theorem BytesBlk.kept {w w' : World} {b : Nat} {s : Str} (h : BytesBlk w b s) (hb : w'.heap[b]? = w.heap[b]?) : BytesBlk w' b s := by
  obtain ⟨cur, fr, h1, h2⟩ := h; exact ⟨cur, fr, hb.trans h1, h2⟩
theorem BytesBlk.bytes {w : World} {b B : Nat} {s : Str} (h : BytesBlk w b s) (hB : b < B) : BytesIn w B (some ⟨b, 0, none⟩) s := fun _ => by
  obtain ⟨cur, fr, h1, h2⟩ := h
  exact ⟨b, 0, hB, rfl, fun j hj => by rw [Nat.zero_add]; exact (cell_of_blk h1 j).trans (h2 j hj)⟩

/-- '[]byte(s)', its block and its room being what they may be. -/
theorem conv_bytes (T : ByteArray) : ∃ (capf : World → Nat) (objf : World → Obj), (∀ W : World, (convert 9 32 (.string T)).run Try.prog W = .ok (.slice (some ⟨W.heap.size, 0, none⟩) T.size (capf W)) (W.alloc (objf W)).drew) ∧
    ∀ W : World, BytesBlk (W.alloc (objf W)).drew W.heap.size T.data.toList := by
  refine ⟨fun W => grownCap W T.size 0 5, fun W => .cells (bytesRow T (grownCap W T.size 0 5)) 5 ((bytesRow T (grownCap W T.size 0 5)).size, (bytesRow T (grownCap W T.size 0 5)).size + 1), fun W => run_bytes_of_string W 9 32 5 T Try.underlying9 Try.underlying32 Try.underlying5, fun W => ?_⟩
  refine ⟨_, _, heap_alloc_new W _, fun j hj => ?_⟩
  have hj' : j < T.data.size := by simpa using hj
  rw [bytesRow_at T _ j hj']
  have : T.data.toList.getD j 0 = T.data[j] := by rw [List.getD_eq_getElem?_getD, Array.getElem?_toList, Array.getElem?_eq_getElem hj']; rfl
  rw [this]

/-- The lists of the patterns made so far. -/
structure Kept (w : World) (base : Nat) (v : Value) (ps : List Str) : Prop where
  ex : ∃ xs, w.ownsRow base 32 1 v ps.length xs ∧ ∀ i, i < ps.length → ∃ b c, xs[i]? = some (.slice (some ⟨b, 0, none⟩) (pat ps i).length c) ∧ BytesBlk w b (pat ps i)

theorem Kept.nil (w : World) (base : Nat) : Kept w base (.slice none 0 0) [] := ⟨[], World.ownsRow_nil _ _ _ _, fun _ h => absurd h (Nat.not_lt_zero _)⟩

theorem pat_append_left {ps qs : List Str} {i : Nat} (h : i < ps.length) : pat (ps ++ qs) i = pat ps i := by
  unfold pat; simp [List.getD, List.getElem?_append_left h]
theorem pat_append_new {ps : List Str} {x : Str} : pat (ps ++ [x]) ps.length = x := by
  unfold pat; simp [List.getD]

theorem bytes_ne_row {w : World} {base n b : Nat} {v : Value} {xs : List Value} {s : Str} (h : w.ownsRow base 32 1 v n xs) (hb : BytesBlk w b s) : some b ≠ v.ownBlock := by
  intro e
  rcases h.2 with ⟨rfl, _⟩ | ⟨g, cap, cur, rfl, _, hg, _⟩
  · cases e
  · have : b = g := by simpa [Value.ownBlock] using e
    subst this
    obtain ⟨cur', fr, h1, _⟩ := hb
    rw [hg] at h1
    cases h1

/-- One pattern more. -/
theorem Kept.more {w wa w1 : World} {base g' cap' c : Nat} {v : Value} {ps : List Str} {x : Str} (ha : Below w.heap.size w wa) (hx : BytesBlk wa w.heap.size x)
    {xs : List Value} (hxs : w.ownsRow base 32 1 v ps.length xs) (hall : ∀ i, i < ps.length → ∃ b c, xs[i]? = some (.slice (some ⟨b, 0, none⟩) (pat ps i).length c) ∧ BytesBlk w b (pat ps i))
    (ho : w1.ownsRow base 32 1 (.slice (some ⟨g', 0, none⟩) (ps.length + 1) cap') (ps.length + 1) (xs ++ [.slice (some ⟨w.heap.size, 0, none⟩) x.length c])) (hg : wa.grownBy w1 v.ownBlock) :
    Kept w1 base (.slice (some ⟨g', 0, none⟩) (ps.length + 1) cap') (ps ++ [x]) := by
  have hl : (ps ++ [x]).length = ps.length + 1 := by simp
  have hxl : xs.length = ps.length := by have := hxs.1; omega
  have hrow : wa.ownsRow base 32 1 v ps.length xs := hxs.kept (grown_of_below ha none) (by cases v.ownBlock <;> simp)
  refine ⟨xs ++ [.slice (some ⟨w.heap.size, 0, none⟩) x.length c], by rw [hl]; exact ho, ?_⟩
  intro i hi
  rw [hl] at hi
  by_cases e : i = ps.length
  · subst e
    refine ⟨w.heap.size, c, ?_, ?_⟩
    · rw [pat_append_new, List.getElem?_append_right (by omega), hxl]; simp
    · rw [pat_append_new]; exact hx.kept (hg.block _ hx.lt (bytes_ne_row hrow hx))
  · obtain ⟨b, c', h1, h2⟩ := hall i (by omega)
    refine ⟨b, c', ?_, ?_⟩
    · rw [pat_append_left (by omega), List.getElem?_append_left (by omega)]; exact h1
    · rw [pat_append_left (by omega)]
      have h3 := h2.kept (ha.block b h2.lt)
      exact h3.kept (hg.block _ h3.lt (bytes_ne_row hrow h3))

theorem Kept.pats {w : World} {base : Nat} {v : Value} {ps : List Str} (h : Kept w base v ps) : ∃ ap cap, v = .slice ap ps.length cap ∧ PatsIn w w.heap.size ap ps := by
  obtain ⟨xs, hx, hall⟩ := h.ex
  have hx' := hx
  rcases hx.2 with ⟨rfl, h0⟩ | ⟨g, cap, cur, rfl, _, hg, _⟩
  · exact ⟨none, 0, by rw [h0], fun hp => by omega⟩
  · refine ⟨some ⟨g, 0, none⟩, cap, rfl, fun _ => ⟨g, 0, (Array.getElem?_eq_some_iff.1 hg).1, rfl, fun i hi => ?_⟩⟩
    obtain ⟨b, c, h1, h2⟩ := hall i hi
    exact ⟨some ⟨b, 0, none⟩, c, by rw [Nat.zero_add, hx'.cellAt i (by omega)]; exact h1, h2.bytes h2.lt⟩

/-- Texts that lie in memory. -/
def StrsIn (w : World) (B : Nat) (ap : Option Addr) (len : Nat) (ss : List ByteArray) : Prop :=
  0 < len → ∃ b o, b < B ∧ ap = some ⟨b, o, none⟩ ∧ ∀ i, i < len → w.cell? ⟨b, o + i, none⟩ = some (.string (ss.getD i .empty))

theorem keepP_len (ss : List ByteArray) (len : Nat) (h : len ≤ ss.length) : (keepP ss len).length = min len 16 := by unfold keepP; simp; omega
/-- The first k of them. -/
def keepK (ss : List ByteArray) (k : Nat) : List Str := (ss.take k).map fixS
theorem keepK_len (ss : List ByteArray) (k : Nat) (h : k ≤ ss.length) : (keepK ss k).length = k := by unfold keepK; simp; omega
theorem keepK_succ (ss : List ByteArray) (k : Nat) (h : k < ss.length) : keepK ss (k + 1) = keepK ss k ++ [fixS (ss.getD k .empty)] := by
  unfold keepK
  have : ss.getD k .empty = ss[k] := by simp [List.getD, h]
  rw [this, List.take_succ_eq_append_getElem h, List.map_append]
  rfl

theorem size_list (T : ByteArray) : T.size = T.data.toList.length := by simp
theorem empty_of {s : ByteArray} (h : s.size = 0) : s.toList.isEmpty = true := by rw [ByteArray.toList_eq, List.isEmpty_iff]; exact List.length_eq_zero_iff.1 (by rw [← size_list]; exact h)
theorem empty_not {s : ByteArray} (h : s.size ≠ 0) : s.toList.isEmpty = false := by
  cases g : s.toList.isEmpty with
  | false => rfl
  | true => rw [ByteArray.toList_eq, List.isEmpty_iff] at g; exact absurd (by rw [size_list, g]; rfl) h

theorem fixS_empty {s : ByteArray} (h : s.size = 0) : fixS s = (⟨#[97]⟩ : ByteArray).data.toList := by unfold fixS; rw [if_pos h]; rfl
theorem fixS_short {s : ByteArray} (h0 : s.size ≠ 0) (h : s.size ≤ 32) : fixS s = s.data.toList := by unfold fixS; rw [if_neg h0, List.take_of_length_le (by simpa using h)]
theorem fixS_long {s : ByteArray} (h : 32 < s.size) : fixS s = (s.extract 0 32).data.toList := by
  unfold fixS; rw [if_neg (by omega)]
  simp [ByteArray.data_extract]

set_option maxHeartbeats 2000000 in
set_option maxRecDepth 100000 in
theorem keepPats_any (ap : Option Addr) (len cap : Nat) (ss : List ByteArray) (w : World) (hS : StrsIn w w.heap.size ap len ss) (hl : len ≤ ss.length) (hlen : len ≤ maxLen) (hsz : ∀ i, i < len → (ss.getD i .empty).size ≤ maxLen) :
    Calls Try.prog 6 #[.slice ap len cap] w fun e w' => ∃ ap' cap', e = .returned (.slice ap' (keepP ss len).length cap') ∧ PatsIn w' w'.heap.size ap' (keepP ss len) ∧ Below w.heap.size w w' := by
  unfold maxLen at hlen hsz
  obtain ⟨i0, hi, hz0, hz1, hz2⟩ := info_parts Try.infoL
  have HS := hide hS
  have HSZ := hide hsz
  clear hS hsz
  go_enter Try.func6, Try.ntmps6
  go_wp2
  go_loopw [3, 4] (fun v3 v4 wr => ∃ k : Nat, v4 = .int .i64 k ∧ k ≤ min len 16 ∧ Hid (Kept wr w.heap.size v3 (keepK ss k)) ∧ Hid (Below w.heap.size w wr)) (fun _ v4 _ => len - (intOf v4).toNat)
  case atStart => exact ⟨0, rfl, Nat.zero_le _, hide (Kept.nil _ _), hide (Below.refl _ _)⟩
  case round =>
    obtain ⟨k, rfl, hk, HK, HB⟩ := hrel
    have hszw := (unhide HB).size
    have hk1 : k ≤ len := by omega
    have hk2 : k ≤ 16 := by omega
    by_cases hlt : k < len ∧ k < 16
    · obtain ⟨hlt1, hlt2⟩ := hlt
      obtain ⟨b, o, hb, rfl, hcell⟩ := unhide HS (by omega)
      have c0 := ((unhide HB).cell (p := ⟨b, o + k, none⟩) hb).trans (hcell k hlt1)
      have hss := unhide HSZ k hlt1
      obtain ⟨xs, hxs, hall⟩ := (unhide HK).ex
      have hkl := keepK_len ss k (by omega)
      rw [hkl] at hxs hall
      have HSU := hide (keepK_succ ss k (by omega))
      have i1 : (k : Int) < (len : Int) := by omega
      have i2 : (k : Int) < 16 := by omega
      have i0' : (0 : Int) ≤ (k : Int) := by omega
      generalize ss.getD k .empty = s at c0 hss HSU
      have HXS := hide hxs
      have HALL := hide hall
      have HKL := hide hkl
      clear hcell hxs hall hkl
      by_cases h0 : s.size = 0
      · have h0b : s.toList.isEmpty = true := empty_of h0
        have HF := hide (fixS_empty h0)
        obtain ⟨capf, objf, hcv, hbb⟩ := conv_bytes (⟨#[97]⟩ : ByteArray)
        have HOa : Hid (((wr.alloc (objf wr)).alloc (.cells #[.slice (some ⟨wr.heap.size, 0, none⟩) ((⟨#[97]⟩ : ByteArray)).size (capf wr)] 32)).drew.ownsRow w.heap.size 32 1 u3 k xs) := hide ((((unhide HXS).alloc _).alloc _).drew)
        have HNW : Hid (∀ j u, [Value.slice (some ⟨wr.heap.size, 0, none⟩) ((⟨#[97]⟩ : ByteArray)).size (capf wr)][j]? = some u → ((wr.alloc (objf wr)).alloc (.cells #[.slice (some ⟨wr.heap.size, 0, none⟩) ((⟨#[97]⟩ : ByteArray)).size (capf wr)] 32)).drew.cell? ((⟨wr.heap.size + 1, 0, none⟩ : Addr).add j) = some u) := hide (by
          have := World.news_of_block (w := ((wr.alloc (objf wr)).alloc (.cells #[.slice (some ⟨wr.heap.size, 0, none⟩) ((⟨#[97]⟩ : ByteArray)).size (capf wr)] 32)).drew) (heap_alloc_new (wr.alloc (objf wr)) (.cells #[.slice (some ⟨wr.heap.size, 0, none⟩) ((⟨#[97]⟩ : ByteArray)).size (capf wr)] 32))
          rw [show (wr.alloc (objf wr)).heap.size = wr.heap.size + 1 by simp] at this
          exact this)
        have HKN : Hid (∀ (w1 : World) (g' cap' : Nat), w1.ownsRow w.heap.size 32 1 (.slice (some ⟨g', 0, none⟩) (k + 1) cap') (k + 1) (xs ++ [.slice (some ⟨wr.heap.size, 0, none⟩) ((⟨#[97]⟩ : ByteArray)).size (capf wr)]) → ((wr.alloc (objf wr)).alloc (.cells #[.slice (some ⟨wr.heap.size, 0, none⟩) ((⟨#[97]⟩ : ByteArray)).size (capf wr)] 32)).drew.grownBy w1 u3.ownBlock → Kept w1 w.heap.size (.slice (some ⟨g', 0, none⟩) (k + 1) cap') (keepK ss (k + 1)) ∧ Below w.heap.size w w1) := hide (by
          intro w1 g' cap' ho hg
          have hba : Below wr.heap.size wr ((wr.alloc (objf wr)).alloc (.cells #[.slice (some ⟨wr.heap.size, 0, none⟩) ((⟨#[97]⟩ : ByteArray)).size (capf wr)] 32)).drew := (((Below.refl _ _).alloc (Nat.le_refl _) _).alloc (by simp) _).drew
          have hbx : BytesBlk ((wr.alloc (objf wr)).alloc (.cells #[.slice (some ⟨wr.heap.size, 0, none⟩) ((⟨#[97]⟩ : ByteArray)).size (capf wr)] 32)).drew wr.heap.size (fixS s) := by
            rw [unhide HF]
            exact (hbb wr).kept (Below.heap_alloc (wr.alloc (objf wr)) _ _ (by simp))
          have hfl : ((⟨#[97]⟩ : ByteArray)).size = (fixS s).length := by rw [unhide HF]; exact size_list _
          have hkl := unhide HKL
          rw [unhide HSU]
          refine ⟨?_, (unhide HB).trans ((hba.mono hszw).trans (below_of_grown hg (by simp; omega) (own_lt (unhide HXS))))⟩
          have hm := Kept.more (g' := g') (cap' := cap') (c := capf wr) hba hbx (by rw [hkl]; exact unhide HXS) (by rw [hkl]; exact unhide HALL) (by rw [hkl, ← hfl]; exact ho) hg
          rw [hkl] at hm
          exact hm)
        clear hbb
        go_wp2_with (first | (at_builtin; refine wpList_append_lies _ rfl (.tmp 27) (.tmp 30) 27 rfl w.heap.size 32 i0 (.slice none 0 0) 1 24 Try.underlying27 hi hz0 hz1 hz2 rfl (by decide) _ k xs rfl (unhide HOa) ⟨wr.heap.size + 1, 0, none⟩ 1 1 [.slice (some ⟨wr.heap.size, 0, none⟩) ((⟨#[97]⟩ : ByteArray)).size (capf wr)] rfl rfl (unhide HNW) (by intro u hu; simp at hu; subst hu; rfl) (by omega) (by unfold maxLen; omega) (by omega) (by simp; omega) _ rfl ?_; intro g' cap' w1 hown' hgrow hat hlt'; obtain ⟨k1, k2⟩ := unhide HKN w1 g' cap' hown' hgrow; have HK1 := hide k1; have HK2 := hide k2; clear hown' hgrow hat k1 k2))
        go_roundw
        case rel => exact ⟨k + 1, by go_num, by omega, HK1, HK2⟩
        case measure => simp [intOf]; omega
      · have h0b : s.toList.isEmpty = false := empty_not h0
        by_cases h32 : 32 < s.size
        · have h32i : (32 : Int) < (s.size : Int) := by omega
          have HF := hide (fixS_long h32)
          obtain ⟨capf, objf, hcv, hbb⟩ := conv_bytes (s.extract 0 32)
          have eT : (s.extract 0 32).size = min 32 s.size := by simp
          rw [eT] at hcv
          have HOa : Hid (((wr.alloc (objf wr)).alloc (.cells #[.slice (some ⟨wr.heap.size, 0, none⟩) (min 32 s.size) (capf wr)] 32)).drew.ownsRow w.heap.size 32 1 u3 k xs) := hide ((((unhide HXS).alloc _).alloc _).drew)
          have HNW : Hid (∀ j u, [Value.slice (some ⟨wr.heap.size, 0, none⟩) (min 32 s.size) (capf wr)][j]? = some u → ((wr.alloc (objf wr)).alloc (.cells #[.slice (some ⟨wr.heap.size, 0, none⟩) (min 32 s.size) (capf wr)] 32)).drew.cell? ((⟨wr.heap.size + 1, 0, none⟩ : Addr).add j) = some u) := hide (by
            have := World.news_of_block (w := ((wr.alloc (objf wr)).alloc (.cells #[.slice (some ⟨wr.heap.size, 0, none⟩) (min 32 s.size) (capf wr)] 32)).drew) (heap_alloc_new (wr.alloc (objf wr)) (.cells #[.slice (some ⟨wr.heap.size, 0, none⟩) (min 32 s.size) (capf wr)] 32))
            rw [show (wr.alloc (objf wr)).heap.size = wr.heap.size + 1 by simp] at this
            exact this)
          have HKN : Hid (∀ (w1 : World) (g' cap' : Nat), w1.ownsRow w.heap.size 32 1 (.slice (some ⟨g', 0, none⟩) (k + 1) cap') (k + 1) (xs ++ [.slice (some ⟨wr.heap.size, 0, none⟩) (min 32 s.size) (capf wr)]) → ((wr.alloc (objf wr)).alloc (.cells #[.slice (some ⟨wr.heap.size, 0, none⟩) (min 32 s.size) (capf wr)] 32)).drew.grownBy w1 u3.ownBlock → Kept w1 w.heap.size (.slice (some ⟨g', 0, none⟩) (k + 1) cap') (keepK ss (k + 1)) ∧ Below w.heap.size w w1) := hide (by
            intro w1 g' cap' ho hg
            have hba : Below wr.heap.size wr ((wr.alloc (objf wr)).alloc (.cells #[.slice (some ⟨wr.heap.size, 0, none⟩) (min 32 s.size) (capf wr)] 32)).drew := (((Below.refl _ _).alloc (Nat.le_refl _) _).alloc (by simp) _).drew
            have hbx : BytesBlk ((wr.alloc (objf wr)).alloc (.cells #[.slice (some ⟨wr.heap.size, 0, none⟩) (min 32 s.size) (capf wr)] 32)).drew wr.heap.size (fixS s) := by
              rw [unhide HF]
              exact (hbb wr).kept (Below.heap_alloc (wr.alloc (objf wr)) _ _ (by simp))
            have hfl : (min 32 s.size) = (fixS s).length := by rw [unhide HF, ← eT]; exact size_list _
            have hkl := unhide HKL
            rw [unhide HSU]
            refine ⟨?_, (unhide HB).trans ((hba.mono hszw).trans (below_of_grown hg (by simp; omega) (own_lt (unhide HXS))))⟩
            have hm := Kept.more (g' := g') (cap' := cap') (c := capf wr) hba hbx (by rw [hkl]; exact unhide HXS) (by rw [hkl]; exact unhide HALL) (by rw [hkl, ← hfl]; exact ho) hg
            rw [hkl] at hm
            exact hm)
          clear hbb eT
          go_wp2_with (first | (at_builtin; refine wpList_append_lies _ rfl (.tmp 27) (.tmp 30) 27 rfl w.heap.size 32 i0 (.slice none 0 0) 1 24 Try.underlying27 hi hz0 hz1 hz2 rfl (by decide) _ k xs rfl (unhide HOa) ⟨wr.heap.size + 1, 0, none⟩ 1 1 [.slice (some ⟨wr.heap.size, 0, none⟩) (min 32 s.size) (capf wr)] rfl rfl (unhide HNW) (by intro u hu; simp at hu; subst hu; rfl) (by omega) (by unfold maxLen; omega) (by omega) (by simp; omega) _ rfl ?_; intro g' cap' w1 hown' hgrow hat hlt'; obtain ⟨k1, k2⟩ := unhide HKN w1 g' cap' hown' hgrow; have HK1 := hide k1; have HK2 := hide k2; clear hown' hgrow hat k1 k2))
          go_roundw
          case rel => exact ⟨k + 1, by go_num, by omega, HK1, HK2⟩
          case measure => simp [intOf]; omega
        · have h32i : ¬ (32 : Int) < (s.size : Int) := by omega
          have HF := hide (fixS_short h0 (by omega))
          obtain ⟨capf, objf, hcv, hbb⟩ := conv_bytes s
          have HOa : Hid (((wr.alloc (objf wr)).alloc (.cells #[.slice (some ⟨wr.heap.size, 0, none⟩) (s).size (capf wr)] 32)).drew.ownsRow w.heap.size 32 1 u3 k xs) := hide ((((unhide HXS).alloc _).alloc _).drew)
          have HNW : Hid (∀ j u, [Value.slice (some ⟨wr.heap.size, 0, none⟩) (s).size (capf wr)][j]? = some u → ((wr.alloc (objf wr)).alloc (.cells #[.slice (some ⟨wr.heap.size, 0, none⟩) (s).size (capf wr)] 32)).drew.cell? ((⟨wr.heap.size + 1, 0, none⟩ : Addr).add j) = some u) := hide (by
            have := World.news_of_block (w := ((wr.alloc (objf wr)).alloc (.cells #[.slice (some ⟨wr.heap.size, 0, none⟩) (s).size (capf wr)] 32)).drew) (heap_alloc_new (wr.alloc (objf wr)) (.cells #[.slice (some ⟨wr.heap.size, 0, none⟩) (s).size (capf wr)] 32))
            rw [show (wr.alloc (objf wr)).heap.size = wr.heap.size + 1 by simp] at this
            exact this)
          have HKN : Hid (∀ (w1 : World) (g' cap' : Nat), w1.ownsRow w.heap.size 32 1 (.slice (some ⟨g', 0, none⟩) (k + 1) cap') (k + 1) (xs ++ [.slice (some ⟨wr.heap.size, 0, none⟩) (s).size (capf wr)]) → ((wr.alloc (objf wr)).alloc (.cells #[.slice (some ⟨wr.heap.size, 0, none⟩) (s).size (capf wr)] 32)).drew.grownBy w1 u3.ownBlock → Kept w1 w.heap.size (.slice (some ⟨g', 0, none⟩) (k + 1) cap') (keepK ss (k + 1)) ∧ Below w.heap.size w w1) := hide (by
            intro w1 g' cap' ho hg
            have hba : Below wr.heap.size wr ((wr.alloc (objf wr)).alloc (.cells #[.slice (some ⟨wr.heap.size, 0, none⟩) (s).size (capf wr)] 32)).drew := (((Below.refl _ _).alloc (Nat.le_refl _) _).alloc (by simp) _).drew
            have hbx : BytesBlk ((wr.alloc (objf wr)).alloc (.cells #[.slice (some ⟨wr.heap.size, 0, none⟩) (s).size (capf wr)] 32)).drew wr.heap.size (fixS s) := by
              rw [unhide HF]
              exact (hbb wr).kept (Below.heap_alloc (wr.alloc (objf wr)) _ _ (by simp))
            have hfl : (s).size = (fixS s).length := by rw [unhide HF]; exact size_list _
            have hkl := unhide HKL
            rw [unhide HSU]
            refine ⟨?_, (unhide HB).trans ((hba.mono hszw).trans (below_of_grown hg (by simp; omega) (own_lt (unhide HXS))))⟩
            have hm := Kept.more (g' := g') (cap' := cap') (c := capf wr) hba hbx (by rw [hkl]; exact unhide HXS) (by rw [hkl]; exact unhide HALL) (by rw [hkl, ← hfl]; exact ho) hg
            rw [hkl] at hm
            exact hm)
          clear hbb
          go_wp2_with (first | (at_builtin; refine wpList_append_lies _ rfl (.tmp 27) (.tmp 30) 27 rfl w.heap.size 32 i0 (.slice none 0 0) 1 24 Try.underlying27 hi hz0 hz1 hz2 rfl (by decide) _ k xs rfl (unhide HOa) ⟨wr.heap.size + 1, 0, none⟩ 1 1 [.slice (some ⟨wr.heap.size, 0, none⟩) (s).size (capf wr)] rfl rfl (unhide HNW) (by intro u hu; simp at hu; subst hu; rfl) (by omega) (by unfold maxLen; omega) (by omega) (by simp; omega) _ rfl ?_; intro g' cap' w1 hown' hgrow hat hlt'; obtain ⟨k1, k2⟩ := unhide HKN w1 g' cap' hown' hgrow; have HK1 := hide k1; have HK2 := hide k2; clear hown' hgrow hat k1 k2))
          go_roundw
          case rel => exact ⟨k + 1, by go_num, by omega, HK1, HK2⟩
          case measure => simp [intOf]; omega
    · have hkk : k = min len 16 := by omega
      have HF : Hid (keepK ss k = keepP ss len) := hide (by rw [hkk]; rfl)
      obtain ⟨ap', cap', hv, hP⟩ := (unhide HK).pats
      subst hv
      have HP := hide hP
      clear hP hkk
      by_cases hlt1 : k < len
      · have i1 : (k : Int) < (len : Int) := by omega
        have i2 : ¬ (k : Int) < 16 := by omega
        go_wp2
        go_ret
        rw [← unhide HF]
        first | exact ⟨ap', cap', rfl, unhide HP, unhide HB⟩ | exact ⟨ap', ⟨cap', rfl⟩, unhide HP, unhide HB⟩
      · have i1 : ¬ (k : Int) < (len : Int) := by omega
        go_wp2
        go_ret
        rw [← unhide HF]
        first | exact ⟨ap', cap', rfl, unhide HP, unhide HB⟩ | exact ⟨ap', ⟨cap', rfl⟩, unhide HP, unhide HB⟩
end Go.Proofs.Ytmmmhmdjcpajgaa
