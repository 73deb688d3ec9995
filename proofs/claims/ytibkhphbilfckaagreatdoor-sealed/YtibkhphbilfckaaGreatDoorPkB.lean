import Derived.Test.YtibkhphbilfckaaGreatDoorPkA
import Derived.Deep.AppendLies
namespace Go.Proofs.YtibkhphbilfckaaGreatDoor
open Go.RowKit Scour Go.Lib Go.Shelf Go.Sort

theorem encB_nums (s : Str) : s.map encB = (numsU s).map eU := by
  unfold numsU
  rw [List.map_map]
  rfl

theorem holds_of_owns {w : World} {base g n cap : Nat} {s : Str} (h : w.ownsRow base 5 1 (.slice (some ⟨g, 0, none⟩) n cap) n (s.map encB)) (hn : s.length = n) : Holds eU w g 0 (numsU s).toArray := by
  intro j hj
  have hj2 : j < s.length := by simpa [numsU] using hj
  rw [Nat.zero_add]
  refine ⟨?_, h.frozenAt j⟩
  rw [h.cellAt j (by omega), encB_nums, getElem!_pos _ j hj]
  simp [numsU, hj2]

/-- A row of bytes that is written over, and cut. -/
theorem owns_put {w : World} {base g n cap q m : Nat} {os : Array Obj} {xs : List Value} (h : w.ownsRow base 5 1 (.slice (some ⟨g, 0, none⟩) n cap) n xs) (d : Array Int) (hd : d.size = n) (hm : m ≤ n) :
    (grow (putRow eU (Sort.ahead w q) g 0 d) os).ownsRow base 5 1 (.slice (some ⟨g, 0, none⟩) m cap) m ((d.toList.take m).map eU) := by
  obtain ⟨h0, h1⟩ := h
  rcases h1 with ⟨hv, _⟩ | ⟨g', cap', cur, hv, h2, h3, h4, h5, h6, h7⟩
  · cases hv
  · simp only [Value.slice.injEq, Option.some.injEq, Addr.mk.injEq, and_true, true_and] at hv
    obtain ⟨rfl, rfl⟩ := hv
    refine ⟨by simp [hd]; omega, Or.inr ⟨g, cap, _, rfl, h2, heap_put eU d h3, by omega, h5, by rw [putCells_size]; exact h6, ?_⟩⟩
    have hcur : n ≤ cur.size := by omega
    apply List.ext_getElem?
    intro j
    by_cases hj : j < m
    · rw [List.getElem?_take_of_lt (by omega), Array.getElem?_toList, putCells_get eU d cur j (by omega) (by omega)]
      have hjd : j < d.size := by omega
      rw [List.getElem?_map, List.getElem?_take_of_lt hj, Array.getElem?_toList, getElem!_pos d j hjd]
      simp [hjd]
    · rw [List.getElem?_eq_none (by simp; omega), List.getElem?_eq_none (by simp; omega)]

theorem owns_form {w : World} {base e s n : Nat} {v : Value} {xs : List Value} (h : w.ownsRow base e s v n xs) : (v = .slice none 0 0 ∧ n = 0) ∨ ∃ g cap, v = .slice (some ⟨g, 0, none⟩) n cap ∧ base ≤ g ∧ g < w.heap.size ∧ n ≤ cap := by
  rcases h.2 with h1 | ⟨g, cap, cur, hv, h2, h3, h4, _⟩
  · exact Or.inl h1
  · exact Or.inr ⟨g, cap, hv, h2, (Array.getElem?_eq_some_iff.1 h3).1, h4⟩

theorem fld_last (a b c : Value) (w : World) : (Instr.field 163 (.agg #[a, b, c]) 1).run Tryz.prog w = .ok b w := by kernel_rfl

set_option maxHeartbeats 8000000 in
set_option maxRecDepth 100000 in
theorem pclasses_any (bt be g : Nat) (ps S : List Str) (w : World) (hM : TrieM w bt be g ps S) :
    Calls Tryz.prog 72 #[.pointer (some ⟨bt, 0, none⟩)] w fun e w' => ∃ v, e = .returned v ∧ Hid (w'.ownsRow w.heap.size 5 1 v (clsL ps).length ((clsL ps).map encB)) ∧ Hid (Below w.heap.size w w') := by
  obtain ⟨i0, hi, hz0, hz1, hz2⟩ := info_parts Tryz.infoB
  have hl := hM.len
  have HCL : Hid (∀ (d' : Array Int), d'.size = S.length - 1 → PermIn 0 (S.length - 1) (numsU (lbs S (S.length - 1))).toArray d' → SortedIn ltInt 0 (S.length - 1) d' → compactUpTo d' (S.length - 1) = numsU (clsL ps)) := hide (by
    obtain ⟨cap, par, lst, E, hT, hS⟩ := hM.ex
    exact fun d' h1 h2 h3 => cls_of_sorted hT.rep hS d' _ rfl h1 h2 h3)
  have HLN : Hid (∀ W, Below w.heap.size w W → Calls Tryz.prog 26 #[.pointer (some ⟨bt, 0, none⟩)] W fun e w' => e = .returned (.int .i64 S.length) ∧ w' = W) := hide fun W hb => tlen_any bt be g ps S W (hM.below hb)
  have HAT : Hid (∀ W i, 0 < i → i < S.length → Below w.heap.size w W → Calls Tryz.prog 78 #[.pointer (some ⟨bt, 0, none⟩), .int .i64 i] W fun e w' => e = .returned (.agg #[.int .i64 (parN S i : Nat), .int .u8 (lastB S i).toNat, .int .i64 (failN S i : Nat)]) ∧ Below W.heap.size W w') := hide fun W i h0 h1 hb => tat_any bt be g ps S W (hM.below hb) i h0 h1
  have hfld := fld_last
  clear hM
  go_enter Tryz.func72, Tryz.ntmps72
  go_wp2
  go_loopw [3, 4] (fun v3 v4 wr => ∃ k : Nat, v4 = .int .i64 (k + 1 : Nat) ∧ k + 1 ≤ S.length ∧ Hid (wr.ownsRow w.heap.size 5 1 v3 k ((lbs S k).map encB)) ∧ Hid (Below w.heap.size w wr)) (fun _ v4 _ => S.length - (intOf v4).toNat)
  case atStart => exact ⟨0, rfl, hl.1, hide (World.ownsRow_nil _ _ _ _), hide (Below.refl _ _)⟩
  case round =>
    obtain ⟨k, rfl, hk, HO, HB⟩ := hrel
    have HL2 := hide (unhide HLN wr (unhide HB))
    have hsz := (unhide HB).size
    by_cases hks : k + 1 < S.length
    · have HA2 := hide (unhide HAT wr (k + 1) (by omega) hks (unhide HB))
      have hc2 : ((k + 1 : Nat) : Int) < (S.length : Int) := by omega
      obtain ⟨c, hc⟩ : ∃ c, lastB S (k + 1) = c := ⟨_, rfl⟩
      have HSU : Hid (lbs S (k + 1) = lbs S k ++ [c]) := hide (by rw [← hc]; exact lbs_succ S k)
      rw [hc] at HA2
      clear hc
      generalize ((parN S (k + 1) : Nat) : Int) = pp at HA2
      generalize ((failN S (k + 1) : Nat) : Int) = ff at HA2
      have HOA : Hid (∀ w2 ob, Below wr.heap.size wr w2 → (w2.alloc ob).ownsRow w.heap.size 5 1 u3 k ((lbs S k).map encB)) := hide fun w2 ob hb => (owns_kept (unhide HO) (fun b hl _ => hb.block b hl)).alloc _
      have HK : Hid (∀ w2 w1 g' cap', Below wr.heap.size wr w2 → w1.ownsRow w.heap.size 5 1 (.slice (some ⟨g', 0, none⟩) (k + 1) cap') (k + 1) ((lbs S k).map encB ++ [.int .u8 c.toNat]) → (w2.alloc (.cells #[.int .u8 c.toNat] 5)).grownBy w1 u3.ownBlock → w1.ownsRow w.heap.size 5 1 (.slice (some ⟨g', 0, none⟩) (k + 1) cap') (k + 1) ((lbs S (k + 1)).map encB) ∧ Below w.heap.size w w1) := hide (by
        intro w2 w1 g' cap' hb2 ho hgr
        have hs2 := hb2.size
        have hb1 : Below w.heap.size w w1 := (((unhide HB).trans (hb2.mono hsz)).alloc (by omega) _).trans (below_of_grown hgr (by simp; omega) (own_lt (unhide HO)))
        refine ⟨?_, hb1⟩
        rw [unhide HSU, List.map_append]
        exact ho)
      clear HSU
      go_wp2_with (first | (go_at_call 26; refine (unhide HL2).mono ?_; rintro e w' ⟨rfl, hw'⟩; obtain rfl := hw'.symm) | (go_at_call 78; refine (unhide HA2).mono ?_; rintro e w2 ⟨rfl, hb2⟩; have HB2 := hide hb2; have hs2 := hb2.size; clear hb2) | (at_builtin; refine wpList_append_lies _ rfl (.tmp 11) (.tmp 16) 27 rfl w.heap.size 5 i0 (.int .u8 0) 1 1 Tryz.underlying27 hi hz0 hz1 hz2 rfl (by decide) _ k ((lbs S k).map encB) rfl (unhide HOA w2 _ (unhide HB2)) ⟨w2.heap.size, 0, none⟩ 1 1 [.int .u8 c.toNat] rfl rfl (cell_one_new _ _ _) (by intro u hu; simp at hu; subst hu; rfl) (by omega) (by unfold maxLen; omega) (by omega) (by simp; omega) _ rfl ?_; intro g' cap' w1 hown' hgrow hat hlt'; obtain ⟨k1, k2⟩ := unhide HK w2 w1 g' cap' (unhide HB2) hown' hgrow; have HK1 := hide k1; have HK2 := hide k2; clear hown' hgrow hat k1 k2))
      go_roundw
      case rel => exact ⟨k + 1, by go_num, hks, HK1, HK2⟩
      case measure => simp [intOf]; omega
    · have hks2 : S.length - 1 = k := by omega
      have hc2 : ¬ ((k + 1 : Nat) : Int) < (S.length : Int) := by omega
      rw [hks2] at HCL
      rcases owns_form (unhide HO) with ⟨hv, hk0⟩ | ⟨gb, cb, hv, hgb, hgl, hcb⟩
      · subst hv hk0
        have HE : Hid (clsL ps = []) := hide (by
          have h := unhide HCL #[] rfl (by simp [lbs, numsU, PermIn]) (fun i j _ _ h => by omega)
          have h2 : numsU (clsL ps) = [] := by rw [← h]; simp [compactUpTo]
          simpa [numsU] using h2)
        have HS1 := hide (uSortNil wr)
        have HC1 := hide (uCompactNil wr)
        clear HCL
        go_wp2_with (first | (go_at_call 26; refine (unhide HL2).mono ?_; rintro e w' ⟨rfl, hw'⟩; obtain rfl := hw'.symm) | (go_at_call 106; refine (unhide HS1).mono ?_; rintro e w' ⟨rfl, hw'⟩; obtain rfl := hw'.symm) | (go_at_call 107; refine (unhide HC1).mono ?_; rintro e w' ⟨rfl, hw'⟩; obtain rfl := hw'.symm))
        go_ret
        exact ⟨_, rfl, hide (by rw [unhide HE]; exact World.ownsRow_nil _ _ _ _), HB⟩
      · subst hv
        have HS1 := hide (uSort gb 0 cb k (numsU (lbs S k)).toArray wr (by simp [numsU, lbs]) (holds_of_owns (unhide HO) (lbs_len S k)) hgl (by omega))
        have HC1 : Hid (∀ (d1 : Array Int) w1, d1.size = k → URow wr gb 0 d1 w1 → Calls Tryz.prog 107 #[.slice (some ⟨gb, 0, none⟩) k cb] w1 fun e w' => e = .returned (.slice (some ⟨gb, 0, none⟩) (compactUpTo d1 k).length cb) ∧ ∃ q, w' = putRow eU (Sort.ahead w1 q) gb 0 (compactUpTo d1 k ++ List.replicate (k - (compactUpTo d1 k).length) 0).toArray) := hide (by
          intro d1 w1 h1 h2
          subst h1
          exact uCompact gb 0 cb d1 w1 h2.hold (by omega) hcb)
        go_wp2_with (first | (go_at_call 26; refine (unhide HL2).mono ?_; rintro e w' ⟨rfl, hw'⟩; obtain rfl := hw'.symm) | (go_at_call 106; refine (unhide HS1).mono ?_; rintro e w1 ⟨rfl, d1, K1, HR1⟩) | (go_at_call 107; refine (unhide HC1 d1 w1 (unhide K1).1 (unhide HR1)).mono ?_; rintro e w3 ⟨rfl, q, hw3⟩; have HW3 := hide hw3; clear hw3))
        go_ret
        have hcl := unhide HCL d1 (unhide K1).1 (unhide K1).2.1 (unhide K1).2.2
        obtain ⟨nn, os, hw1⟩ := (unhide HR1).sw
        have ho1 := owns_put (q := nn) (os := os) (unhide HO) d1 (unhide K1).1 (Nat.le_refl k)
        have hb1 : wr.grownBy w1 (some gb) := by rw [hw1]; exact grown_put eU d1
        have hw1' : w1 = grow (putRow eU (Sort.ahead wr nn) gb 0 d1) os := hw1
        rw [← hw1'] at ho1
        have hlen : (compactUpTo d1 k).length ≤ k := by
          unfold compactUpTo
          rw [List.length_map]
          exact Nat.le_trans (List.length_filter_le _ _) (by simp)
        have hs1 : w.heap.size ≤ w1.heap.size := Nat.le_trans hsz (by rw [hw1]; unfold sortWorld; rw [size_grow, size_putRow]; simp [Sort.ahead])
        have hsa : (compactUpTo d1 k ++ List.replicate (k - (compactUpTo d1 k).length) (0 : Int)).toArray.size = k := by simp; omega
        have ho2 := owns_put (q := q) (os := #[]) ho1 _ hsa hlen
        have hb2 : w1.grownBy (grow (putRow eU (Sort.ahead w1 q) gb 0 (compactUpTo d1 k ++ List.replicate (k - (compactUpTo d1 k).length) (0 : Int)).toArray) #[]) (some gb) := grown_put eU _
        rw [grow_empty, ← unhide HW3] at ho2 hb2
        refine ⟨_, rfl, hide ?_, hide ?_⟩
        · have e1 : ((compactUpTo d1 k ++ List.replicate (k - (compactUpTo d1 k).length) (0 : Int)).toArray.toList.take (compactUpTo d1 k).length) = compactUpTo d1 k := by simp
          rw [e1, hcl, ← encB_nums] at ho2
          have e2 : (numsU (clsL ps)).length = (clsL ps).length := by simp [numsU]
          rw [e2] at ho2
          rw [hcl, e2]
          exact ho2
        · exact ((unhide HB).trans (below_of_grown hb1 hsz (fun x e => by cases e; exact hgb))).trans (below_of_grown hb2 hs1 (fun x e => by cases e; exact hgb))
end Go.Proofs.YtibkhphbilfckaaGreatDoor

namespace Go.Proofs.YtibkhphbilfckaaGreatDoor
open Go.RowKit Scour Go.Lib Go.Shelf

theorem Tryz.infoX : (Tryz.prog.info? 210).map (fun i => (i.zero, i.size, i.bytes)) = some (some (.agg #[.int .i64 0, .int .i64 0]), 2, 16) := by kernel_rfl

theorem encP_len2 (l : List (Nat × Nat)) : (encP l).length = l.length * 2 := by rw [encP_len]; omega

set_option maxHeartbeats 8000000 in
set_option maxRecDepth 100000 in
theorem pexc_any (bt be g : Nat) (ps S : List Str) (w : World) (hM : TrieM w bt be g ps S) (s : Nat) (hs : s < S.length) (vC : Value) (c : Str) (hC : w.ownsRow 0 5 1 vC c.length (c.map encB)) (hc : c.length ≤ 256) :
    Calls Tryz.prog 108 #[.pointer (some ⟨bt, 0, none⟩), .int .i64 s, vC] w fun e w' => ∃ v, e = .returned v ∧ Hid (w'.ownsRow w.heap.size 210 2 v (excL S c s).length (encP (excL S c s))) ∧ Hid (Below w.heap.size w w') := by
  obtain ⟨i0, hi, hz0, hz1, hz2⟩ := info_parts Tryz.infoX
  have hl := hM.len
  obtain ⟨aC, cC, hv⟩ : ∃ aC cC, vC = .slice aC c.length cC := by
    rcases owns_form hC with ⟨h1, h2⟩ | ⟨gc, cc, h1, _⟩
    · exact ⟨none, 0, by rw [h1, h2]⟩
    · exact ⟨_, cc, h1⟩
  subst hv
  have HCC : Hid (∀ W k, Below w.heap.size w W → k < c.length → ∃ gc, aC = some ⟨gc, 0, none⟩ ∧ W.cell? ⟨gc, k, none⟩ = some (.int .u8 (c.getD k 0).toNat)) := hide (by
    intro W k hb hk
    rcases owns_form hC with ⟨h1, h2⟩ | ⟨gc, cc, h1, _⟩
    · omega
    · obtain ⟨rfl, rfl⟩ : aC = some ⟨gc, 0, none⟩ ∧ cC = cc := by simpa using h1
      have h2 := owns_kept (w' := W) hC (fun b hl _ => hb.block b hl)
      refine ⟨gc, rfl, ?_⟩
      rw [h2.cellAt k (by omega)]
      simp [encB, List.getD, hk])
  have HNX : Hid (∀ W n (b : UInt8), n < S.length → Below w.heap.size w W → Calls Tryz.prog 94 #[.pointer (some ⟨bt, 0, none⟩), .int .i64 n, .int .u8 b.toNat] W fun e w' => e = .returned (.int .i64 (nextN S n b)) ∧ Below W.heap.size W w') := hide fun W n b hn hb => tmnext_any bt be g ps S W (hM.below hb) n b hn
  clear hM hC
  go_enter Tryz.func108, Tryz.ntmps108
  go_wp2
  go_loopw [7, 13] (fun v7 v13 wr => ∃ k : Nat, v13 = .int .i64 k ∧ k ≤ c.length ∧ Hid (wr.ownsRow w.heap.size 210 2 v7 (excTo S c s k).length (encP (excTo S c s k))) ∧ Hid (Below w.heap.size w wr)) (fun _ v13 _ => c.length - (intOf v13).toNat)
  case atStart => exact ⟨0, rfl, Nat.zero_le _, hide (World.ownsRow_nil _ _ _ _), hide (Below.refl _ _)⟩
  case round =>
    obtain ⟨k, rfl, hk, HO, HB⟩ := hrel
    have hsz := (unhide HB).size
    by_cases hkc : k < c.length
    · obtain ⟨gc, rfl, hcell⟩ := unhide HCC wr k (unhide HB) hkc
      obtain ⟨b, hb⟩ : ∃ b, c.getD k 0 = b := ⟨_, rfl⟩
      rw [hb] at hcell
      have HXS : Hid (excTo S c s (k + 1) = excTo S c s k ++ if nextN S s b = nextN S 0 b then [] else [(k + 1, nextN S s b)]) := hide (by rw [excTo, hb])
      clear hb
      have hxl := excTo_len S c s k
      have HN1 := hide (unhide HNX wr s b hs (unhide HB))
      have HN2 : Hid (∀ W, Below w.heap.size w W → Calls Tryz.prog 94 #[.pointer (some ⟨bt, 0, none⟩), .int .i64 0, .int .u8 b.toNat] W fun e w' => e = .returned (.int .i64 (nextN S 0 b)) ∧ Below W.heap.size W w') := hide fun W hb => unhide HNX W 0 b hl.1 hb
      generalize nextN S s b = x at *
      generalize nextN S 0 b = y at *
      generalize excTo S c s k = xs at *
      go_wp2_with fail
      refine (unhide HN1).mono ?_
      rintro e w1 ⟨rfl, hb1⟩
      have HB1 := hide ((unhide HB).trans (hb1.mono hsz))
      have HO1 := hide (owns_kept (w' := w1) (unhide HO) (fun b hl _ => hb1.block b hl))
      clear hb1
      go_wp2_with fail
      refine (unhide HN2 w1 (unhide HB1)).mono ?_
      rintro e w2 ⟨rfl, hb2⟩
      have HB2 := hide ((unhide HB1).trans (hb2.mono (unhide HB1).size))
      have HO2 := hide (owns_kept (w' := w2) (unhide HO1) (fun b hl _ => hb2.block b hl))
      have hs2 := (unhide HB2).size
      clear hb2
      by_cases hxy : x = y
      · subst hxy
        go_wp2
        go_roundw
        case rel => exact ⟨k + 1, by go_num, hkc, hide (by rw [unhide HXS]; simpa using unhide HO2), HB2⟩
        case measure => simp [intOf]; omega
      · have HX2 : Hid (excTo S c s (k + 1) = xs ++ [(k + 1, x)]) := hide (by rw [unhide HXS, if_neg hxy])
        have HK : Hid (∀ w3 g' cap', w3.ownsRow w.heap.size 210 2 (.slice (some ⟨g', 0, none⟩) (xs.length + 1) cap') (xs.length + 1) (encP xs ++ [.int .i64 ((k : Int) + 1), .int .i64 x]) → (w2.alloc (.cells #[.int .i64 ((k : Int) + 1), .int .i64 x] 210)).grownBy w3 u7.ownBlock → w3.ownsRow w.heap.size 210 2 (.slice (some ⟨g', 0, none⟩) (xs.length + 1) cap') (excTo S c s (k + 1)).length (encP (excTo S c s (k + 1))) ∧ Below w.heap.size w w3) := hide (by
          intro w3 g' cap' ho hgr
          refine ⟨?_, ((unhide HB2).alloc hs2 _).trans (below_of_grown hgr (by simp; omega) (own_lt (unhide HO)))⟩
          rw [unhide HX2, encP_append, List.length_append]
          exact ho)
        have hxn : ¬ ((x : Int) = (y : Int)) := by omega
        clear HXS HX2
        go_wp2_with (at_builtin; refine wpList_append_lies _ rfl (.tmp 27) (.tmp 32) 157 rfl w.heap.size 210 i0 (.agg #[.int .i64 0, .int .i64 0]) 2 16 Tryz.underlying157 hi hz0 hz1 hz2 rfl (by decide) _ xs.length (encP xs) rfl ((unhide HO2).alloc _) ⟨w2.heap.size, 0, none⟩ 1 1 [.int .i64 ((k : Int) + 1), .int .i64 x] rfl rfl (World.news_of_block (heap_alloc_new w2 _)) (by intro u hu; simp at hu; rcases hu with rfl | rfl <;> rfl) (by omega) (by unfold maxLen; omega) (by omega) (by simp; omega) _ rfl ?_; intro g' cap' w3 hown' hgrow hat hlt'; obtain ⟨k1, k2⟩ := unhide HK w3 g' cap' hown' hgrow; have HK1 := hide k1; have HK2 := hide k2; clear hown' hgrow hat k1 k2)
        go_roundw
        case rel => exact ⟨k + 1, by go_num, hkc, HK1, HK2⟩
        case measure => simp [intOf]; omega
    · obtain rfl : k = c.length := by omega
      go_wp2
      go_ret
      exact ⟨_, rfl, HO, HB⟩
end Go.Proofs.YtibkhphbilfckaaGreatDoor
