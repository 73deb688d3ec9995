import Derived.Test.YthbbhpbkoankhaaGreatFlA
import Derived.Deep.RegionLaw
import Derived.Test.YthbbhpbkoankhaaGreatPlays
namespace Go.Proofs.YthbbhpbkoankhaaGreat
open Go.RowKit Scour Go.Lib

theorem TrieM.keep8 {w w' : World} {bt be g : Nat} {ps S : List Str} (h : TrieM w bt be g ps S) (hk : Keep8 w w') (hs : w.heap.size ≤ w'.heap.size) : TrieM w' bt be g ps S := by
  obtain ⟨cap, par, lst, E, hT, _⟩ := h.ex
  refine h.same hs (fun k hk2 => ?_)
  rcases hk2 with e | e | e
  · subst e; exact hk _ _ _ hT.blk (by decide) (by decide)
  · subst e; obtain ⟨cu, hcu⟩ := owns_blk hT.ends; exact hk _ _ _ hcu (by decide) (by decide)
  · subst e; obtain ⟨cu, hcu⟩ := owns_blk hT.row; exact hk _ _ _ hcu (by decide) (by decide)

theorem stS_eq {w : World} {bt be g : Nat} {ps S : List Str} (h : TrieM w bt be g ps S) {i : Nat} (h0 : 0 < i) (hi : i < S.length) : stS S i = numS (parN S i) ++ [lastB S i] ++ numS (failN S i) := by
  obtain ⟨cap, par, lst, E, hT, _⟩ := h.ex
  obtain ⟨p, c, _, _, _, e3⟩ := hT.rep.kids i h0 hi
  have e1 : (at' S i).take ((at' S i).length - 1) = (at' S i).dropLast := by rw [List.dropLast_eq_take]
  have e2 : (at' S i).drop ((at' S i).length - 1) = [lastB S i] := by
    unfold lastB
    rw [e3]
    simp
  unfold stS parN failN
  rw [e1, e2, List.drop_one]

theorem Wr.moreD {B : Nat} {w w1 : World} {bw : Nat} {xs ys : Str} {v : Value} {xc : Array Value} {g' cap' : Nat} (hB : B ≤ w.heap.size) (hbw : w.heap[bw]? = some (.cells #[v] 149 (0, 0))) (hr : w.ownsRow B 5 1 v xs.length (xs.map encB)) (hge : B ≤ bw)
    (ho : w1.ownsRow B 5 1 (.slice (some ⟨g', 0, none⟩) (xs.length + ys.length) cap') (xs.length + ys.length) (xs.map encB ++ ys.map encB)) (hg : (w.alloc (.cells xc 5)).drew.grownBy w1 v.ownBlock) (hat : v.ownBlock = some g' ∨ g' = w.heap.size + 1) :
    Wr B (w1.setCell ⟨bw, 0, none⟩ (.slice (some ⟨g', 0, none⟩) (xs.length + ys.length) cap')) bw (xs ++ ys) ∧ Below B w (w1.setCell ⟨bw, 0, none⟩ (.slice (some ⟨g', 0, none⟩) (xs.length + ys.length) cap')) ∧ w1.cell? ⟨bw, 0, none⟩ = some v ∧ w1.frozen? ⟨bw, 0, none⟩ = false ∧ Keep8 w (w1.setCell ⟨bw, 0, none⟩ (.slice (some ⟨g', 0, none⟩) (xs.length + ys.length) cap')) :=
  Wr.more hB hbw hr hge ho (xc := xc) ⟨hg.os, hg.tape, hg.output, hg.size, hg.block⟩ hat

theorem one_new {w : World} {x : Value} {t : TypeId} : (w.alloc (.cells #[x] t)).drew.heap[w.heap.size]? = some (.cells #[x] t (0, 0)) := heap_alloc_new w _

set_option maxHeartbeats 16000000 in
set_option maxRecDepth 100000 in
theorem wstates_any (B bw : Nat) (xs : Str) (bt be g : Nat) (ps S : List Str) (w : World) (h : Wr B w bw xs) (hB : B ≤ w.heap.size) (hT : TrieM w bt be g ps S) (hx : xs.length < 100000000) :
    Calls Tryz.prog 71 #[.pointer (some ⟨bw, 0, none⟩), .pointer (some ⟨bt, 0, none⟩)] w (Writes B w bw xs (numS S.length ++ stsTo S S.length)) := by
  obtain ⟨i0, hi, hz0, hz1, hz2⟩ := info_parts Tryz.infoB
  have hl := hT.len
  unfold Writes
  have HT := hide hT
  have HST : Hid (∀ i, 0 < i → i < S.length → stS S i = numS (parN S i) ++ [lastB S i] ++ numS (failN S i)) := hide fun i h0 h1 => stS_eq hT h0 h1
  have HLN := hide (stsTo_len (S := S) (by omega))
  have hl4 := numS_len4 S.length (by omega)
  have HL0 := hide (tlen_any bt be g ps S w hT)
  have HC0 := hide (wnumber_any B bw xs S.length w h hB (by omega) (by omega))
  have HPB : Hid (∀ i, 0 < i → i < S.length → parN S i < 10000 ∧ failN S i < 10000) := hide fun i h0 h1 => by
    unfold parN failN
    have a1 := List.idxOf_le_length (a := (at' S i).dropLast) (l := S)
    have a2 := List.idxOf_le_length (a := lsuf S (at' S i).tail) (l := S)
    omega
  clear h hT
  go_enter Tryz.func71, Tryz.ntmps71
  go_wp2_with (first | (go_at_call 46; refine (unhide HL0).mono ?_; rintro e w' ⟨rfl, hw'⟩; obtain rfl := hw'.symm) | (go_at_call 96; refine (unhide HC0).mono ?_; rintro e w0 ⟨rfl, H0, B0, K0⟩))
  go_loopw [4] (fun v wr => ∃ k : Nat, v = .int .i64 k ∧ 1 ≤ k ∧ k ≤ S.length ∧ Hid (Wr B wr bw (xs ++ (numS S.length ++ stsTo S k))) ∧ Hid (Below B w wr) ∧ Hid (Keep8 w wr)) (fun v _ => S.length - (intOf v).toNat)
  case atStart => exact ⟨1, rfl, Nat.le_refl _, hl.1, by rw [stsTo, stsTo, if_pos rfl, List.append_nil, List.append_nil]; exact H0, B0, K0⟩
  case round =>
    clear H0 B0 K0 HL0 HC0
    obtain ⟨k, rfl, hk1, hk, HW, HB, H8⟩ := hrel
    have hBr : B ≤ wr.heap.size := Nat.le_trans hB (unhide HB).size
    have hTr := (unhide HT).keep8 (unhide H8) (unhide HB).size
    have HL1 := hide (tlen_any bt be g ps S wr hTr)
    by_cases hkn : k < S.length
    · have HA := hide (tat_any bt be g ps S wr hTr k hk1 hkn)
      have hpb := unhide HPB k hk1 hkn
      have HNX : Hid (stsTo S (k + 1) = stsTo S k ++ (numS (parN S k) ++ [lastB S k] ++ numS (failN S k))) := hide (by rw [stsTo, if_neg (by omega), unhide HST k hk1 hkn])
      have hlk := unhide HLN k
      clear hTr
      generalize parN S k = p at *
      generalize lastB S k = c at *
      generalize failN S k = f at *
      have hlp := numS_len4 p (by omega)
      obtain ⟨zs, hzs⟩ : ∃ zs, zs = xs ++ (numS S.length ++ stsTo S k) := ⟨_, rfl⟩
      have hzl : zs.length < 200000000 := by rw [hzs]; simp only [List.length_append]; omega
      rw [← hzs] at HW
      have HZ := hide hzs
      clear hzs
      have HN1 : Hid (∀ W ob, Below wr.heap.size wr W → Calls Tryz.prog 96 #[.pointer (some ⟨bw, 0, none⟩), .int .i64 (p : Nat)] (W.alloc ob) (Writes B (W.alloc ob) bw zs (numS p))) := hide fun W ob hb => by
        have hb2 : Below W.heap.size W (W.alloc ob) := (Below.refl _ _).alloc (Nat.le_refl _) _
        have := hb.size
        exact wnumber_any B bw zs p (W.alloc ob) (((unhide HW).below hb).below hb2) (by simp; omega) (by omega) (by omega)
      go_wp2_with (first | (go_at_call 46; refine (unhide HL1).mono ?_; rintro e w' ⟨rfl, hw'⟩; obtain rfl := hw'.symm) | (go_at_call 86; refine (unhide HA).mono ?_; rintro e w1 ⟨rfl, hb1⟩; have HB1 := hide hb1; clear hb1) | (go_at_call 96; refine (unhide HN1 w1 _ (unhide HB1)).mono ?_; rintro e w2 ⟨rfl, H2, B2, K2⟩))
      obtain ⟨v, q1, q2⟩ := (unhide H2).ex
      have hge := (unhide H2).ge
      have hs1 := (unhide HB1).size
      have hB2 : B ≤ w2.heap.size := Nat.le_trans (by simp; omega) (unhide B2).size
      obtain ⟨m, hm⟩ : ∃ m, (zs ++ numS p).length = m := ⟨_, rfl⟩
      have hmb : m < 300000000 := by rw [← hm, List.length_append]; omega
      have hbx : w2.heap[w1.heap.size]? = some (.cells #[.int .i64 (p : Int), .int .u8 (c.toNat : Int), .int .i64 (f : Int)] 146 (0, 0)) := (unhide K2 _ _ _ (heap_alloc_new w1 _) (by decide) (by decide)).trans (heap_alloc_new w1 _)
      have c5 : w2.cell? ⟨w1.heap.size, 1, none⟩ = some (.int .u8 (c.toNat : Int)) := by rw [cell_of_blk hbx]; rfl
      have c1 : w2.cell? ⟨bw, 0, none⟩ = some v := cell_of_one q1
      have hbl : bw < w2.heap.size := (Array.getElem?_eq_some_iff.1 q1).1
      obtain ⟨gw, cw, hv⟩ : ∃ gw cw, v = .slice (some ⟨gw, 0, none⟩) m cw := by
        have h0 : 0 < (numS p).length := by
          by_cases hp : p < 128
          · rw [numS_small hp]; simp
          · rw [numS_big hp]; simp
        rcases owns_form q2 with ⟨_, e⟩ | ⟨gw, cw, e, _⟩
        · simp only [List.length_append] at e; omega
        · exact ⟨gw, cw, by rw [e, hm]⟩
      subst hv
      have HOWN : Hid ((w2.alloc (.cells #[.int .u8 (c.toNat : Int)] 5)).drew.ownsRow B 5 1 (.slice (some ⟨gw, 0, none⟩) m cw) m ((zs ++ numS p).map encB)) := hide (by have := q2.alloc (.cells #[.int .u8 (c.toNat : Int)] 5); rw [hm] at this; exact this)
      have HNEW : Hid (∀ j u, [Value.int .u8 (c.toNat : Int)][j]? = some u → (w2.alloc (.cells #[.int .u8 (c.toNat : Int)] 5)).drew.cell? ((⟨w2.heap.size, 0, none⟩ : Addr).add j) = some u) := hide (World.news_of_block (one_new (w := w2)))
      have HK : Hid (∀ w3 g' cap', w3.ownsRow B 5 1 (.slice (some ⟨g', 0, none⟩) (m + 1) cap') (m + 1) ((zs ++ numS p).map encB ++ [.int .u8 (c.toNat : Int)]) → (w2.alloc (.cells #[.int .u8 (c.toNat : Int)] 5)).drew.grownBy w3 (some gw) → (some gw = some g' ∨ g' = w2.heap.size + 1) → Wr B (w3.setCell ⟨bw, 0, none⟩ (.slice (some ⟨g', 0, none⟩) (m + 1) cap')) bw ((zs ++ numS p) ++ [c]) ∧ Below B w2 (w3.setCell ⟨bw, 0, none⟩ (.slice (some ⟨g', 0, none⟩) (m + 1) cap')) ∧ w3.cell? ⟨bw, 0, none⟩ = some (.slice (some ⟨gw, 0, none⟩) m cw) ∧ w3.frozen? ⟨bw, 0, none⟩ = false ∧ Keep8 w2 (w3.setCell ⟨bw, 0, none⟩ (.slice (some ⟨g', 0, none⟩) (m + 1) cap'))) := hide (by
        intro w3 g' cap' h1 h2 h3
        subst hm
        exact Wr.moreD (ys := [c]) hB2 q1 q2 hge h1 h2 h3)
      have HBX := hide hbx
      have HFN : Hid (∀ W, Wr B W bw ((zs ++ numS p) ++ [c]) → B ≤ W.heap.size → Calls Tryz.prog 96 #[.pointer (some ⟨bw, 0, none⟩), .int .i64 (f : Nat)] W (Writes B W bw ((zs ++ numS p) ++ [c]) (numS f))) := hide fun W h1 h2 => wnumber_any B bw _ f W h1 h2 (by omega) (by simp only [List.length_append, List.length_singleton]; omega)
      have HC2 : Hid (∀ W : World, Keep8 w2 W → W.cell? ⟨w1.heap.size, 2, none⟩ = some (.int .i64 (f : Int))) := hide fun W hk => by
        have := (hk _ _ _ hbx (by decide) (by decide)).trans hbx
        rw [cell_of_blk this]; rfl
      clear q1 q2 hm hbx
      go_region_law (refine step_append_lies _ rfl (.tmp 27) (.tmp 30) 57 rfl B 5 i0 _ 1 1 Tryz.underlying57 hi hz0 hz1 hz2 rfl (by decide) _ m ((zs ++ numS p).map encB) (by simp [Act.eval]) (unhide HOWN) ⟨w2.heap.size, 0, none⟩ 1 1 [.int .u8 (c.toNat : Int)] (by simp [Act.eval]) rfl (unhide HNEW) (by intro u hu; simp at hu; subst hu; rfl) (by omega) (by unfold maxLen; omega) (by omega) (by simp; omega) _ rfl ?_; intro g' cap' w3 hown' hgrow hat hlt'; obtain ⟨k1, k2, k3, k4, k5⟩ := unhide HK w3 g' cap' hown' hgrow (by simpa [Value.ownBlock] using hat); have HK1 := hide k1; have HK2 := hide k2; have c6 := unhide HC2 _ k5; have HK5 := hide k5; clear hown' hgrow hat k1 k2 k5)
      all_goals go_wp2_with (go_at_call 96; refine (unhide HFN _ (unhide HK1) (Nat.le_trans hB2 (unhide HK2).size)).mono ?_; rintro e w4 ⟨rfl, H4, B4, K4⟩)
      all_goals go_roundw
      all_goals try case measure => simp [intOf]; omega
      all_goals
        case rel =>
          have e1 : Below B wr w2 := ((unhide HB1).mono hBr).trans (((Below.refl _ _).alloc (Nat.le_trans hBr hs1) _).trans (unhide B2))
          have e2 : Keep8 wr w2 := (Keep8.below (unhide HB1)).trans ((Keep8.below ((Below.refl _ _).alloc (Nat.le_refl _) _)).trans (unhide K2))
          exact ⟨k + 1, by go_num, by omega, by omega, hide (by have := unhide H4; rw [unhide HNX]; rw [unhide HZ] at this; simp only [List.append_assoc] at this ⊢; exact this), hide ((unhide HB).trans (e1.trans ((unhide HK2).trans (unhide B4)))), hide ((unhide H8).trans (e2.trans ((unhide HK5).trans (unhide K4))))⟩
    · obtain rfl : k = S.length := by omega
      go_wp2_with (go_at_call 46; refine (unhide HL1).mono ?_; rintro e w' ⟨rfl, hw'⟩; obtain rfl := hw'.symm)
      go_end0
      exact ⟨rfl, HW, HB, H8⟩
end Go.Proofs.YthbbhpbkoankhaaGreat

namespace Go.Proofs.YthbbhpbkoankhaaGreat
open Go.RowKit Scour Go.Lib

/-- Behind an append that gives any row, and the store. -/
theorem Wr.moreV {B : Nat} {w w1 : World} {bw : Nat} {xs ys : Str} {v v' : Value} (hB : B ≤ w.heap.size) (hbw : w.heap[bw]? = some (.cells #[v] 149 (0, 0))) (hr : w.ownsRow B 5 1 v xs.length (xs.map encB)) (hge : B ≤ bw)
    (ho : w1.ownsRow B 5 1 v' (xs.length + ys.length) (xs.map encB ++ ys.map encB)) (hg : w.grownBy w1 v.ownBlock) :
    Wr B (w1.setCell ⟨bw, 0, none⟩ v') bw (xs ++ ys) ∧ Below B w (w1.setCell ⟨bw, 0, none⟩ v') ∧ w1.cell? ⟨bw, 0, none⟩ = some v ∧ w1.frozen? ⟨bw, 0, none⟩ = false ∧ Keep8 w (w1.setCell ⟨bw, 0, none⟩ v') := by
  have hl := (Array.getElem?_eq_some_iff.1 hbw).1
  have hne : v.ownBlock ≠ some bw := fun e => by
    obtain ⟨cu, hcu⟩ := owns_block hr e
    exact two_types hcu hbw (by decide) rfl
  have hb1 : w1.heap[bw]? = some (.cells #[v] 149 (0, 0)) := by
    rw [hg.block bw hl (fun e => hne e.symm)]; exact hbw
  have hba : Below B w w1 := below_of_grown hg hB (own_lt hr)
  refine ⟨⟨⟨_, one_setCell hb1, ?_⟩, hge⟩, hba.trans ?_, cell_of_one hb1, free_of_one hb1, ?_⟩
  · rw [List.map_append, List.length_append]
    refine owns_kept ho (fun b _ hv => ?_)
    obtain ⟨cu, hcu⟩ := owns_block ho hv
    exact Below.heap_setCell w1 ⟨bw, 0, none⟩ _ b (two_types hcu hb1 (by decide))
  · have hs := hba.size
    exact (Mod.setCell w1 bw 0 _).below (by omega) (fun k e => by rw [e]; exact hge)
  · intro k cur e hk h1 h2
    have hkl := (Array.getElem?_eq_some_iff.1 hk).1
    rw [Below.heap_setCell w1 ⟨bw, 0, none⟩ _ k (two_types hk hbw h2), hg.block k hkl (fun e1 => ?_)]
    obtain ⟨cu, hcu⟩ := owns_block hr e1.symm
    exact two_types hk hcu h1 rfl

theorem numS_pos (n : Nat) : 0 < (numS n).length := by
  by_cases hp : n < 128
  · rw [numS_small hp]; simp
  · rw [numS_big hp]; simp
theorem owns_some {w : World} {base e s n : Nat} {v : Value} {xs : List Value} (h : w.ownsRow base e s v n xs) (hn : 0 < n) : ∃ g cap, v = .slice (some ⟨g, 0, none⟩) n cap := by
  rcases owns_form h with ⟨_, h0⟩ | ⟨g, cap, e, _⟩
  · omega
  · exact ⟨g, cap, e⟩

set_option maxHeartbeats 8000000 in
set_option maxRecDepth 100000 in
theorem wclasses_any (B bw : Nat) (xs c : Str) (vC : Value) (w : World) (h : Wr B w bw xs) (hB : B ≤ w.heap.size) (hC : w.ownsRow 0 5 1 vC c.length (c.map encB)) (hCB : ∀ b, vC.ownBlock = some b → b < B) (hc : c.length ≤ 256) (hx : xs.length < 100000000) :
    Calls Tryz.prog 70 #[.pointer (some ⟨bw, 0, none⟩), vC] w (Writes B w bw xs (numS c.length ++ c)) := by
  obtain ⟨i0, hi, hz0, hz1, hz2⟩ := info_parts Tryz.infoB
  obtain ⟨aC, cC, hvC⟩ : ∃ aC cC, vC = .slice aC c.length cC := by
    rcases owns_form hC with ⟨h1, h2⟩ | ⟨g, cc, h1, _⟩
    · exact ⟨none, 0, by rw [h1, h2]⟩
    · exact ⟨_, cc, h1⟩
  subst hvC
  unfold Writes
  have hl4 := numS_len4 c.length (by omega)
  have HC0 := hide (wnumber_any B bw xs c.length w h hB (by omega) (by omega))
  have HNL : Hid (aC = none → cC = 0 ∧ c.map encB = []) := hide fun e => by
    rcases owns_form hC with ⟨h1, h2⟩ | ⟨g, cc, h1, _⟩
    · simp only [Value.slice.injEq] at h1
      exact ⟨h1.2.2, by rw [List.length_eq_zero_iff.1 h2]; rfl⟩
    · subst e; simp at h1
  have HSR : Hid (∀ w0, Below B w w0 → ∀ ad, aC = some ad → ∀ j u, (c.map encB)[j]? = some u → w0.cell? (ad.add j) = some u) := hide fun w0 hb ad ha j u hu => by
    have hC0 : w0.ownsRow 0 5 1 (.slice aC c.length cC) c.length (c.map encB) := owns_kept hC (fun b _ hv => hb.block b (hCB b hv))
    rcases owns_form hC0 with ⟨h1, h2⟩ | ⟨g, cc, h1, _⟩
    · simp only [Value.slice.injEq] at h1; rw [h1.1] at ha; cases ha
    · simp only [Value.slice.injEq] at h1
      rw [h1.1] at ha hC0
      obtain rfl := Option.some.inj ha
      have hj : j < c.length := by
        have := (List.getElem?_eq_some_iff.1 hu).1
        simpa using this
      have := hC0.cellAt j (by omega)
      rw [hu] at this
      have e3 : (⟨g, 0, none⟩ : Addr).add j = ⟨g, j, none⟩ := by
        unfold Addr.add
        split
        · rename_i e0; simp_all
        · simp
      rw [e3]; exact this
  have hcl : (c.map encB).length = c.length := by simp
  have hoc : ∀ u ∈ c.map encB, u.oneCell' = true := fun u hu => by
    obtain ⟨x, _, rfl⟩ := List.mem_map.1 hu; rfl
  have HOC := hide hoc
  clear h hC hCB hoc
  go_enter Tryz.func70, Tryz.ntmps70
  have HK : Hid (∀ (w0 w1 : World) (v v' : Value), Hid (Below B w w0) → w0.heap[bw]? = some (.cells #[v] 149 (0, 0)) → w0.ownsRow B 5 1 v (xs ++ numS c.length).length ((xs ++ numS c.length).map encB) → B ≤ bw → w1.ownsRow B 5 1 v' ((xs ++ numS c.length).length + c.length) ((xs ++ numS c.length).map encB ++ c.map encB) → w0.grownBy w1 v.ownBlock → Wr B (w1.setCell ⟨bw, 0, none⟩ v') bw (xs ++ (numS c.length ++ c)) ∧ Below B w0 (w1.setCell ⟨bw, 0, none⟩ v') ∧ w1.cell? ⟨bw, 0, none⟩ = some v ∧ w1.frozen? ⟨bw, 0, none⟩ = false ∧ Keep8 w0 (w1.setCell ⟨bw, 0, none⟩ v')) := hide fun w0 w1 v v' hb h1 h2 h3 h4 h5 => by
    have := Wr.moreV (Nat.le_trans hB (unhide hb).size) h1 h2 h3 h4 h5
    rw [List.append_assoc] at this
    exact this
  have hlz : (xs ++ numS c.length).length < 200000000 := by rw [List.length_append]; omega
  have hpos : 0 < (xs ++ numS c.length).length := by
    have := numS_pos c.length
    rw [List.length_append]; omega
  obtain ⟨zs, hzs⟩ : ∃ zs, zs = xs ++ numS c.length := ⟨_, rfl⟩
  rw [← hzs] at HK hlz hpos
  have HZ := hide hzs
  clear hzs
  generalize hcm : c.map encB = cm at *
  clear hcm
  go_wp2_with (first | (go_at_call 96; refine (unhide HC0).mono ?_; rintro e w0 ⟨rfl, H0, B0, K0⟩; rw [← unhide HZ] at H0; obtain ⟨v, q1, q2⟩ := (unhide H0).ex; have c1 : w0.cell? ⟨bw, 0, none⟩ = some v := cell_of_one q1; have hbl : bw < w0.heap.size := (Array.getElem?_eq_some_iff.1 q1).1; have HQ1 := hide q1; have HQ2 := hide q2; clear q1 q2) | (at_builtin; go_loud (refine wpList_append_either rfl (.tmp 12) (.tmp 13) 57 rfl B 5 i0 _ 1 1 Tryz.underlying57 hi hz0 hz1 hz2 rfl (by decide) v zs.length (zs.map encB) rfl (unhide HQ2) aC c.length cC cm rfl (unhide HNL) (by omega) (unhide HSR w0 (unhide B0)) (unhide HOC) (by unfold maxLen; omega) (by omega) (Nat.le_trans hB (unhide B0).size) ?_); intro v' w1 ho hg; obtain ⟨g', cap', rfl⟩ := owns_some ho (by omega); obtain ⟨k1, k2, k3, k4, k5⟩ := unhide HK w0 w1 v _ B0 (unhide HQ1) (unhide HQ2) (unhide H0).ge ho hg; have HK1 := hide k1; have HK2 := hide k2; have HK5 := hide k5; clear ho hg k1 k2 k5))
  go_end0
  exact ⟨rfl, HK1, hide ((unhide B0).trans (unhide HK2)), hide ((unhide K0).trans (unhide HK5))⟩
end Go.Proofs.YthbbhpbkoankhaaGreat
