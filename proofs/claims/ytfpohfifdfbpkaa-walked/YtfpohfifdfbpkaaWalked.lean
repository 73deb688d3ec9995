import Derived.Test.YtfpohfifdfbpkaaKeep
import Derived.Test.YtfpohfifdfbpkaaKeepWalk
namespace Go.Proofs.Ytfpohfifdfbpkaa
open Go.RowKit Scour

/-- What the law reads again and again, in every later world: the machine, the patterns handed in and those that came out. -/
structure Later (W : World) (bm bt be : Nat) (g : List Nat) (bp op b0 : Nat) (gs cs : Nat → Nat) (ps S : List Str) : Prop where
  mach : Mach W bm bt be g ps S
  ins : ∀ i, i < ps.length → ∃ b o c, W.cell? ⟨bp, op + i, none⟩ = some (.slice (some ⟨b, o, none⟩) (pat ps i).length c) ∧ ∀ q, (convert 28 9 (.slice (some ⟨b, o, none⟩) (pat ps i).length c)).run Try.prog (W.drewN q) = .ok (.string (txt ps i)) (W.drewN q)
  outs : ∀ i, i < ps.length → W.cell? ⟨b0, i, none⟩ = some (.slice (some ⟨gs i, 0, none⟩) (pat ps i).length (cs i)) ∧ ∀ q, (convert 28 9 (.slice (some ⟨gs i, 0, none⟩) (pat ps i).length (cs i))).run Try.prog (W.drewN q) = .ok (.string (txt ps i)) (W.drewN q)

theorem later {w2 w3 W : World} {B bm bt be : Nat} {g : List Nat} {bp op b0 : Nat} {gs cs : Nat → Nat} {ps S : List Str} (hM : Mach w2 bm bt be g ps S) (hP : PatsIn w2 B (some ⟨bp, op, none⟩) ps) (hBB : B ≤ w2.heap.size) (hpl : ∀ i, i < ps.length → 0 < (pat ps i).length)
    (hb3 : Below w2.heap.size w2 w3) (hO : Outs w3 w2.heap.size b0 gs cs ps ps.length) (hW : Below w3.heap.size w3 W) : Later W bm bt be g bp op b0 gs cs ps S := by
  have hb : Below w2.heap.size w2 W := hb3.trans (hW.mono hb3.size)
  refine ⟨hM.below hb, ?_, ?_⟩
  · intro i hi
    obtain ⟨bp', op', _, e, hpat⟩ := hP.below hb hBB (by omega)
    simp only [Option.some.injEq, Addr.mk.injEq, and_true] at e
    obtain ⟨rfl, rfl⟩ := e
    obtain ⟨ao, c, h1, h2⟩ := hpat i hi
    obtain ⟨b, o, _, rfl, h3⟩ := h2 (hpl i hi)
    exact ⟨b, o, c, h1, fun q => conv_back h3⟩
  · intro i hi
    have hr := hO.row.kept (grown_of_below hW none) (by simp [Value.ownBlock])
    have he := (hO.each i hi).kept (grown_of_below hW none) (by simp [Value.ownBlock])
    refine ⟨by rw [hr.cellAt i (by omega), outsF_get _ _ _ _ _ hi, if_pos hi], fun q => conv_back (fun j hj => ?_)⟩
    rw [Nat.zero_add]
    show W.cell? ⟨gs i, j, none⟩ = _
    rw [he.cellAt j (by omega)]
    simp [encB, List.getD, hj]

set_option maxHeartbeats 4000000 in
set_option maxRecDepth 100000 in
theorem walked_any (ap : Option Addr) (len cap : Nat) (ss : List ByteArray) (raw : Int) (text : ByteArray) (w : World) (hS : StrsIn w w.heap.size ap len ss) (hl : len ≤ ss.length) (hlen : len ≤ maxLen) (hsz : ∀ i, i < len → (ss.getD i .empty).size ≤ maxLen)
    (hraw : -9223372036854775808 ≤ raw ∧ raw ≤ 9223372036854775807) (htx : text.size ≤ maxLen) :
    Calls Try.prog 3 #[.slice ap len cap, .int .i64 raw, .string text] w fun e w' => e = .returned (.bool true) ∧ Below w.heap.size w w' := by
  have HKP := hide (keepPats_any ap len cap ss w hS hl hlen hsz)
  have hchk := keepP_chk ss len
  have hp16 := keepP_le ss len
  have hpl : ∀ i, i < (keepP ss len).length → 0 < (pat (keepP ss len) i).length ∧ (pat (keepP ss len) i).length ≤ 32 := fun i hi => keepP_pat hi
  generalize keepP ss len = ps at HKP hchk hp16 hpl
  have HCH := hide hchk
  have HPL := hide hpl
  have HRAW := hide hraw
  have HTX := hide htx
  clear hS hl hlen hsz hchk hpl hraw
  unfold maxLen at htx
  go_enter Try.func3, Try.ntmps3
  go_wp2_with (first | (go_at_call 4; refine (unhide HKP).mono ?_; rintro e w1 ⟨ap1, cap1, rfl, hP1, hb1⟩; have HP1 := hide hP1; have HB1 := hide hb1; clear hP1 hb1) | (go_at_call 5; refine (made_any _ _ ps _ (unhide HP1) (unhide HCH)).mono ?_; rintro e w2 ⟨bm, bt, be, g, S, rfl, hM, hz, hb2⟩; have HM := hide hM; have HZ := hide hz; have HB2 := hide hb2; clear hM hz hb2) | (go_at_call 6; refine (states_any _ _ _ _ ps S _ (unhide HM)).mono ?_; rintro e w' ⟨rfl, hw⟩; have hw' := hw.symm; clear hw; subst hw'))
  have hP2 := (unhide HP1).below (unhide HB2) (Nat.le_refl _)
  have HP2 := hide hP2
  have hml := mostK_le (fun i hi => (unhide HPL i hi).2)
  have HML := hide hml
  clear hP2 hml
  go_loop [10, 11] (fun v10 v11 => ∃ k : Nat, v10 = .int .i64 (mostK ps k) ∧ v11 = .int .i64 k ∧ k ≤ ps.length) (fun _ v11 => ps.length - (intOf v11).toNat)
  case atStart => exact ⟨0, rfl, rfl, Nat.zero_le _⟩
  case round =>
    obtain ⟨k, rfl, rfl, hk⟩ := hrel
    by_cases hlt : k < ps.length
    · obtain ⟨bp, op, hbp, rfl, hpat⟩ := unhide HP2 (by omega)
      obtain ⟨ao, c, h4, _⟩ := hpat k hlt
      have i1 : (k : Int) < (ps.length : Int) := by omega
      have hmk := unhide HML k (by omega)
      have hpk := (unhide HPL k hlt).2
      have HMS := hide (show ((mostK ps (k + 1) : Nat) : Int) = (mostK ps k : Int) + ((pat ps k).length : Int) by rw [mostK]; omega)
      clear hpat
      go_wp2
      go_round
      case rel => exact ⟨k + 1, by rw [unhide HMS], by go_num, hlt⟩
      case measure => simp [intOf]; omega
    · obtain rfl : k = ps.length := by omega
      obtain ⟨_, capT, par, lst, E, hT, hSO, _⟩ := (unhide HM).ex
      have hR := hT.rep
      have hn1 := hR.pos
      have hn2 := states_le hSO hR
      have hn3 := hSO.len
      have hmk := unhide HML ps.length (Nat.le_refl _)
      have HR := hide hR
      have HSO := hide hSO
      clear hT hR hSO
      generalize mostK ps ps.length = most at hn2 hmk ⊢
      have j1 : decide ((S.length : Int) < 1) = false := by simp; omega
      have j2 : ¬ (most : Int) < (S.length : Int) := by omega
      go_wp2_with fail
      refine (mnext_high bm bt be g ps S w2 (unhide HM) S.length 97 (Int.le_refl _)).mono ?_
      rintro e w' ⟨rfl, hw⟩
      have hw' := hw.symm
      clear hw
      subst hw'
      go_wp2_with fail
      refine (mnext_low 97 _ (-1) w2 (by decide)).mono ?_
      rintro e w' ⟨rfl, hw⟩
      have hw' := hw.symm
      clear hw
      subst hw'
      go_wp2_with fail
      refine (patterns_any bm bt be g ps S w2 (unhide HM) (by omega) (fun i hi => by have := unhide HPL i hi; omega)).mono ?_
      rintro e w3 ⟨b0, gs, cs, rfl, hO, hb3⟩
      have HO := hide hO
      have HB3 := hide hb3
      clear hO hb3
      go_wp2_with fail
      have HLA : Hid (∀ bp op, ap1 = some ⟨bp, op, none⟩ → ∀ W, Below w3.heap.size w3 W → Later W bm bt be g bp op b0 gs cs ps S) := hide (fun bp op e W hW => later (unhide HM) (e ▸ unhide HP2) (unhide HB2).size (fun i hi => (unhide HPL i hi).1) (unhide HB3) (unhide HO) hW)
      obtain ⟨i0, hi, hz0, hz1, hz2⟩ := info_parts Try.infoI
      go_loopw [17, 18] (fun v17 v18 wr => ∃ k : Nat, v18 = .int .i64 k ∧ k ≤ ps.length ∧ Hid (wr.ownsRow w3.heap.size 3 1 v17 k (intsF (fun i => (S.idxOf (pat ps i) : Nat)) k)) ∧ Hid (Below w3.heap.size w3 wr)) (fun _ v18 _ => ps.length - (intOf v18).toNat)
      case atStart => exact ⟨0, rfl, Nat.zero_le _, hide (World.ownsRow_nil _ _ _ _), hide (Below.refl _ _)⟩
      case round =>
        obtain ⟨k, rfl, hk, HOW, HBW⟩ := hrel
        by_cases hlt : k < ps.length
        · obtain ⟨bp, op, hbp, rfl, _⟩ := unhide HP2 (by omega)
          have hL := unhide HLA bp op rfl wr (unhide HBW)
          obtain ⟨b, o, c, c1, v1⟩ := hL.ins k hlt
          obtain ⟨c2, v2⟩ := hL.outs k hlt
          have hmem := pat_mem (unhide HSO) hlt (unhide HPL k hlt).1
          have hidx := idx_pos (unhide HR) hmem (unhide HPL k hlt).1
          have hidl := List.idxOf_lt_length_of_mem hmem
          have hwk := walk_any bm bt be g ps S wr hL.mach 0 hn1 (txt ps k) (by unfold maxLen txt; have := (unhide HPL k hlt).2; simp [ByteArray.size]; omega)
          have e1 : walkN S 0 (txt ps k).data.toList = S.idxOf (pat ps k) := by unfold txt; exact walk_to (unhide HR) hmem
          rw [e1] at hwk
          have HWK := hide hwk
          have i1 : (k : Int) < (ps.length : Int) := by omega
          have v10 := v1 0
          simp only [World.drewN_zero] at v10
          have hszw := (unhide HBW).size
          have HV1 := hide v1
          have HV2 := hide v2
          have HC1 := hide c1
          have HC2 := hide c2
          have HMEM := hide hmem
          clear hL v1 v2 hwk e1 hmem c2
          generalize hs : S.idxOf (pat ps k) = s at hidx hidl HWK
          have HSX := hide hs
          clear hs
          go_wp2_with fail
          refine (unhide HWK).mono ?_
          rintro e w4 ⟨rfl, hb4⟩
          have HB4 := hide hb4
          have hL4 := unhide HLA bp op rfl w4 ((unhide HBW).trans (hb4.mono hszw))
          obtain ⟨b4, o4, c4, d1, x1⟩ := hL4.ins k hlt
          obtain ⟨d2, x2⟩ := hL4.outs k hlt
          have q1 : decide ((s : Int) < 1) = false := by simp; omega
          have q2 : decide ((S.length : Int) ≤ (s : Int)) = false := by simp; omega
          clear hb4 v10 c1 hL4
          generalize txt ps k = tk at x1 x2
          go_wp2_with fail
          go_quiet (fail)
          have hb5 : Below w4.heap.size w4 (w4.drewN nq) := below_drewN (Below.refl _ _) _
          have hb5' : Below w3.heap.size w3 (w4.drewN nq) := (unhide HBW).trans (((unhide HB4).mono hszw).trans (hb5.mono (by have := (unhide HB4).size; omega)))
          have ho5 : (w4.drewN nq).ownsRow w3.heap.size 3 1 u17 k (intsF (fun i => (S.idxOf (pat ps i) : Nat)) k) := ((unhide HOW).kept (grown_of_below (unhide HB4) none) (by cases u17.ownBlock <;> simp)).kept (grown_of_below hb5 none) (by cases u17.ownBlock <;> simp)
          clear d1 d2 x1 x2 hb5
          generalize w4.drewN nq = w5 at hb5' ho5 ⊢
          have HB5 := hide hb5'
          have hs5 := hb5'.size
          have HOa := hide (ho5.alloc (.cells #[.int .i64 s] 3))
          have HKN : Hid (∀ (w6 : World) (g' cap' : Nat), w6.ownsRow w3.heap.size 3 1 (.slice (some ⟨g', 0, none⟩) (k + 1) cap') (k + 1) (intsF (fun i => (S.idxOf (pat ps i) : Nat)) k ++ [.int .i64 s]) → (w5.alloc (.cells #[.int .i64 s] 3)).grownBy w6 u17.ownBlock → w6.ownsRow w3.heap.size 3 1 (.slice (some ⟨g', 0, none⟩) (k + 1) cap') (k + 1) (intsF (fun i => (S.idxOf (pat ps i) : Nat)) (k + 1)) ∧ Below w3.heap.size w3 w6) := hide (by
            intro w6 g' cap' ho hg
            refine ⟨?_, ((unhide HB5).alloc hs5 _).trans (below_of_grown hg (by simp; omega) (own_lt (unhide HOW)))⟩
            have : intsF (fun i => (S.idxOf (pat ps i) : Nat)) (k + 1) = intsF (fun i => (S.idxOf (pat ps i) : Nat)) k ++ [.int .i64 s] := by unfold intsF; rw [List.range_succ, List.map_append]; simp [unhide HSX]
            rw [this]; exact ho)
          clear hb5' ho5
          go_wp2_with (first | (at_builtin; refine wpList_append_lies _ rfl (.tmp 120) (.tmp 122) 33 rfl w3.heap.size 3 i0 (.int .i64 0) 1 8 Try.underlying33 hi hz0 hz1 hz2 rfl (by decide) _ k _ rfl (unhide HOa) ⟨w5.heap.size, 0, none⟩ 1 1 [.int .i64 s] rfl rfl (cell_one_new _ _ _) (by intro u hu; simp at hu; subst hu; rfl) (by omega) (by unfold maxLen; omega) (by omega) (by simp; omega) _ rfl ?_; intro g' cap' w6 hown' hgrow hat hlt'; obtain ⟨k1, k2⟩ := unhide HKN w6 g' cap' hown' hgrow; have HK1 := hide k1; have HK2 := hide k2; clear hown' hgrow hat k1 k2))
          have hs6 := (unhide HK2).size
          go_loopw [21] (fun v wz => ∃ j : Nat, v = .int .i64 j ∧ j ≤ k ∧ Hid (Below w6.heap.size w6 wz)) (fun v _ => k - (intOf v).toNat)
          case atStart => exact ⟨0, rfl, Nat.zero_le _, hide (Below.refl _ _)⟩
          case round =>
            rename World => wz
            obtain ⟨j, rfl, hj, HZ⟩ := hrel
            have hb7 : Below w3.heap.size w3 wz := (unhide HK2).trans ((unhide HZ).mono hs6)
            by_cases hjk : j < k
            · have hL7 := unhide HLA bp op rfl wz hb7
              obtain ⟨b7, o7, c7, d1, x1⟩ := hL7.ins j (by omega)
              obtain ⟨b8, o8, c8, d2, x2⟩ := hL7.ins k hlt
              have he : wz.cell? ⟨g', j, none⟩ = some (.int .i64 (S.idxOf (pat ps j) : Nat)) := by
                rw [((unhide HK1).kept (grown_of_below (unhide HZ) none) (by simp [Value.ownBlock])).cellAt j (by omega), intsF_get _ _ _ (by omega)]
              have hmj := pat_mem (unhide HSO) (i := j) (by omega) (unhide HPL j (by omega)).1
              have hii := idx_inj hmj (unhide HMEM)
              rw [unhide HSX] at hii
              have htt := txt_same (ps := ps) (i := j) (j := k)
              have j1' : (j : Int) < ((k : Int) + 1) := by omega
              have j2' : (j : Int) < (ps.length : Int) := by omega
              have j3' : (0 : Int) ≤ (j : Int) := by omega
              have j4' : (j : Int) < (k : Int) := by omega
              generalize S.idxOf (pat ps j) = sj at he hii
              clear hL7 hmj
              by_cases e : pat ps j = pat ps k
              · have hsj := hii.2 e
                have y1 : ((sj : Int) == (s : Int)) = true := by simp [hsj]
                have y2 : ((txt ps j).toList == (txt ps k).toList) = true := by rw [htt]; simp [e]
                have HE := hide e
                clear hii htt hsj e
                generalize txt ps j = tj at x1 y2
                generalize txt ps k = tk2 at x2 y2
                go_wp2_with fail
                go_quiet (fail)
                go_wp2_with fail
                go_roundw
                case rel => exact ⟨j + 1, by go_num, hjk, hide (below_drewN (unhide HZ) _)⟩
                case measure => simp [intOf]; omega
              · have hsj : ¬ sj = s := fun h => e (hii.1 h)
                have y1 : ((sj : Int) == (s : Int)) = false := by simp; omega
                have y2 : ((txt ps j).toList == (txt ps k).toList) = false := by rw [htt]; simp [e]
                clear hii htt hsj e
                generalize txt ps j = tj at x1 y2
                generalize txt ps k = tk2 at x2 y2
                go_wp2_with fail
                go_quiet (fail)
                go_wp2_with fail
                go_roundw
                case rel => exact ⟨j + 1, by go_num, hjk, hide (below_drewN (unhide HZ) _)⟩
                case measure => simp [intOf]; omega
            · have HK3 := hide ((unhide HK1).kept (grown_of_below (unhide HZ) none) (by simp [Value.ownBlock]))
              have HB7 := hide hb7
              clear hb7
              go_wp2_with fail
              go_roundw
              case rel => exact ⟨k + 1, by go_num, hlt, HK3, HB7⟩
              case measure => simp [intOf]; omega
        · have hMr : Mach wr bm bt be g ps S := (unhide HM).below ((unhide HB3).trans ((unhide HBW).mono (unhide HB3).size))
          have hpk := pickI_lt raw S.length (by omega)
          obtain ⟨r, hr⟩ : ∃ r : Nat, pickI raw S.length = (r : Int) := ⟨(pickI raw S.length).toNat, by omega⟩
          have hrl : r < S.length := by omega
          have hp := pick_any raw S.length wr (by omega) (by omega) (unhide HRAW)
          rw [hr] at hp
          have HPK := hide hp
          have HW1 := hide (walk_any bm bt be g ps S wr hMr r hrl text (unhide HTX))
          have HW2 : Hid (∀ w8, Below wr.heap.size wr w8 → Calls Try.prog 9 #[.pointer (some ⟨bm, 0, none⟩), .int .i64 0, .string text] w8 fun e w' => e = .returned (.tuple #[.int .i64 (walkN S 0 text.data.toList), .bool true]) ∧ Below w8.heap.size w8 w') := hide (fun w8 h8 => walk_any bm bt be g ps S w8 (hMr.below h8) 0 hn1 text (unhide HTX))
          have hx := walkN_lt hMr.next_lt hrl text.data.toList
          have hy := walkN_lt hMr.next_lt hn1 text.data.toList
          have hxy : 32 ≤ text.size → walkN S r text.data.toList = walkN S 0 text.data.toList := fun h => walk_same (unhide HR) r hrl _ (fun y hy => by
            have := states_short (unhide HSO) (m := 32) (fun i hi => (unhide HPL i hi).2) y hy
            rw [← size_list]; omega)
          generalize walkN S r text.data.toList = x at HW1 hx hxy
          generalize walkN S 0 text.data.toList = y at HW2 hy hxy
          have HXY := hide hxy
          have hszr := (unhide HBW).size
          have q1 : decide ((x : Int) < 0) = false := by simp
          have q2 : decide ((S.length : Int) ≤ (x : Int)) = false := by simp; omega
          have q3 : decide ((y : Int) < 0) = false := by simp
          have q4 : decide ((S.length : Int) ≤ (y : Int)) = false := by simp; omega
          clear hMr hpk hp hxy hr
          go_wp2_with fail
          refine (unhide HPK).mono ?_
          rintro e w' ⟨rfl, hw⟩
          have hw' := hw.symm
          clear hw
          subst hw'
          go_wp2_with fail
          refine (unhide HW1).mono ?_
          rintro e w8 ⟨rfl, hb8⟩
          have HB8 := hide hb8
          clear hb8
          go_wp2_with fail
          refine (unhide HW2 _ (unhide HB8)).mono ?_
          rintro e w9 ⟨rfl, hb9⟩
          have HB9 := hide hb9
          clear hb9
          have hbel : Below w.heap.size w w9 := by
            have s1 := (unhide HB1).size
            have s2 := (unhide HB2).size
            have s3 := (unhide HB3).size
            have s8 := (unhide HB8).size
            exact (unhide HB1).trans (((unhide HB2).mono s1).trans (((unhide HB3).mono (by omega)).trans (((unhide HBW).mono (by omega)).trans (((unhide HB8).mono (by omega)).trans ((unhide HB9).mono (by omega))))))
          have HBEL := hide hbel
          clear hbel
          by_cases h32 : text.size < 32
          · have z1 : decide ((text.size : Int) < 32) = true := by simp; omega
            go_wp2_with fail
            go_ret
            exact ⟨rfl, unhide HBEL⟩
          · have z1 : decide ((text.size : Int) < 32) = false := by simp; omega
            have z2 := unhide HXY (by omega)
            subst z2
            go_wp2_with fail
            go_ret
            exact ⟨rfl, unhide HBEL⟩
end Go.Proofs.Ytfpohfifdfbpkaa
