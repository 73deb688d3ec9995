import Derived.Test.YtfpohfifdfbpkaaGreatDoorPacks
import Derived.Test.YtfpohfifdfbpkaaGreatDoorNum
namespace Go.Proofs.YtfpohfifdfbpkaaGreatDoor
open Go.RowKit Scour Go.Lib
end Go.Proofs.YtfpohfifdfbpkaaGreatDoor
namespace Go.Proofs.YtfpohfifdfbpkaaGreatDoor
open Go.RowKit Scour Go.Lib
theorem zy (x y : Str) : (⟨x.toArray⟩ : ByteArray) ++ (⟨y.toArray⟩ : ByteArray) = ⟨(x ++ y).toArray⟩ := by
 apply ByteArray.ext
 simp
set_option maxHeartbeats 8000000 in
set_option maxRecDepth 100000 in
theorem save_any (br gS cS : Nat) (vL : Value) (ps S : List Str) (w : World) (hM : yZ w br vL gS cS ps S) (hsh : ∀ k, k < S.length -> (at' S k).length < 1000) (hps : ps.length <= 64) (hpl : ∀ i, i < ps.length -> (pat ps i).length <= 64) (hin : ∀ i, i < ps.length -> pat ps i ∈ S) :
  Calls Tryz.prog 95 #[.pointer (some ⟨br, 0, none⟩)] w fun e w' => e = .returned (.string ⟨(zS ps S).toArray⟩) /\ Below w.heap.size w w' := by
 have hSl := hM.len
 have hpos := hM.pos
 have lbr := (Array.getElem?_eq_some_iff.1 hM.blk).1
 have HNU : Hid (∀ (W : World) (x : Int), 0 <= x -> x < 268435456 -> Calls Tryz.prog 129 #[.int .i64 x] W fun e w' => ∃ t : ByteArray, e = .returned (.string t) /\ t.size <= 4 /\ Hid (t = ⟨(zN x.toNat).toArray⟩) /\ Below W.heap.size W w') := zB (fun W x h0 h1 => by
  have h := number_any x.toNat W (by omega)
  rw [Int.toNat_of_nonneg h0] at h
  refine h.mono ?_
  rintro e w' ⟨rfl, hb⟩
  refine ⟨_, rfl, ?_, zB rfl, hb⟩
  have := zj x.toNat (by omega)
  simpa [ByteArray.size] using this)
 have HCL := zB (classes_any br gS cS vL ps S w hM hps hpl)
 have HC1 : Hid (∀ W, Below w.heap.size w W -> W.cell? ⟨br, 1, none⟩ = some (.slice (some ⟨gS, 0, none⟩) S.length cS)) := zB (fun W hb => by rw [zC (hM.below hb).blk]; rfl)
 have hcl : (zL ps).length <= 256 := clsTo_len ps 256
 have HM := zB hM
 clear hM
 go_enter Tryz.func95, Tryz.ntmps95
 have hcz : (⟨(zL ps).toArray⟩ : ByteArray).size <= 256 := by simpa [ByteArray.size] using hcl
 have hcz2 : (⟨(zL ps).toArray⟩ : ByteArray).size = (zL ps).length := by simp [ByteArray.size]
 obtain ⟨cx, hcx⟩ : ∃ cx, cx = (⟨(zL ps).toArray⟩ : ByteArray) := ⟨_, rfl⟩
 rw [← hcx] at hcz hcz2 HCL
 have HCX := zB hcx
 have HCZ := zB hcz2
 clear hcx hcz2
 have HHE : Hid (∀ a1 a2 a3 : ByteArray, Hid (a1 = ⟨(zN (1 : Int).toNat).toArray⟩) -> Hid (a2 = ⟨(zN ((cx.size : Nat) : Int).toNat).toArray⟩) -> Hid (a3 = ⟨(zN ((S.length : Nat) : Int).toNat).toArray⟩) -> (⟨#[83, 67, 82]⟩ : ByteArray) ++ a1 ++ a2 ++ cx ++ a3 = ⟨(headS ps S).toArray⟩) := zB (fun a1 a2 a3 e1 e2 e3 => by
  rw [zA e1, zA e2, zA e3, zA HCX, Int.toNat_natCast, Int.toNat_natCast, ← zA HCX, zA HCZ]
  have : (⟨#[83, 67, 82]⟩ : ByteArray) = ⟨([83, 67, 82] : Str).toArray⟩ := rfl
  rw [this, zA HCX, zy, zy, zy, zy]; rfl)
 go_wp2_with (go_at_call 128; refine (zA HCL).mono ?_; rintro e w1 ⟨rfl, hb1⟩; have HB1 := zB hb1; have hs1 := hb1.size; have c1 := zA HC1 w1 hb1; clear hb1)
 have lbr1 : br < w1.heap.size := by omega
 go_cut [4] (fun v wx => v = .string ⟨(headS ps S).toArray⟩ /\ Hid (Below w.heap.size w wx))
 case first =>
  have HBC := HB1
  go_region_held3 (fun w' => w'.cell? ⟨br, 1, none⟩ = some (.slice (some ⟨gS, 0, none⟩) S.length cS)) (go_keep)
   (first | (go_at_call 129; refine (zA HNU _ _ (by omega) (by omega)).mono ?_; rintro e w' ⟨t, rfl, hts, HT, hbw⟩; (first | (replace hbw := jU hbw) | skip); replace HBC : Hid (Below w.heap.size w w') := zB ((zA HBC).trans (hbw.mono (zA HBC).size)); have hcc := zA HC1 w' (zA HBC); clear hbw; (first | (have q9 := g3; clear q9; obtain ⟨t3, rfl⟩ : ∃ x, x = t := ⟨t, rfl⟩; have g4 : ¬ 9223372036854775807 < 3 + t1.size + t2.size + cx.size + t3.size := (by omega); have HTt3 := HT; clear HT) | (have q9 := g1; clear q9; obtain ⟨t2, rfl⟩ : ∃ x, x = t := ⟨t, rfl⟩; have g2 : ¬ 9223372036854775807 < 3 + t1.size + t2.size := (by omega); have g3 : ¬ 9223372036854775807 < 3 + t1.size + t2.size + cx.size := (by omega); have hts2 := hts; have HTt2 := HT; clear HT hts) | (obtain ⟨t1, rfl⟩ : ∃ x, x = t := ⟨t, rfl⟩; have g1 : ¬ 9223372036854775807 < 3 + t1.size := (by omega); have hts1 := hts; have HTt1 := HT; clear HT hts))))
  have hfin := zA HHE t1 t2 t3 HTt1 HTt2 HTt3
  go_wp2_with fail
  go_meet
  exact ⟨by rw [← hfin], HBC⟩
 case rest =>
  obtain ⟨rfl, HB⟩ := hcut
  have hhl := headS_len (ps := ps) hSl
  obtain ⟨s0, hs0⟩ : ∃ s0, s0 = (⟨(headS ps S).toArray⟩ : ByteArray) := ⟨_, rfl⟩
  have hs0z : s0.size <= 300 := by rw [hs0]; simpa [ByteArray.size] using hhl
  have HS0 := zB hs0
  rw [← hs0]
  clear hs0
  go_wp2_with fail
  go_loopw [4, 5] (fun v4 v5 wr => ∃ (i : Nat) (sx : ByteArray), v5 = .int .i64 i /\ 1 <= i /\ i <= S.length /\ v4 = .string sx /\ sx.size <= 300 + 9 * i /\ Hid (sx = ⟨(headS ps S ++ jQ S i).toArray⟩) /\ Hid (Below w.heap.size w wr)) (fun _ v5 _ => S.length - (intOf v5).toNat)
  case atStart => exact ⟨1, s0, rfl, Nat.le_refl _, hpos, rfl, by omega, zB (by rw [zA HS0]; simp [jQ]), HB⟩
  case round =>
   obtain ⟨i, sx, rfl, hi1, hi, rfl, hsx, HSX, HBr⟩ := hrel
   have c2 := zA HC1 wr (zA HBr)
   by_cases hlt : i < S.length
   ·have c3 := cellT ((zA HM).below (zA HBr)).srow rfl i hlt
    obtain ⟨l, hl⟩ : ∃ l, (at' S i).length = l + 1 := by
     have h1 := at_lt (zA HM).sorted hlt (show 0 < i by omega)
     rw [(zA HM).head] at h1
     have h2 : (at' S i).length ≠ 0 := fun e => by
      rw [List.length_eq_zero_iff.1 e] at h1
      exact jF _ h1
     exact ⟨(at' S i).length - 1, by omega⟩
    have hl2 := hsh i hlt
    have hmem : at' S i ∈ S := jO hlt
    have hpar : (at' S i).take l ∈ S := by
     have h1 : (at' S i).take l ++ [(at' S i)[l]] = at' S i := by
      have := List.take_succ_eq_append_getElem (l := at' S i) (i := l) (by omega)
      rw [List.take_of_length_le (by omega)] at this
      exact this.symm
     exact (zA HM).closed _ _ (by rw [h1]; exact hmem)
    have HFI : Hid (∀ W, Below w.heap.size w W -> Calls Tryz.prog 130 #[.pointer (some ⟨br, 0, none⟩), .string ⟨((at' S i).take l).toArray⟩] W fun e w' => e = .returned (.int .i64 (S.idxOf ((at' S i).take l) : Nat)) /\ w' = W) := zB (fun W hb => by
     have h := rfind_any br gS cS vL ps S ((at' S i).take l) W ((zA HM).below hb)
     have e : findN S ((at' S i).take l) = (S.idxOf ((at' S i).take l) : Nat) := if_pos hpar
     rw [e] at h
     exact h)
    have HLO : Hid (∀ W, Below w.heap.size w W -> Calls Tryz.prog 131 #[.pointer (some ⟨br, 0, none⟩), .string ⟨((at' S i).drop 1).toArray⟩] W fun e w' => e = .returned (.int .i64 (S.idxOf (yI S ((at' S i).drop 1)) : Nat)) /\ w' = W) := zB (fun W hb => rlongest_any br gS cS vL ps S ((at' S i).drop 1) W ((zA HM).below hb) (by simp; omega))
    have hn1 := List.idxOf_le_length (a := (at' S i).take l) (l := S)
    have hn2 := List.idxOf_le_length (a := yI S ((at' S i).drop 1)) (l := S)
    have hnx : jQ S (i + 1) = jQ S i ++ stS S i := by rw [jQ, if_neg (by omega)]
    have hst : stS S i = zN (S.idxOf ((at' S i).take l)) ++ (at' S i).drop l ++ zN (S.idxOf (yI S ((at' S i).drop 1))) := by unfold stS; rw [hl]; rfl
    have HNX : Hid (∀ t1 t3 : ByteArray, Hid (t1 = ⟨(zN ((S.idxOf ((at' S i).take l) : Nat) : Int).toNat).toArray⟩) -> Hid (t3 = ⟨(zN ((S.idxOf (yI S ((at' S i).drop 1)) : Nat) : Int).toNat).toArray⟩) -> sx ++ t1 ++ ⟨((at' S i).drop l).toArray⟩ ++ t3 = ⟨(headS ps S ++ jQ S (i + 1)).toArray⟩) := zB (fun t1 t3 e1 e3 => by
     rw [zA e1, zA e3, zA HSX, Int.toNat_natCast, Int.toNat_natCast, zy, zy, zy, hnx, hst]
     simp only [List.append_assoc])
    have ex1 := extract_take (at' S i) l
    have ex2 := jT (at' S i) l
    have ex3 := jT (at' S i) 1
    have hz : (⟨(at' S i).toArray⟩ : ByteArray).size = l + 1 := by simp [ByteArray.size, hl]
    have hz2 : (⟨((at' S i).drop l).toArray⟩ : ByteArray).size <= 1 := by simp [ByteArray.size]; omega
    rw [hz] at ex2 ex3
    have hl3 : l < 1000 := by omega
    clear hst hnx hpar hmem hl2 hl
    generalize S.idxOf ((at' S i).take l) = n1 at *
    generalize S.idxOf (yI S ((at' S i).drop 1)) = n2 at *
    generalize (⟨((at' S i).take l).toArray⟩ : ByteArray) = ta at *
    generalize (⟨((at' S i).drop l).toArray⟩ : ByteArray) = tb at *
    generalize (⟨((at' S i).drop 1).toArray⟩ : ByteArray) = tc at *
    generalize (⟨(at' S i).toArray⟩ : ByteArray) = tx at *
    have j1 : (i : Int) < (S.length : Int) := by omega
    have j2 : (0 : Int) <= (i : Int) := by omega
    go_wp2_with fail
    have HBC := HBr
    have b1 : (l : Int) <= (l : Int) + 1 := by omega
    have b2 : (0 : Int) <= (l : Int) := by omega
    have b3 : (1 : Int) <= (l : Int) + 1 := by omega
    have b4 : (0 : Int) <= (l : Int) + 1 := by omega
    have b5 : ((l : Int) + 1).toNat = l + 1 := by omega
    have b6 : IntKind.i64.wrap ((l : Int) + 1) = (l : Int) + 1 := wrap_small _ (by omega) (by omega)
    go_region_held3 (fun w' => w'.cell? ⟨br, 1, none⟩ = some (.slice (some ⟨gS, 0, none⟩) S.length cS)) (go_keep)
     (first | (go_at_call 129; refine (zA HNU _ _ (by omega) (by omega)).mono ?_; rintro e w' ⟨t, rfl, hts, HT, hbw⟩; (first | (replace hbw := jU hbw) | skip); replace HBC : Hid (Below w.heap.size w w') := zB ((zA HBC).trans (hbw.mono (zA HBC).size)); have hcc := zA HC1 w' (zA HBC); clear hbw; (first | (have q9 := g1; clear q9; obtain ⟨t3, rfl⟩ : ∃ x, x = t := ⟨t, rfl⟩; have g4 : ¬ 9223372036854775807 < sx.size + t1.size + tb.size + t3.size := (by omega); have hts3 := hts; have HTt3 := HT; clear HT hts) | (obtain ⟨t1, rfl⟩ : ∃ x, x = t := ⟨t, rfl⟩; have g1 : ¬ 9223372036854775807 < sx.size + t1.size := (by omega); have g2 : ¬ 9223372036854775807 < sx.size + t1.size + tb.size := (by omega); have hts1 := hts; have HTt1 := HT; clear HT hts))) | (go_at_call 130; refine (zA HFI _ (by first | exact zA HBC | exact (zA HBC).drew)).mono ?_; rintro e w' ⟨rfl, hw⟩; have hw' := hw.symm; clear hw; subst hw') | (go_at_call 131; refine (zA HLO _ (by first | exact zA HBC | exact (zA HBC).drew)).mono ?_; rintro e w' ⟨rfl, hw⟩; have hw' := hw.symm; clear hw; subst hw'))
    all_goals
     have hfin := zA HNX t1 t3 HTt1 HTt3
     have hfz : (sx ++ t1 ++ tb ++ t3).size <= 300 + 9 * (i + 1) := by simp only [ByteArray.size_append]; omega
     have HFIN := zB hfin
     clear hfin
     generalize sx ++ t1 ++ tb ++ t3 = sy at *
     go_wp2_with fail
     go_roundw
     case rel => exact ⟨i + 1, sy, by go_num, by omega, hlt, rfl, hfz, HFIN, HBC⟩
     case measure => simp [intOf]; omega
   ·obtain rfl : i = S.length := by omega
    have j1 : ¬ (S.length : Int) < (S.length : Int) := by omega
    obtain ⟨aL, cL, hvL⟩ : ∃ aL cL, vL = .slice aL ps.length cL := by
     rcases (zA HM).lrow.2 with ⟨h, h0⟩ | ⟨g, cap, cur, h, _⟩
     ·exact ⟨none, 0, by rw [h, h0]⟩
     ·exact ⟨_, cap, h⟩
    subst hvL
    have HCE : Hid (∀ W, Below w.heap.size w W -> W.cell? ⟨br, 0, none⟩ = some (.slice aL ps.length cL) /\ (∀ i, i < ps.length -> ∃ gL, aL = some ⟨gL, 0, none⟩ /\ W.cell? ⟨gL, i, none⟩ = some (.string ⟨(pat ps i).toArray⟩))) := zB (fun W hb => by
     have hM2 := (zA HM).below hb
     refine ⟨by rw [zC hM2.blk]; rfl, fun i hi => ?_⟩
     rcases hM2.lrow.2 with ⟨h, h1⟩ | ⟨gL, cap, cur, h, _, hg, _⟩
     ·omega
     ·obtain ⟨rfl, rfl⟩ : aL = some ⟨gL, 0, none⟩ /\ cL = cap := by simpa using h
      exact ⟨gL, rfl, cellT hM2.lrow rfl i hi⟩)
    obtain ⟨c4, _⟩ := zA HCE wr (zA HBr)
    have HFP : Hid (∀ W i, i < ps.length -> Below w.heap.size w W -> Calls Tryz.prog 130 #[.pointer (some ⟨br, 0, none⟩), .string ⟨(pat ps i).toArray⟩] W fun e w' => e = .returned (.int .i64 (S.idxOf (pat ps i) : Nat)) /\ w' = W) := zB (fun W i hi hb => by
     have h := rfind_any br gS cS (.slice aL ps.length cL) ps S (pat ps i) W ((zA HM).below hb)
     have e : findN S (pat ps i) = (S.idxOf (pat ps i) : Nat) := if_pos (hin i hi)
     rw [e] at h
     exact h)
    have HS1 : Hid (∀ t : ByteArray, Hid (t = ⟨(zN ((ps.length : Nat) : Int).toNat).toArray⟩) -> sx ++ t = ⟨(headS ps S ++ jQ S S.length ++ zN ps.length).toArray⟩) := zB (fun t e => by
     rw [zA e, zA HSX, Int.toNat_natCast, zy])
    go_wp2_with (first | (go_at_call 129; refine (zA HNU _ _ (by omega) (by omega)).mono ?_; rintro e w5 ⟨t, rfl, hts, HT, hbw⟩; have HB5 : Hid (Below w.heap.size w w5) := zB ((zA HBr).trans (hbw.mono (zA HBr).size)); clear hbw))
    have HS2 := zB (zA HS1 t HT)
    have hsz2 : (sx ++ t).size <= 300 + 9 * S.length + 4 := by simp only [ByteArray.size_append]; omega
    generalize sx ++ t = sa at *
    clear HS1 HSX c4
    obtain ⟨H1, hH1⟩ : ∃ H1, H1 = headS ps S ++ jQ S S.length ++ zN ps.length := ⟨_, rfl⟩
    rw [← hH1] at HS2
    have HH1 := zB hH1
    clear hH1
    go_loopw [4, 8] (fun v4 v8 wr => ∃ (i : Nat) (sx : ByteArray), v8 = .int .i64 i /\ i <= ps.length /\ v4 = .string sx /\ sx.size <= 304 + 9 * S.length + 4 * i /\ Hid (sx = ⟨(H1 ++ jS ps S i).toArray⟩) /\ Hid (Below w.heap.size w wr)) (fun _ v8 _ => ps.length - (intOf v8).toNat)
    case atStart => exact ⟨0, sa, rfl, Nat.zero_le _, rfl, by omega, zB (by rw [zA HS2]; simp [jS]), HB5⟩
    case round =>
     obtain ⟨i, sx, rfl, hi, rfl, hsx, HSX, HBr⟩ := hrel
     obtain ⟨c4, hcells⟩ := zA HCE wr (zA HBr)
     by_cases hlt : i < ps.length
     ·obtain ⟨gL, rfl, c5⟩ := hcells i hlt
      have HF := zB (zA HFP wr i hlt (zA HBr))
      have hn1 := List.idxOf_le_length (a := pat ps i) (l := S)
      have HNX : Hid (∀ t : ByteArray, Hid (t = ⟨(zN ((S.idxOf (pat ps i) : Nat) : Int).toNat).toArray⟩) -> sx ++ t = ⟨(H1 ++ jS ps S (i + 1)).toArray⟩) := zB (fun t e => by
       rw [zA e, zA HSX, Int.toNat_natCast, zy, jS, List.append_assoc])
      clear hcells
      generalize S.idxOf (pat ps i) = n1 at *
      generalize (⟨(pat ps i).toArray⟩ : ByteArray) = tp at *
      have j2 : (i : Int) < (ps.length : Int) := by omega
      have j3 : (0 : Int) <= (i : Int) := by omega
      go_wp2_with (first | (go_at_call 130; refine (zA HF).mono ?_; rintro e w' ⟨rfl, hw⟩; have hw' := hw.symm; clear hw; subst hw') | (go_at_call 129; refine (zA HNU _ _ (by omega) (by omega)).mono ?_; rintro e w6 ⟨t, rfl, hts, HT, hbw⟩; have HB6 : Hid (Below w.heap.size w w6) := zB ((zA HBr).trans (hbw.mono (zA HBr).size)); clear hbw))
      have HS3 := zB (zA HNX t HT)
      have hsz3 : (sx ++ t).size <= 304 + 9 * S.length + 4 * (i + 1) := by simp only [ByteArray.size_append]; omega
      generalize sx ++ t = sb at *
      go_roundw
      case rel => exact ⟨i + 1, sb, by go_num, hlt, rfl, hsz3, HS3, HB6⟩
      case measure => simp [intOf]; omega
     ·obtain rfl : i = ps.length := by omega
      have j2 : ¬ (ps.length : Int) < (ps.length : Int) := by omega
      have HRO := zB (rows_any br gS cS (.slice aL ps.length cL) ps S (zL ps) wr ((zA HM).below (zA HBr)) hsh hcl)
      have hpk : POK (1000 * S.length) (zI (zU S (zL ps)) S.length) := packTo_ok hSl (fun s p hp => by
       have h := excTo_mem (S := S) (c := zL ps) (s := s) (fun k b => Nat.lt_of_lt_of_le (rnext_lt (zA HM) k b) (by omega)) (zL ps).length p hp
       omega) S.length
      rw [← zA HCX] at HRO
      have HBO : Hid (yS ps S = H1 ++ jS ps S ps.length ++ offsTo (zI (zU S (zL ps)) S.length).o S.length ++ zN (zI (zU S (zL ps)) S.length).cl.length ++ zq (zI (zU S (zL ps)) S.length).cl (zI (zU S (zL ps)) S.length).cl.length) := zB (by rw [zA HH1]; rfl)
      generalize zI (zU S (zL ps)) S.length = P at *
      generalize H1 ++ jS ps S ps.length = H2 at *
      clear hcells
      have hclB := hpk.len
      have HPK := zB hpk
      clear hpk
      go_wp2_with (first | (go_at_call 132; refine (zA HRO).mono ?_; rintro e w7 ⟨rb, vO, vF, vC, rs, rfl, hR, hb7⟩; have HR := zB hR; have HB7 : Hid (Below w.heap.size w w7) := zB ((zA HBr).trans (hb7.mono (zA HBr).size)); clear hR hb7))
      obtain ⟨gF, cF, rfl⟩ : ∃ gF cF, vF = .slice (some ⟨gF, 0, none⟩) S.length cF := by
       rcases (zA HR).offs.2 with ⟨_, h0⟩ | ⟨gF, cF, cur, h, _⟩
       ·omega
       ·exact ⟨gF, cF, h⟩
      obtain ⟨aC, cC, rfl⟩ : ∃ aC cC, vC = .slice aC P.cl.length cC := by
       rcases (zA HR).cels.2 with ⟨h, h0⟩ | ⟨g, cap, cur, h, _⟩
       ·exact ⟨none, 0, by rw [h, h0]⟩
       ·exact ⟨_, cap, h⟩
      have HRD : Hid (∀ W, Below w7.heap.size w7 W -> W.cell? ⟨rb, 1, none⟩ = some (.slice (some ⟨gF, 0, none⟩) S.length cF) /\ W.cell? ⟨rb, 2, none⟩ = some (.slice aC P.cl.length cC) /\ (∀ i, i < S.length -> W.cell? ⟨gF, i, none⟩ = some (.int .i64 (P.o i))) /\ ∀ i, i < P.cl.length -> ∃ gC, aC = some ⟨gC, 0, none⟩ /\ W.cell? ⟨gC, i * 2, none⟩ = some (.int .i64 (P.cl.getD i (0, 0)).1) /\ W.cell? ⟨gC, i * 2 + 1, none⟩ = some (.int .i64 (P.cl.getD i (0, 0)).2)) := zB (fun W hb => by
       have h := (zA HR).same (fun k hk => hb.block k hk)
       refine ⟨by rw [zC h.blk]; rfl, by rw [zC h.blk]; rfl, fun i hi => by rw [h.offs.cellAt i (by omega), zW _ _ _ hi], fun i hi => ?_⟩
       rcases h.cels.2 with ⟨_, h1⟩ | ⟨gC, cap, cur, h1, _⟩
       ·omega
       ·obtain ⟨rfl, rfl⟩ : aC = some ⟨gC, 0, none⟩ /\ cC = cap := by simpa using h1
        obtain ⟨e1, e2⟩ := cellsV_get P.cl i P.cl[i] (List.getElem?_eq_getElem hi)
        have e3 : P.cl.getD i (0, 0) = P.cl[i] := by simp [List.getD, hi]
        rw [e3]
        exact ⟨gC, rfl, by rw [h.cels.cellAt (i * 2) (by omega)]; exact e1, by rw [h.cels.cellAt (i * 2 + 1) (by omega)]; exact e2⟩)
      have hsz7 := (zA HB7).size
      go_loopw [4, 10] (fun v4 v10 wr => ∃ (i : Nat) (sx : ByteArray), v10 = .int .i64 i /\ i <= S.length /\ v4 = .string sx /\ sx.size <= 1000 + 9 * S.length + 4 * i /\ Hid (sx = ⟨(H2 ++ offsTo P.o i).toArray⟩) /\ Hid (Below w7.heap.size w7 wr)) (fun _ v10 _ => S.length - (intOf v10).toNat)
      case atStart => exact ⟨0, sx, rfl, Nat.zero_le _, rfl, by omega, zB (by rw [zA HSX]; simp [offsTo]), zB (Below.refl _ _)⟩
      case round =>
       obtain ⟨i, sy, rfl, hi, rfl, hsy, HSY, HBy⟩ := hrel
       obtain ⟨r1, r2, r3, _⟩ := zA HRD wr (zA HBy)
       by_cases hlt : i < S.length
       ·have c6 := r3 i hlt
        obtain ⟨ho1, ho2⟩ := (zA HPK).o i
        have HNX : Hid (∀ t : ByteArray, Hid (t = ⟨(zN (P.o i).toNat).toArray⟩) -> sy ++ t = ⟨(H2 ++ offsTo P.o (i + 1)).toArray⟩) := zB (fun t e => by
         rw [zA e, zA HSY, zy, offsTo, List.append_assoc])
        clear r3
        generalize P.o i = oi at *
        have j3 : (i : Int) < (S.length : Int) := by omega
        have j4 : (0 : Int) <= (i : Int) := by omega
        go_wp2_with (first | (go_at_call 129; refine (zA HNU _ _ (by omega) (by omega)).mono ?_; rintro e w8 ⟨t, rfl, hts, HT, hbw⟩; have HB8 : Hid (Below w7.heap.size w7 w8) := zB ((zA HBy).trans (hbw.mono (zA HBy).size)); clear hbw))
        have HS3 := zB (zA HNX t HT)
        have hsz3 : (sy ++ t).size <= 1000 + 9 * S.length + 4 * (i + 1) := by simp only [ByteArray.size_append]; omega
        generalize sy ++ t = sb at *
        go_roundw
        case rel => exact ⟨i + 1, sb, by go_num, hlt, rfl, hsz3, HS3, HB8⟩
        case measure => simp [intOf]; omega
       ·obtain rfl : i = S.length := by omega
        have j3 : ¬ (S.length : Int) < (S.length : Int) := by omega
        clear r3
        have HNX : Hid (∀ t : ByteArray, Hid (t = ⟨(zN ((P.cl.length : Nat) : Int).toNat).toArray⟩) -> sy ++ t = ⟨(H2 ++ offsTo P.o S.length ++ zN P.cl.length).toArray⟩) := zB (fun t e => by
         rw [zA e, zA HSY, Int.toNat_natCast, zy])
        go_wp2_with (first | (go_at_call 129; refine (zA HNU _ _ (by omega) (by omega)).mono ?_; rintro e w8 ⟨t, rfl, hts, HT, hbw⟩; have HB8 : Hid (Below w7.heap.size w7 w8) := zB ((zA HBy).trans (hbw.mono (zA HBy).size)); clear hbw))
        have HS3 := zB (zA HNX t HT)
        have hsz3 : (sy ++ t).size <= 1004 + 13 * S.length := by simp only [ByteArray.size_append]; omega
        generalize sy ++ t = sb at *
        generalize H2 ++ offsTo P.o S.length ++ zN P.cl.length = H3 at *
        go_loopw [4, 11] (fun v4 v11 wr => ∃ (i : Nat) (sx : ByteArray), v11 = .int .i64 i /\ i <= P.cl.length /\ v4 = .string sx /\ sx.size <= 1004 + 13 * S.length + 8 * i /\ Hid (sx = ⟨(H3 ++ zq P.cl i).toArray⟩) /\ Hid (Below w7.heap.size w7 wr)) (fun _ v11 _ => P.cl.length - (intOf v11).toNat)
        case atStart => exact ⟨0, sb, rfl, Nat.zero_le _, rfl, by omega, zB (by rw [zA HS3]; simp [zq]), HB8⟩
        case round =>
         obtain ⟨i, sz, rfl, hi, rfl, hsz, HSZ, HBz⟩ := hrel
         obtain ⟨r1, r2, _, r4⟩ := zA HRD wr (zA HBz)
         by_cases hlt : i < P.cl.length
         ·obtain ⟨gC, rfl, c6, c7⟩ := r4 i hlt
          have hq := (zA HPK).cl (P.cl.getD i (0, 0)) (by
           rw [List.getD_eq_getElem?_getD, List.getElem?_eq_getElem hlt]
           exact List.getElem_mem _)
          have HCT : Hid (zq P.cl (i + 1) = zq P.cl i ++ celS (P.cl.getD i (0, 0))) := zB rfl
          have HCS : Hid (celS (P.cl.getD i (0, 0)) = zN ((P.cl.getD i (0, 0)).1 + 1).toNat ++ if 0 <= (P.cl.getD i (0, 0)).1 then zN (P.cl.getD i (0, 0)).2.toNat else []) := zB rfl
          have HCF : Hid (∀ W, Below w7.heap.size w7 W -> W.cell? ⟨rb, 2, none⟩ = some (.slice (some ⟨gC, 0, none⟩) P.cl.length cC) /\ W.cell? ⟨gC, i * 2, none⟩ = some (.int .i64 (P.cl.getD i (0, 0)).1) /\ W.cell? ⟨gC, i * 2 + 1, none⟩ = some (.int .i64 (P.cl.getD i (0, 0)).2)) := zB (fun W hb => by
           obtain ⟨_, q2, _, q4⟩ := zA HRD W hb
           obtain ⟨g2, e, q5, q6⟩ := q4 i hlt
           obtain rfl : gC = g2 := by simpa using e
           exact ⟨q2, q5, q6⟩)
          clear r4
          generalize celS (P.cl.getD i (0, 0)) = cq at *
          generalize (P.cl.getD i (0, 0)).1 = x at *
          generalize (P.cl.getD i (0, 0)).2 = y at *
          obtain ⟨hq1, hq2, hq3, hq4⟩ := hq
          have j4 : (i : Int) < (P.cl.length : Int) := by omega
          have j5 : (0 : Int) <= (i : Int) := by omega
          have HBC := HBz
          by_cases hx : 0 <= x
          ·have HNX : Hid (∀ t1 t2 : ByteArray, Hid (t1 = ⟨(zN (x + 1).toNat).toArray⟩) -> Hid (t2 = ⟨(zN y.toNat).toArray⟩) -> sz ++ t1 ++ t2 = ⟨(H3 ++ zq P.cl (i + 1)).toArray⟩) := zB (fun t1 t2 e1 e2 => by
            rw [zA e1, zA e2, zA HSZ, zy, zy, zA HCT, zA HCS, if_pos hx]
            simp only [List.append_assoc])
           go_wp2_with (first | (go_at_call 129; refine (zA HNU _ _ (by omega) (by omega)).mono ?_; rintro e w9 ⟨t, rfl, hts, HT, hbw⟩; replace HBC : Hid (Below w7.heap.size w7 w9) := zB ((zA HBC).trans (hbw.mono (zA HBC).size)); obtain ⟨v1, v2, v3⟩ := zA HCF w9 (zA HBC); clear hbw; (first | (have q9 := HT1; clear q9; obtain ⟨t2, rfl⟩ : ∃ x, x = t := ⟨t, rfl⟩; have hts2 := hts; have HT2 := HT; clear HT hts) | (obtain ⟨t1, rfl⟩ : ∃ x, x = t := ⟨t, rfl⟩; have hts1 := hts; have HT1 := HT; clear HT hts))))
           have HS4 := zB (zA HNX t1 t2 HT1 HT2)
           have hsz4 : (sz ++ t1 ++ t2).size <= 1004 + 13 * S.length + 8 * (i + 1) := by simp only [ByteArray.size_append]; omega
           generalize sz ++ t1 ++ t2 = sc at *
           go_roundw
           case rel => exact ⟨i + 1, sc, by go_num, hlt, rfl, hsz4, HS4, HBC⟩
           case measure => simp [intOf]; omega
          ·have HNX : Hid (∀ t1 : ByteArray, Hid (t1 = ⟨(zN (x + 1).toNat).toArray⟩) -> sz ++ t1 = ⟨(H3 ++ zq P.cl (i + 1)).toArray⟩) := zB (fun t1 e1 => by
            rw [zA e1, zA HSZ, zy, zA HCT, zA HCS, if_neg hx]
            simp only [List.append_assoc, List.append_nil])
           go_wp2_with (first | (go_at_call 129; refine (zA HNU _ _ (by omega) (by omega)).mono ?_; rintro e w9 ⟨t, rfl, hts, HT, hbw⟩; replace HBC : Hid (Below w7.heap.size w7 w9) := zB ((zA HBC).trans (hbw.mono (zA HBC).size)); obtain ⟨v1, v2, v3⟩ := zA HCF w9 (zA HBC); clear hbw; obtain ⟨t1, rfl⟩ : ∃ x, x = t := ⟨t, rfl⟩; have hts1 := hts; have HT1 := HT; clear HT hts))
           have HS4 := zB (zA HNX t1 HT1)
           have hsz4 : (sz ++ t1).size <= 1004 + 13 * S.length + 8 * (i + 1) := by simp only [ByteArray.size_append]; omega
           generalize sz ++ t1 = sc at *
           go_roundw
           case rel => exact ⟨i + 1, sc, by go_num, hlt, rfl, hsz4, HS4, HBC⟩
           case measure => simp [intOf]; omega
         ·obtain rfl : i = P.cl.length := by omega
          have j4 : ¬ (P.cl.length : Int) < (P.cl.length : Int) := by omega
          clear r4
          have hbl : (H3 ++ zq P.cl P.cl.length).length < 100000000 := by
           have h1 : sz.size = (H3 ++ zq P.cl P.cl.length).length := by rw [zA HSZ]; simp [ByteArray.size]
           omega
          have HSM := zB (sum_any (H3 ++ zq P.cl P.cl.length) wr hbl)
          rw [← zA HSZ] at HSM
          have hs4 : (⟨(yK (H3 ++ zq P.cl P.cl.length)).toArray⟩ : ByteArray).size = 4 := by simp [ByteArray.size, sumS_len]
          have HFI : Hid (sz ++ ⟨(yK (H3 ++ zq P.cl P.cl.length)).toArray⟩ = ⟨(zS ps S).toArray⟩) := zB (by
           rw [zA HSZ, zy, zS, zA HBO])
          generalize (⟨(yK (H3 ++ zq P.cl P.cl.length)).toArray⟩ : ByteArray) = ts at *
          go_wp2_with (first | (go_at_call 124; refine (zA HSM).mono ?_; rintro e w9 ⟨rfl, hb9⟩; have HB9 : Hid (Below w.heap.size w w9) := zB ((zA HB7).trans (((zA HBz).mono hsz7).trans (hb9.mono (Nat.le_trans hsz7 (zA HBz).size)))); clear hb9))
          go_ret
          exact ⟨by rw [← zA HFI]; rfl, zA HB9⟩
end Go.Proofs.YtfpohfifdfbpkaaGreatDoor
