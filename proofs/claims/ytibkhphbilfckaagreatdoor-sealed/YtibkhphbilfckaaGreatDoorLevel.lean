import Derived.Test.YtibkhphbilfckaaGreatDoorRow
namespace Go.Proofs.YtibkhphbilfckaaGreatDoor
open Go.RowKit Scour

set_option maxHeartbeats 4000000 in
set_option maxRecDepth 100000 in
theorem level_any (base bt be m g0 cap0 bo co : Nat) (ap : Option Addr) (cp : Nat) (ps : List Str) (os : List Nat) (L : Nat) (S : List Str) (par0 lst0 E : Nat → Int) (w : World)
    (hT : Trie w base bt be m g0 cap0 S par0 lst0 (fun _ => 0) E) (hm : ps.length = m) (hP : PatsIn w base ap ps) (hO : IntsAt w bo os) (hbo : bo < w.heap.size) (hbon : bo ≠ bt ∧ bo ≠ be ∧ bo ≠ g0)
    (hb1 : base ≤ bt) (hbeb : base ≤ be) (hb2 : base ≤ w.heap.size) (hbe : be < w.heap.size)
    (hS : S.length + os.length < 100000) (hL : 1 ≤ L ∧ L < 100000) (hnd : os.Nodup)
    (hin : ∀ j, j < os.length → os.getD j 0 < m ∧ L ≤ (pat ps (os.getD j 0)).length ∧ ∃ p, p < S.length ∧ E (os.getD j 0) = (p : Nat) ∧ at' S p = (pat ps (os.getD j 0)).take (L - 1))
    (hsrt : ∀ j, j ≤ os.length → (lev ps os L S j).Pairwise slt) :
    Calls Tryz.prog 70 #[.pointer (some ⟨bt, 0, none⟩), .slice ap ps.length cp, .slice (some ⟨bo, 0, none⟩) os.length co, .int .i64 L] w fun e w' => ∃ g cap par lst, e = .returned (.tuple #[]) ∧
      Trie w' base bt be m g cap (lev ps os L S os.length) par lst (fun _ => 0) (endsTo ps os L S E os.length) ∧ Keeps [bt, g0, be] w w' ∧ (g = g0 ∨ w.heap.size ≤ g) := by
  subst hm
  have hbt : bt < w.heap.size := (Array.getElem?_eq_some_iff.1 hT.blk).1
  obtain ⟨i0, hi, hz0, hz1, hz2⟩ := info_parts Tryz.infoS
  have HT := hide hT
  have HP := hide hP
  have HO := hide hO
  have HIN := hide hin
  have HSR := hide hsrt
  clear hT hP hO hin hsrt
  go_enter Tryz.func70, Tryz.ntmps70
  go_wp2_with fail
  go_loopw [14] (fun v wr => ∃ (j g cap : Nat) (par lst : Nat → Int), v = .int .i64 j ∧ j ≤ os.length ∧ Hid (Trie wr base bt be ps.length g cap (lev ps os L S j) par lst (fun _ => 0) (endsTo ps os L S E j)) ∧ Hid (Keeps [bt, g0, be] w wr) ∧ Hid (g = g0 ∨ w.heap.size ≤ g)) (fun v _ => os.length - (intOf v).toNat)
  case atStart => exact ⟨0, g0, cap0, par0, lst0, rfl, Nat.zero_le _, HT, hide (Keeps.refl _ _), hide (Or.inl rfl)⟩
  case round =>
    obtain ⟨j, g, cap, par, lst, rfl, hj, HTr, HK, HG⟩ := hrel
    by_cases hlt : j < os.length
    · have hK := unhide HK
      have hTr := unhide HTr
      have hsz := hK.size
      have hbel : Below base w wr := hK.below hb2 (by intro x hx; simp at hx; rcases hx with rfl | rfl | rfl; exact hb1; exact (owns_lt (unhide HT).row (unhide HT).rep.pos).1; exact hbeb)
      obtain ⟨him, hLi, p, hp, hEp, hatp⟩ := unhide HIN j hlt
      have hpl : 0 < ps.length := by omega
      obtain ⟨bp, op, hbp, rfl, hpat⟩ := (unhide HP).below hbel (Nat.le_refl _) hpl
      have c_ord : wr.cell? ⟨bo, j, none⟩ = some (.int .i64 (os.getD j 0 : Nat)) := (World.cell?_of_block (a := ⟨bo, j, none⟩) (hK.block bo hbo (by simp; omega))).trans (unhide HO j hlt)
      have c_end : wr.cell? ⟨be, os.getD j 0, none⟩ = some (.int .i64 (p : Nat)) := by
        rw [hTr.ends.cellAt _ (by omega), intsF_get _ _ _ him, endsTo_same hnd j hlt j (Nat.le_refl _), hEp]
      obtain ⟨ao, cc, c_pat, hby⟩ := hpat (os.getD j 0) (by omega)
      obtain ⟨b, o, hb, rfl, hbytes⟩ := hby (by omega)
      obtain ⟨l, rfl⟩ : ∃ l, L = l + 1 := ⟨L - 1, by omega⟩
      have c_byte := hbytes l (by omega)
      have c_bt0 : wr.cell? ⟨bt, 0, none⟩ = some (.slice (some ⟨g, 0, none⟩) (lev ps os (l + 1) S j).length cap) := by rw [cell_of_blk hTr.blk]; rfl
      have c_bt1 : wr.cell? ⟨bt, 1, none⟩ = some (.slice (some ⟨be, 0, none⟩) ps.length ps.length) := by rw [cell_of_blk hTr.blk]; rfl
      have hx := take_snoc (pat ps (os.getD j 0)) l (by omega)
      have HX := hide hx
      have hatp' : at' S p = (pat ps (os.getD j 0)).take l := hatp
      have HSl := hide (lev_len (ps := ps) (os := os) (L := l + 1) (S := S) j)
      have HBL := hide hbel
      have i1 : (j : Int) < (os.length : Int) := by omega
      have i2 : ((os.getD j 0 : Nat) : Int) < (ps.length : Int) := by omega
      have i4 : (l : Int) < ((pat ps (os.getD j 0)).length : Int) := by omega
      have i5 : (0 : Int) ≤ ((os.getD j 0 : Nat) : Int) := by omega
      clear hTr hK hpat hbytes hx hatp hbel hby hEp
      have HXS := hide (show (pat ps (os.getD j 0)).take (l + 1) = at' (lev ps os (l + 1) S j) p ++ [(pat ps (os.getD j 0)).getD l 0] ∧ p < (lev ps os (l + 1) S j).length from ⟨by rw [lev_at hp, hatp', unhide HX], Nat.lt_of_lt_of_le hp (lev_ge j)⟩)
      generalize hSj : lev ps os (l + 1) S j = Sj at *
      generalize hEj : endsTo ps os (l + 1) S E j = Ej at *
      have HSj := hide hSj
      have HEj := hide hEj
      clear hSj hEj
      obtain ⟨k, hk⟩ : ∃ k, Sj.length = k + 1 := ⟨Sj.length - 1, by have := (unhide HTr).rep.pos; omega⟩
      rw [hk] at c_bt0
      have HKk := hide hk
      clear hk
      have i8 : IntKind.i64.wrap (k : Int) = (k : Int) := IntWalk.i64_in _ (by have := unhide HSl; have := unhide HKk; omega)
      generalize hii : os.getD j 0 = i at *
      have Hii := hide hii
      clear hii
      generalize (pat ps i).getD l 0 = c at *
      clear hatp'
      have i6 : (0 : Int) ≤ (l : Int) := by omega
      have i7 : IntKind.i64.wrap (l : Int) = (l : Int) := IntWalk.i64_in _ (by omega)
      go_wp2
      go_region_held3 (fun w' => w'.cell? ⟨bt, 1, none⟩ = some (.slice (some ⟨be, 0, none⟩) ps.length ps.length) ∧ w'.cell? ⟨be, i, none⟩ = some (.int .i64 p) ∧ w'.cell? ⟨bp, op + i, none⟩ = some (.slice (some ⟨b, o, none⟩) (pat ps i).length cc) ∧ w'.cell? ⟨b, o + l, none⟩ = some (.int .u8 c.toNat)) (go_keep) (fail)
      have hbW : Below wr.heap.size wr (wr.alloc (.cells #[.int .i64 p, .int .u8 c.toNat, .int .i64 0] 163)).drew := ((Below.refl _ _).alloc (Nat.le_refl _) _).drew
      have hbx : (wr.alloc (.cells #[.int .i64 p, .int .u8 c.toNat, .int .i64 0] 163)).drew.heap[wr.heap.size]? = some (.cells #[.int .i64 p, .int .u8 c.toNat, .int .i64 0] 163 (0, 0)) := box_new
      have hsW : (wr.alloc (.cells #[.int .i64 p, .int .u8 c.toNat, .int .i64 0] 163)).drew.heap.size = wr.heap.size + 1 := by simp
      generalize (wr.alloc (.cells #[.int .i64 p, .int .u8 c.toNat, .int .i64 0] 163)).drew = W at hbW hbx hsW ⊢
      have hTW := (unhide HTr).kept hbW
      have hKW : Keeps [bt, g0, be] w W := (unhide HK).trans (keeps_of_below hbW _)
      have hgl := owns_lt hTW.row hTW.rep.pos
      have HSZ := hide (show w.heap.size ≤ wr.heap.size ∧ wr.heap.size < W.heap.size ∧ bt < wr.heap.size ∧ be < wr.heap.size ∧ g < wr.heap.size from ⟨hsz, by omega, by omega, by omega, (owns_lt (unhide HTr).row (unhide HTr).rep.pos).2.1⟩)
      clear hbW hsW c_ord c_end c_pat c_byte c_bt0 c_bt1 HTr HK hgl hsz
      generalize wr.heap.size = bx at hbx HSZ ⊢
      have HTW := hide hTW
      have HKW := hide hKW
      have HBX := hide hbx
      clear hKW hTW hbx
      have HX' := hide (show ∃ q, q = p ∧ (pat ps i).take (l + 1) = at' Sj p ++ [c] ∧ p < Sj.length from ⟨p, rfl, unhide HXS⟩)
      by_cases hk0 : k = 0
      · subst hk0
        have d0 : W.cell? ⟨bt, 0, none⟩ = some (.slice (some ⟨g, 0, none⟩) 1 cap) := by rw [cell_of_blk (unhide HTW).blk, unhide HKk]; rfl
        have HNP := hide ((unhide HTW).rep.newest_root (unhide HXS).1 (unhide HKk))
        go_wp2
        go_quiet (fail)
        have hb1 : Below W.heap.size W (W.drewN nq) := below_drewN (Below.refl _ _) _
        generalize W.drewN nq = W1 at hb1 ⊢
        have HT1 := hide ((unhide HTW).kept hb1)
        have HB1 := hide ((hb1.block bx (unhide HSZ).2.1).trans (unhide HBX))
        have HK1 := hide ((unhide HKW).trans (keeps_of_below hb1 _))
        have hs1 := hb1.size
        clear hb1 d0
        have e0 : W1.cell? ⟨bt, 0, none⟩ = some (.slice (some ⟨g, 0, none⟩) 1 cap) := by rw [cell_of_blk (unhide HT1).blk, unhide HKk]; rfl
        have x0 : W1.cell? ⟨bx, 0, none⟩ = some (.int .i64 p) := by rw [cell_of_blk (unhide HB1)]; rfl
        have x1 : W1.cell? ⟨bx, 1, none⟩ = some (.int .u8 c.toNat) := by rw [cell_of_blk (unhide HB1)]; rfl
        have x2 : W1.cell? ⟨bx, 2, none⟩ = some (.int .i64 0) := by rw [cell_of_blk (unhide HB1)]; rfl
        have HOWN : Hid ((W1.alloc (.cells #[.int .i64 p, .int .u8 c.toNat, .int .i64 0] 163)).drew.ownsRow base 163 3 (.slice (some ⟨g, 0, none⟩) 1 cap) 1 (cellsF par lst (fun _ => 0) 1)) := hide (by
          have := ((unhide HT1).row.alloc (.cells #[.int .i64 p, .int .u8 c.toNat, .int .i64 0] 163)).drew
          rw [unhide HKk] at this
          exact this)
        have HNEW : Hid (∀ j u, [Value.int .i64 p, .int .u8 c.toNat, .int .i64 0][j]? = some u → (W1.alloc (.cells #[.int .i64 p, .int .u8 c.toNat, .int .i64 0] 163)).drew.cell? ((⟨W1.heap.size, 0, none⟩ : Addr).add j) = some u) := hide (World.news_of_block (box_new (w := W1)))
        have hbW1 : base ≤ W1.heap.size := by have := unhide HSZ; omega
        have HTA := hide ((unhide HT1).kept (w' := (W1.alloc (.cells #[.int .i64 p, .int .u8 c.toNat, .int .i64 0] 163)).drew) ((Below.refl _ _).alloc (Nat.le_refl _) _).drew)
        have HFA : Hid (∀ w', (W1.alloc (.cells #[.int .i64 p, .int .u8 c.toNat, .int .i64 0] 163)).drew.grownBy w' (some g) → w'.cell? ⟨bt, 0, none⟩ = some (.slice (some ⟨g, 0, none⟩) Sj.length cap) ∧ w'.frozen? ⟨bt, 0, none⟩ = false ∧ w'.cell? ⟨bt, 1, none⟩ = some (.slice (some ⟨be, 0, none⟩) ps.length ps.length) ∧ w'.cell? ⟨be, i, none⟩ = some (.int .i64 (Ej i)) ∧ w'.frozen? ⟨be, i, none⟩ = false) := hide (fun w' h => (unhide HTA).facts h him)
        have hzt : bt < W1.heap.size := by have := unhide HSZ; omega
        have nbe : ¬ bt = be := (unhide HT1).ne.2.1
        go_wp2
        go_region_law (refine step_append_lies _ rfl (.tmp 58) (.tmp 60) 123 rfl base 163 i0 _ 3 24 Tryz.underlying123 hi hz0 hz1 hz2 rfl (by decide) _ 1 (cellsF par lst (fun _ => 0) 1) (by simp [Act.eval]) (unhide HOWN) ⟨W1.heap.size, 0, none⟩ 1 1 [.int .i64 p, .int .u8 c.toNat, .int .i64 0] (by simp [Act.eval]) rfl (unhide HNEW) (by intro u hu; simp at hu; rcases hu with rfl | rfl | rfl <;> rfl) (by omega) (by unfold maxLen; omega) (by omega) (by simp; omega) _ rfl ?_; intro g' cap' w' hown' hgrow hat hlt'; have HOW := hide hown'; have HGW := hide hgrow; have HAW := hide hat; obtain ⟨f0, f1, f2, f3, f4⟩ := unhide HFA w' hgrow; clear hown' hgrow hat)
        all_goals go_wp2
        all_goals go_roundw
        all_goals try case measure => simp [intOf]; omega
        all_goals
          case rel =>
            have hsr := unhide HSR (j + 1) (by omega)
            have hlv : lev ps os (l + 1) S (j + 1) = push Sj ((pat ps i).take (l + 1)) := by rw [lev, unhide HSj, unhide Hii]
            have hev : endsTo ps os (l + 1) S E (j + 1) = upd Ej i ((push Sj ((pat ps i).take (l + 1))).length - 1 : Nat) := by rw [endsTo, hlv, unhide HEj, unhide Hii]
            rw [hlv] at hsr
            obtain ⟨r1, r2, r3⟩ := pushed (i := i) (unhide HKk) (unhide HT1) (unhide HXS) (unhide HNP) hsr (by have := unhide HSZ; omega) (unhide HOW) (unhide HGW) (unhide HAW)
            first | refine ⟨j + 1, g', cap', upd par 1 p, upd lst 1 c.toNat, by go_num, hlt, ?_, ?_, ?_⟩ | ((repeat apply Exists.intro); refine ⟨⟨j + 1, g', cap', upd par 1 p, upd lst 1 c.toNat, by go_num, hlt, ?_, ?_, ?_⟩, rfl⟩)
            · rw [hlv, hev]; exact hide r1
            · exact hide ((unhide HK1).other r2 (unhide HG))
            · exact hide (by have := unhide HG; have := (unhide HK1).size; omega)
      · have hkbd : k < 100000 := by have := unhide HSl; have := unhide HKk; omega
        have hkb : ((k : Int) == 0) = false := by simp [hk0]
        have d0 : W.cell? ⟨bt, 0, none⟩ = some (.slice (some ⟨g, 0, none⟩) (k + 1) cap) := by rw [cell_of_blk (unhide HTW).blk, unhide HKk]; rfl
        obtain ⟨s0, s1, s2⟩ := sts_of_owns (unhide HTW).row k (by have := unhide HKk; omega)
        have x0 : W.cell? ⟨bx, 0, none⟩ = some (.int .i64 p) := by rw [cell_of_blk (unhide HBX)]; rfl
        have x1 : W.cell? ⟨bx, 1, none⟩ = some (.int .u8 c.toNat) := by rw [cell_of_blk (unhide HBX)]; rfl
        have x2 : W.cell? ⟨bx, 2, none⟩ = some (.int .i64 0) := by rw [cell_of_blk (unhide HBX)]; rfl
        have hz1 : bt < W.heap.size := by have := unhide HSZ; omega
        have hz2 : g < W.heap.size := by have := unhide HSZ; omega
        have hz3 : bx < W.heap.size := by have := unhide HSZ; omega
        have i9 : (k : Int) < (k : Int) + 1 := by omega
        have i10 : (0 : Int) ≤ (k : Int) := by omega
        have HCZ := hide ((unhide HTW).rep.newest (unhide HXS).2 (unhide HXS).1 (by have := unhide HKk; omega))
        have hkk : Sj.length - 1 = k := by have := unhide HKk; omega
        rw [hkk] at HCZ
        clear hkk
        go_wp2
        go_region_held3 (fun w' => w'.cell? ⟨bt, 0, none⟩ = some (.slice (some ⟨g, 0, none⟩) (k + 1) cap) ∧ w'.cell? ⟨g, k * 3, none⟩ = some (.int .i64 (par k)) ∧ w'.cell? ⟨g, k * 3 + 1, none⟩ = some (.int .u8 (lst k)) ∧ w'.cell? ⟨g, k * 3 + 2, none⟩ = some (.int .i64 0) ∧ w'.cell? ⟨bx, 0, none⟩ = some (.int .i64 p) ∧ w'.cell? ⟨bx, 1, none⟩ = some (.int .u8 c.toNat) ∧ w'.cell? ⟨bx, 2, none⟩ = some (.int .i64 0)) (go_keep)
          (first | (go_at_call 105; refine (compare_any _ _ _ _ _ _ _).mono ?_; rintro e w' ⟨rfl, hbw⟩; replace hbw := below_undrew hbw; have y0 := (hbw.cell (p := ⟨bt, 0, none⟩) hz1).trans d0; have y1 := (hbw.cell (p := ⟨g, k * 3, none⟩) hz2).trans s0; have y2 := (hbw.cell (p := ⟨g, k * 3 + 1, none⟩) hz2).trans s1; have y3 := (hbw.cell (p := ⟨g, k * 3 + 2, none⟩) hz2).trans s2; have y4 := (hbw.cell (p := ⟨bx, 0, none⟩) hz3).trans x0; have y5 := (hbw.cell (p := ⟨bx, 1, none⟩) hz3).trans x1; have y6 := (hbw.cell (p := ⟨bx, 2, none⟩) hz3).trans x2))
        rename Below W.heap.size W _ => hb1
        rename World => W1
        have HT1 := hide ((unhide HTW).kept hb1)
        have HB1 := hide ((hb1.block bx (unhide HSZ).2.1).trans (unhide HBX))
        have HK1 := hide ((unhide HKW).trans (keeps_of_below hb1 _))
        have hs1 := hb1.size
        clear hb1 d0 x0 x1 x2 s0 s1 s2 hz1 hz2 hz3
        by_cases hcz : cmpS (par k) (lst k) p c.toNat = 0
        · have HNP := hide ((unhide HCZ).1 hcz)
          have hcb : (cmpS (par k) (lst k) p c.toNat != 0) = false := by simp [hcz]
          have nbe : ¬ bt = be := (unhide HT1).ne.2.1
          obtain ⟨f0, f1, f2, f3, f4⟩ := (unhide HT1).facts (World.grownBy.refl _ _) him
          clear hcz
          go_wp2
          go_roundw
          case rel =>
            have hlv : lev ps os (l + 1) S (j + 1) = push Sj ((pat ps i).take (l + 1)) := by rw [lev, unhide HSj, unhide Hii]
            have hev : endsTo ps os (l + 1) S E (j + 1) = upd Ej i ((push Sj ((pat ps i).take (l + 1))).length - 1 : Nat) := by rw [endsTo, hlv, unhide HEj, unhide Hii]
            obtain ⟨r1, r2⟩ := notPushed (i := i) (unhide HKk) (unhide HT1) (unhide HNP)
            first | refine ⟨j + 1, g, cap, par, lst, by go_num, hlt, ?_, ?_, HG⟩ | ((repeat apply Exists.intro); refine ⟨⟨j + 1, g, cap, par, lst, by go_num, hlt, ?_, ?_, HG⟩, rfl⟩)
            · rw [hlv, hev]; exact hide r1
            · exact hide ((unhide HK1).other r2 (unhide HG))
          case measure => simp [intOf]; omega
        · have HNP := hide (fun e => hcz ((unhide HCZ).2 e))
          have hcb : (cmpS (par k) (lst k) p c.toNat != 0) = true := by simp [hcz]
          clear hcz
          have e0 : W1.cell? ⟨bt, 0, none⟩ = some (.slice (some ⟨g, 0, none⟩) (k + 1) cap) := by rw [cell_of_blk (unhide HT1).blk, unhide HKk]; rfl
          have x0 : W1.cell? ⟨bx, 0, none⟩ = some (.int .i64 p) := by rw [cell_of_blk (unhide HB1)]; rfl
          have x1 : W1.cell? ⟨bx, 1, none⟩ = some (.int .u8 c.toNat) := by rw [cell_of_blk (unhide HB1)]; rfl
          have x2 : W1.cell? ⟨bx, 2, none⟩ = some (.int .i64 0) := by rw [cell_of_blk (unhide HB1)]; rfl
          have HOWN : Hid ((W1.alloc (.cells #[.int .i64 p, .int .u8 c.toNat, .int .i64 0] 163)).drew.ownsRow base 163 3 (.slice (some ⟨g, 0, none⟩) (k + 1) cap) (k + 1) (cellsF par lst (fun _ => 0) (k + 1))) := hide (by
            have := ((unhide HT1).row.alloc (.cells #[.int .i64 p, .int .u8 c.toNat, .int .i64 0] 163)).drew
            rw [unhide HKk] at this
            exact this)
          have HNEW : Hid (∀ j u, [Value.int .i64 p, .int .u8 c.toNat, .int .i64 0][j]? = some u → (W1.alloc (.cells #[.int .i64 p, .int .u8 c.toNat, .int .i64 0] 163)).drew.cell? ((⟨W1.heap.size, 0, none⟩ : Addr).add j) = some u) := hide (World.news_of_block (box_new (w := W1)))
          have hbW1 : base ≤ W1.heap.size := by have := unhide HSZ; omega
          have HTA := hide ((unhide HT1).kept (w' := (W1.alloc (.cells #[.int .i64 p, .int .u8 c.toNat, .int .i64 0] 163)).drew) ((Below.refl _ _).alloc (Nat.le_refl _) _).drew)
          have HFA : Hid (∀ w', (W1.alloc (.cells #[.int .i64 p, .int .u8 c.toNat, .int .i64 0] 163)).drew.grownBy w' (some g) → w'.cell? ⟨bt, 0, none⟩ = some (.slice (some ⟨g, 0, none⟩) Sj.length cap) ∧ w'.frozen? ⟨bt, 0, none⟩ = false ∧ w'.cell? ⟨bt, 1, none⟩ = some (.slice (some ⟨be, 0, none⟩) ps.length ps.length) ∧ w'.cell? ⟨be, i, none⟩ = some (.int .i64 (Ej i)) ∧ w'.frozen? ⟨be, i, none⟩ = false) := hide (fun w' h => (unhide HTA).facts h him)
          have hzt : bt < W1.heap.size := by have := unhide HSZ; omega
          have nbe : ¬ bt = be := (unhide HT1).ne.2.1
          go_wp2
          go_region_law (refine step_append_lies _ rfl (.tmp 58) (.tmp 60) 123 rfl base 163 i0 _ 3 24 Tryz.underlying123 hi hz0 hz1 hz2 rfl (by decide) _ (k + 1) (cellsF par lst (fun _ => 0) (k + 1)) (by simp [Act.eval]) (unhide HOWN) ⟨W1.heap.size, 0, none⟩ 1 1 [.int .i64 p, .int .u8 c.toNat, .int .i64 0] (by simp [Act.eval]) rfl (unhide HNEW) (by intro u hu; simp at hu; rcases hu with rfl | rfl | rfl <;> rfl) (by omega) (by unfold maxLen; omega) (by omega) (by simp; omega) _ rfl ?_; intro g' cap' w' hown' hgrow hat hlt'; have HOW := hide hown'; have HGW := hide hgrow; have HAW := hide hat; obtain ⟨f0, f1, f2, f3, f4⟩ := unhide HFA w' hgrow; clear hown' hgrow hat)
          all_goals go_wp2
          all_goals go_roundw
          all_goals try case measure => simp [intOf]; omega
          all_goals
            case rel =>
              have hsr := unhide HSR (j + 1) (by omega)
              have hlv : lev ps os (l + 1) S (j + 1) = push Sj ((pat ps i).take (l + 1)) := by rw [lev, unhide HSj, unhide Hii]
              have hev : endsTo ps os (l + 1) S E (j + 1) = upd Ej i ((push Sj ((pat ps i).take (l + 1))).length - 1 : Nat) := by rw [endsTo, hlv, unhide HEj, unhide Hii]
              rw [hlv] at hsr
              obtain ⟨r1, r2, r3⟩ := pushed (i := i) (unhide HKk) (unhide HT1) (unhide HXS) (unhide HNP) hsr (by have := unhide HSZ; omega) (unhide HOW) (unhide HGW) (unhide HAW)
              first | refine ⟨j + 1, g', cap', upd par (k + 1) p, upd lst (k + 1) c.toNat, by go_num, hlt, ?_, ?_, ?_⟩ | ((repeat apply Exists.intro); refine ⟨⟨j + 1, g', cap', upd par (k + 1) p, upd lst (k + 1) c.toNat, by go_num, hlt, ?_, ?_, ?_⟩, rfl⟩)
              · rw [hlv, hev]; exact hide r1
              · exact hide ((unhide HK1).other r2 (unhide HG))
              · exact hide (by have := unhide HG; have := (unhide HK1).size; omega)
    · obtain rfl : j = os.length := by omega
      go_wp2
      go_end0
      exact ⟨g, cap, par, lst, rfl, unhide HTr, unhide HK, unhide HG⟩
end Go.Proofs.YtibkhphbilfckaaGreatDoor
