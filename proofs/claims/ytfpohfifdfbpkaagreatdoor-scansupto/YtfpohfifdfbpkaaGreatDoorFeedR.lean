import Derived.Test.YtfpohfifdfbpkaaGreatDoorFedDef
import Derived.Test.YtfpohfifdfbpkaaGreatDoorRef
namespace Go.Proofs.YtfpohfifdfbpkaaGreatDoor
open Go.RowKit Scour Go.Lib
theorem same_strF {a b : Str} : ((⟨a.toArray⟩ : ByteArray).toList == (⟨b.toArray⟩ : ByteArray).toList) = decide (a = b) := by
 rw [ByteArray.toList_eq, ByteArray.toList_eq, Bool.eq_iff_iff]; simp
theorem suffix_drop {x y : Str} : y <:+ x ↔ x.drop (x.length - y.length) = y := by
 rw [List.suffix_iff_eq_drop]; exact eq_comm
set_option maxHeartbeats 1000000 in
theorem rends_any (x y : Str) (w : World) (hx : x.length < 9000000000000000000) (hy : y.length < 9000000000000000000) :
  Calls Tryz.prog 126 #[.string ⟨x.toArray⟩, .string ⟨y.toArray⟩] w fun e w' => e = .returned (.bool (decide (y <:+ x))) /\ w' = w := by
 have hxz : (⟨x.toArray⟩ : ByteArray).size = x.length := by simp [ByteArray.size]
 have hyz : (⟨y.toArray⟩ : ByteArray).size = y.length := by simp [ByteArray.size]
 have HEX := zB (jT x (x.length - y.length))
 obtain ⟨tx, htx⟩ : ∃ tx, tx = (⟨x.toArray⟩ : ByteArray) := ⟨_, rfl⟩
 obtain ⟨ty, hty⟩ : ∃ ty, ty = (⟨y.toArray⟩ : ByteArray) := ⟨_, rfl⟩
 rw [← htx, ← hty]
 rw [← htx] at hxz HEX
 rw [← hty] at hyz
 by_cases hl : y.length <= x.length
 ·have HD : Hid (((tx.extract (x.length - y.length) x.length).toList == ty.toList) = decide (y <:+ x)) := zB (by
   have h1 := zA HEX
   rw [hxz] at h1
   rw [h1, hty, same_strF, decide_eq_decide, suffix_drop])
  have i1 : (ty.size : Int) <= (tx.size : Int) := by omega
  have i2 : decide ((ty.size : Int) <= (tx.size : Int)) = true := decide_eq_true i1
  clear htx hty HEX
  go_enter Tryz.func126, Tryz.ntmps126
  go_wp2
  go_ret
  rw [zA HD]
  exact ⟨rfl, rfl⟩
 ·have HD : Hid (decide (y <:+ x) = false) := zB (decide_eq_false (fun h => hl h.length_le))
  have i1 : ¬ (ty.size : Int) <= (tx.size : Int) := by omega
  have i2 : decide ((ty.size : Int) <= (tx.size : Int)) = false := decide_eq_false i1
  clear htx hty HEX
  go_enter Tryz.func126, Tryz.ntmps126
  go_wp2
  go_ret
  rw [zA HD]
  exact ⟨rfl, rfl⟩
def jA (ps : List Str) (t : Str) : Nat -> List Nat
 | 0 => []
 | j + 1 => jA ps t j ++ endsN ps t (64 - j)
theorem endsDone_to (ps : List Str) (t : Str) : ∀ j, j <= 64 -> jA ps t j ++ jE ps t (64 - j) = jJ ps t
 | 0, _ => rfl
 | j + 1, h => by
   rw [jA, List.append_assoc]
   have ih := endsDone_to ps t j (by omega)
   rw [show 64 - j = (64 - (j + 1)) + 1 by omega] at ih ⊢
   rw [jE] at ih
   exact ih
theorem endsDone_all (ps : List Str) (t : Str) : jA ps t 64 = jJ ps t := by
 have := endsDone_to ps t 64 (Nat.le_refl _)
 simpa [jE] using this
def jM (ps : List Str) (t : Str) (n k : Nat) : List Nat := (List.range k).filter fun i => decide ((pat ps i).length = n /\ pat ps i <:+ t)
theorem endsPart_succ (ps : List Str) (t : Str) (n k : Nat) : jM ps t n (k + 1) = jM ps t n k ++ if (pat ps k).length = n /\ pat ps k <:+ t then [k] else [] := by
 unfold jM
 rw [List.range_succ, List.filter_append]
 congr 1
 by_cases h : (pat ps k).length = n /\ pat ps k <:+ t
 ·rw [if_pos h, List.filter_cons, if_pos (decide_eq_true h)]; rfl
 ·rw [if_neg h, List.filter_cons, decide_eq_false h]; rfl
theorem endsPart_all (ps : List Str) (t : Str) (n : Nat) : jM ps t n ps.length = endsN ps t n := rfl
theorem endsDone_len (ps : List Str) (t : Str) (j k : Nat) (hj : j < 64) (hk : k <= ps.length) : (jA ps t j ++ jM ps t (64 - j) k).length <= ps.length := by
 have h1 := endsDone_to ps t (j + 1) (by omega)
 have h2 := endsAll_len ps t
 rw [← h1, jA] at h2
 simp only [List.length_append] at h2 ⊢
 have h3 : (jM ps t (64 - j) k).length <= (endsN ps t (64 - j)).length := by
  rw [← endsPart_all]
  unfold jM
  have : List.range ps.length = List.range k ++ (List.range (ps.length - k)).map (k + ·) := by
   rw [← List.range_add, Nat.add_sub_cancel' hk]
  rw [this, List.filter_append, List.length_append]
  omega
 omega
structure FdSt (w wr : World) (bx br : Nat) (x : Str) (v : Value) (l : List (Nat × Nat)) : Prop where
 blk : wr.heap[bx]? = some (.cells #[.pointer (some ⟨br, 0, none⟩), .string ⟨x.toArray⟩] 188 (0, 0))
 row : wr.ownsRow w.heap.size 49 2 v l.length (ze l)
 fr : w.grownBy wr (some bx)
theorem grown_drewN {w wr : World} {r : Option Nat} (h : w.grownBy wr r) (n : Nat) : w.grownBy (wr.drewN n) r := by
 have hd : Below wr.heap.size wr (wr.drewN n) := below_drewN (Below.refl _ _) n
 exact ⟨hd.os.trans h.os, hd.tape.trans h.tape, hd.output.trans h.output, Nat.le_trans h.size hd.size, fun k hk hr => (hd.block k (Nat.lt_of_lt_of_le hk h.size)).trans (h.block k hk hr)⟩
theorem FdSt.drewN {w wr : World} {bx br : Nat} {x : Str} {v : Value} {l : List (Nat × Nat)} (h : FdSt w wr bx br x v l) (n : Nat) : FdSt w (wr.drewN n) bx br x v l :=
 ⟨h.blk, h.row, grown_drewN h.fr n⟩
theorem FdSt.text {w wr : World} {bx br : Nat} {x y : Str} {v : Value} {l : List (Nat × Nat)} (h : FdSt w wr bx br x v l) (hbx : bx < w.heap.size) : FdSt w (wr.setCell ⟨bx, 1, none⟩ (.string ⟨y.toArray⟩)) bx br y v l := by
 refine ⟨?_, ?_, ?_⟩
 ·have := heap_setCell_same wr bx 1 _ _ (.string ⟨y.toArray⟩) h.blk
  rw [this]; rfl
 ·exact zE h.row (fun b hl hv => Below.heap_setCell wr _ _ b (fun e => by
   have := (h.row.lt b hv).1
   simp only [] at e
   omega))
 ·refine ⟨h.fr.os, h.fr.tape, h.fr.output, by simp [World.setCell]; exact h.fr.size, fun k hk hr => ?_⟩
  rw [Below.heap_setCell wr _ _ k (fun e => hr (by rw [e]))]
  exact h.fr.block k hk hr
theorem FdSt.more {w wr w4 : World} {bx br p e : Nat} {x : Str} {v : Value} {l : List (Nat × Nat)} (h : FdSt w wr bx br x v l) (hbx : bx < w.heap.size) {g' cap' : Nat} (ho : w4.ownsRow w.heap.size 49 2 (.slice (some ⟨g', 0, none⟩) (l.length + 1) cap') (l.length + 1) (ze l ++ [.int .i64 p, .int .i64 e]))
  (hg : (wr.alloc (.cells #[.int .i64 p, .int .i64 e] 49)).grownBy w4 v.ownBlock) : FdSt w w4 bx br x (.slice (some ⟨g', 0, none⟩) (l.length + 1) cap') (l ++ [(p, e)]) := by
 have hs := h.fr.size
 have hlx := (Array.getElem?_eq_some_iff.1 h.blk).1
 have hno : ∀ k, k < w.heap.size -> some k ≠ v.ownBlock := fun k hk e => by have := (h.row.lt k e.symm).1; omega
 refine ⟨?_, ?_, ?_⟩
 ·rw [hg.block bx (by simp; omega) (hno bx hbx), Below.heap_alloc wr _ bx hlx]
  exact h.blk
 ·rw [List.length_append, mcell_append]
  exact ho
 ·refine ⟨hg.os.trans h.fr.os, hg.tape.trans h.fr.tape, hg.output.trans h.fr.output, Nat.le_trans hs (Nat.le_trans (by simp) hg.size), fun k hk hr => ?_⟩
  rw [hg.block k (by simp; omega) (hno k hk), Below.heap_alloc wr _ k (by omega)]
  exact h.fr.block k hk hr
set_option maxHeartbeats 8000000 in
set_option maxRecDepth 100000 in
theorem rfeed_any (bx br gS cS : Nat) (vL : Value) (ps S : List Str) (t b : Str) (w : World) (hx : w.heap[bx]? = some (.cells #[.pointer (some ⟨br, 0, none⟩), .string ⟨t.toArray⟩] 188 (0, 0))) (hR : yZ w br vL gS cS ps S) (hps : ps.length <= 64) (hpl : ∀ i, i < ps.length -> (pat ps i).length <= 64)
  (ht : t.length < 1000000000000000000) (hb : b.length < 1000000000) :
  Calls Tryz.prog 91 #[.pointer (some ⟨bx, 0, none⟩), .string ⟨b.toArray⟩] w fun e w' => ∃ v, e = .returned v /\ FdSt w w' bx br (t ++ b) v (zJ ps t b) := by
 obtain ⟨i0, hi, hz0, hz1, hz2⟩ := info_parts Tryz.infoM
 have hbx := (Array.getElem?_eq_some_iff.1 hx).1
 have hbr := (Array.getElem?_eq_some_iff.1 hR.blk).1
 have hne : br ≠ bx := zH hR.blk hx (by decide)
 have cr : w.cell? ⟨br, 0, none⟩ = some vL := by rw [zC hR.blk]; rfl
 obtain ⟨aL, cL, hvL⟩ : ∃ aL cL, vL = .slice aL ps.length cL := by
  rcases hR.lrow.2 with ⟨h, h0⟩ | ⟨g, cap, cur, h, _⟩
  ·exact ⟨none, 0, by rw [h, h0]⟩
  ·exact ⟨_, cap, h⟩
 subst hvL
 have HLC : Hid (∀ i, i < ps.length -> ∃ gL, gL < w.heap.size /\ gL ≠ bx /\ aL = some ⟨gL, 0, none⟩ /\ w.cell? ⟨gL, i, none⟩ = some (.string ⟨(pat ps i).toArray⟩)) := zB (fun i hi => by
  rcases hR.lrow.2 with ⟨h, h1⟩ | ⟨gL, cap, cur, h, _, hg, _⟩
  ·omega
  ·obtain ⟨rfl, rfl⟩ : aL = some ⟨gL, 0, none⟩ /\ cL = cap := by simpa using h
   exact ⟨gL, (Array.getElem?_eq_some_iff.1 hg).1, zH hg hx (by decide), rfl, cellT hR.lrow rfl i hi⟩)
 have HCR : Hid (∀ wr x v l, FdSt w wr bx br x v l -> wr.cell? ⟨br, 0, none⟩ = some (.slice aL ps.length cL) /\ wr.cell? ⟨bx, 0, none⟩ = some (.pointer (some ⟨br, 0, none⟩)) /\ wr.cell? ⟨bx, 1, none⟩ = some (.string ⟨x.toArray⟩) /\ wr.frozen? ⟨bx, 1, none⟩ = false) := zB (fun wr x v l h => by
  refine ⟨?_, by rw [zC h.blk]; rfl, by rw [zC h.blk]; rfl, frozen_of_row wr _ _ _ _ h.blk⟩
  rw [World.cell?_of_block (a := ⟨br, 0, none⟩) (h.fr.block br hbr (by simp; exact hne))]; exact cr)
 have HCL : Hid (∀ wr x v l i, FdSt w wr bx br x v l -> i < ps.length -> ∃ gL, aL = some ⟨gL, 0, none⟩ /\ wr.cell? ⟨gL, i, none⟩ = some (.string ⟨(pat ps i).toArray⟩)) := zB (fun wr x v l i h hi => by
  obtain ⟨gL, h1, h2, h3, h4⟩ := zA HLC i hi
  refine ⟨gL, h3, ?_⟩
  rw [World.cell?_of_block (a := ⟨gL, i, none⟩) (h.fr.block gL h1 (by simp; exact h2))]; exact h4)
 have HST : Hid (FdSt w w bx br (t ++ b.take 0) (.slice none 0 0) (zJ ps t (b.take 0))) := zB ⟨by simpa using hx, World.ownsRow_nil _ _ _ _, ⟨rfl, rfl, rfl, Nat.le_refl _, fun _ _ _ => rfl⟩⟩
 have hbz : (⟨b.toArray⟩ : ByteArray).size = b.length := by simp [ByteArray.size]
 have HEX : Hid (∀ k x, k < b.length -> (⟨x.toArray⟩ : ByteArray) ++ (⟨b.toArray⟩ : ByteArray).extract k (k + 1) = ⟨(x ++ [b.getD k 0]).toArray⟩) := zB (fun k x hk => by
  apply ByteArray.ext
  simp [ByteArray.data_extract, List.getD, hk]
  rw [List.take_add_one]
  simp [hk])
 have HPL := zB hpl
 clear hx hR cr HLC hne hpl
 obtain ⟨tb, htb⟩ : ∃ tb, tb = (⟨b.toArray⟩ : ByteArray) := ⟨_, rfl⟩
 rw [← htb] at hbz HEX ⊢
 clear htb
 go_enter Tryz.func91, Tryz.ntmps91
 go_wp2
 go_loopw [5, 6] (fun v5 v6 wr => ∃ k : Nat, v6 = .int .i64 k /\ k <= b.length /\ Hid (FdSt w wr bx br (t ++ b.take k) v5 (zJ ps t (b.take k)))) (fun _ v6 _ => b.length - (intOf v6).toNat)
 case atStart => exact ⟨0, rfl, Nat.zero_le _, HST⟩
 case round =>
  obtain ⟨k, rfl, hk, HF⟩ := hrel
  by_cases hlt : k < b.length
  ·have i1 : (k : Int) < (tb.size : Int) := by omega
   obtain ⟨c1, c2, c3, f3⟩ := zA HCR _ _ _ _ (zA HF)
   have hxl : (t ++ b.take k).length <= t.length + b.length := by simp; omega
   have HX := zB (zA HEX k (t ++ b.take k) hlt)
   have HTK : Hid (b.take (k + 1) = b.take k ++ [b.getD k 0]) := zB (by rw [List.take_add_one]; simp [List.getD, hlt])
   have HF0 : Hid (FdSt w wr bx br (t ++ b.take k) u5 (zJ ps t (b.take k))) := HF
   generalize hX : t ++ b.take k = X at HF c3 HX hxl
   obtain ⟨tx, htx⟩ : ∃ tx, tx = (⟨X.toArray⟩ : ByteArray) := ⟨_, rfl⟩
   have htz : tx.size = X.length := by rw [htx]; simp [ByteArray.size]
   rw [← htx] at c3 HX
   have hex : (tb.extract k (k + 1)).size = 1 := by rw [ByteArray.size_extract]; omega
   obtain ⟨ty, hty⟩ : ∃ ty, ty = tb.extract k (k + 1) := ⟨_, rfl⟩
   rw [← hty] at hex HX
   have HTY := zB hty.symm
   have cc1 : ¬ 9223372036854775807 < tx.size + 1 := by omega
   have hwj : IntKind.i64.wrap ((k : Int) + 1) = (k : Int) + 1 := by rw [IntKind.wrap_i64]; omega
   have hjn : ((k : Int) + 1).toNat = k + 1 := by omega
   have hty2 := zA HTY
   have j0 : (0 : Int) <= (k : Int) := by omega
   have j1' : (k : Int) <= (k : Int) + 1 := by omega
   have j2' : (k : Int) + 1 <= (tb.size : Int) := by omega
   have HXX := zB hX
   clear hty hX htx
   go_wp2_with fail
   have HF1 : Hid (FdSt w ((wr.setCell ⟨bx, 1, none⟩ (.string (tx ++ ty))).drewN 1) bx br (t ++ b.take (k + 1)) u5 (zJ ps t (b.take k))) := zB (by
    have := ((zA HF0).text (y := t ++ b.take (k + 1)) hbx).drewN 1
    rw [zA HX, ← zA HXX, List.append_assoc, ← zA HTK]; exact this)
   have hXl : (t ++ b.take (k + 1)).length = t.length + k + 1 := by simp; omega
   have HFS : Hid (zJ ps t (b.take (k + 1)) = zJ ps t (b.take k) ++ (jJ ps (t ++ b.take (k + 1))).map (fun p => (p, t.length + k + 1))) := zB (by
    rw [zA HTK, feedS_append, zJ, zJ, List.append_nil, List.append_assoc]
    congr 2
    funext p
    simp; omega)
   have hfl := yB ps (b.take k) t
   have hfl2 : (zJ ps t (b.take k)).length <= 64 * b.length := Nat.le_trans hfl (Nat.le_trans (Nat.mul_le_mul hps (by simp; omega)) (Nat.le_refl _))
   go_region
   go_wp2_with fail
   clear hfl
   generalize hYY : t ++ b.take (k + 1) = Y at *
   have HYY := zB hYY.symm
   clear hYY
   generalize zJ ps t (b.take k) = L0 at *
   have hps2 : ps.length <= 64 := hps
   clear c1 c2 c3 f3 HF HF0 HX HXX HTK HTY hty2 hex htz cc1 hwj hjn j0 j1' j2' hxl
   go_loopw [5, 7] (fun v5 v7 wz => ∃ j : Nat, v7 = .int .i64 (64 - (j : Int)) /\ j <= 64 /\ Hid (FdSt w wz bx br Y v5 (L0 ++ (jA ps Y j).map (fun p => (p, t.length + k + 1))))) (fun _ v7 _ => (intOf v7).toNat)
   case atStart => exact ⟨0, rfl, Nat.zero_le _, zB (by rw [jA, List.map_nil, List.append_nil]; exact zA HF1)⟩
   case round =>
    obtain ⟨j, rfl, hj, HJ⟩ := hrel
    by_cases hj4 : j < 64
    ·have q1 : (1 : Int) <= 64 - (j : Int) := by omega
     go_wp2_with fail
     go_loopw [5, 8] (fun v5 v8 wz => ∃ q : Nat, v8 = .int .i64 q /\ q <= ps.length /\ Hid (FdSt w wz bx br Y v5 (L0 ++ (jA ps Y j ++ jM ps Y (64 - j) q).map (fun p => (p, t.length + k + 1))))) (fun _ v8 _ => ps.length - (intOf v8).toNat)
     case atStart => exact ⟨0, rfl, Nat.zero_le _, zB (by rw [show jM ps Y (64 - j) 0 = [] from rfl, List.append_nil]; exact zA HJ)⟩
     case round =>
      obtain ⟨q, rfl, hq, HQ⟩ := hrel
      obtain ⟨c1, c2, c3, f3⟩ := zA HCR _ _ _ _ (zA HQ)
      by_cases hqp : q < ps.length
      ·obtain ⟨gL, hgL, c4⟩ := zA HCL _ _ _ _ q (zA HQ) hqp
       subst hgL
       have i1 : (q : Int) < (ps.length : Int) := by omega
       have i2 : (0 : Int) <= (q : Int) := by omega
       have hpq := zA HPL q hqp
       have hdl := endsDone_len ps Y j q hj4 (by omega)
       have HSU := zB (endsPart_succ ps Y (64 - j) q)
       have HEN : Hid (∀ W, Calls Tryz.prog 126 #[.string ⟨Y.toArray⟩, .string ⟨(pat ps q).toArray⟩] W fun e w' => e = .returned (.bool (decide (pat ps q <:+ Y))) /\ w' = W) := zB (fun W => rends_any Y (pat ps q) W (by omega) (by omega))
       have hpz : (⟨(pat ps q).toArray⟩ : ByteArray).size = (pat ps q).length := by simp [ByteArray.size]
       obtain ⟨tY, htY⟩ : ∃ tY, tY = (⟨Y.toArray⟩ : ByteArray) := ⟨_, rfl⟩
       obtain ⟨tp, htp⟩ : ∃ tp, tp = (⟨(pat ps q).toArray⟩ : ByteArray) := ⟨_, rfl⟩
       have hYz : tY.size = t.length + k + 1 := by rw [htY, ← hXl]; simp [ByteArray.size]
       rw [← htY] at c3 HEN
       rw [← htp] at c4 HEN hpz
       clear htY htp
       have HPZ := zB hpz
       have HYZ := zB hYz
       have htp1 : tp.size <= 64 := by omega
       have htY1 : tY.size < 9000000000000000000 := by omega
       clear hYz
       by_cases hpn : (pat ps q).length = 64 - j
       ·have g1 : (((tp.size : Nat) : Int) == 64 - (j : Int)) = true := by simp; omega
        clear hpz
        by_cases hsf : pat ps q <:+ Y
        ·rw [decide_eq_true hsf] at HEN
         rw [if_pos ⟨hpn, hsf⟩] at HSU
         clear hsf
         go_wp2_with fail
         go_quiet ((go_at_call 126; exact Calls.quiet_of_same (zA HEN _)))
         have HQ2 := zB ((zA HQ).drewN nq)
         have hll : (L0 ++ (jA ps Y j ++ jM ps Y (64 - j) q).map (fun p => (p, t.length + k + 1))).length <= 64 * b.length + 64 := by
          rw [List.length_append, List.length_map]; omega
         have HLN : Hid (∀ v w5, FdSt w w5 bx br Y v (L0 ++ (jA ps Y j ++ jM ps Y (64 - j) q).map (fun p => (p, t.length + k + 1)) ++ [(q, tY.size)]) -> FdSt w w5 bx br Y v (L0 ++ (jA ps Y j ++ jM ps Y (64 - j) (q + 1)).map (fun p => (p, t.length + k + 1)))) := zB (fun v w5 h => by
          rw [zA HSU, ← List.append_assoc, List.map_append, ← List.append_assoc]
          rw [zA HYZ] at h
          exact h)
         have z3 : (wr.drewN nq).cell? ⟨bx, 1, none⟩ = some (.string tY) := c3
         generalize L0 ++ (jA ps Y j ++ jM ps Y (64 - j) q).map (fun p => (p, t.length + k + 1)) = l at HQ2 hll HLN
         clear HQ c1 c2 c3 f3 HEN HSU
         generalize wr.drewN nq = wz at *
         have HOWN : Hid ((wz.alloc (.cells #[.int .i64 q, .int .i64 tY.size] 49)).ownsRow w.heap.size 49 2 u5 l.length (ze l)) := zB ((zA HQ2).row.alloc _)
         have hszz := (zA HQ2).fr.size
         go_wp2_with (at_builtin; refine wpList_append_lies _ rfl (.tmp 76) (.tmp 84) 42 rfl w.heap.size 49 i0 _ 2 16 Tryz.underlying42 hi hz0 hz1 hz2 rfl (by decide) _ l.length (ze l) rfl (zA HOWN) ⟨wz.heap.size, 0, none⟩ 1 1 [.int .i64 q, .int .i64 tY.size] rfl rfl (World.news_of_block (heap_alloc_new wz _)) (by intro u hu; simp at hu; rcases hu with rfl | rfl <;> rfl) (by omega) (by unfold maxLen; omega) (by omega) (by simp; omega) (wz.heap.size + 1) (by simp) ?_; intro g' cap' w4 ho hg hat hlt4; have HN4 := zB (zA HLN _ _ ((zA HQ2).more hbx ho hg)); clear ho hg hat hlt4)
         go_roundw
         case rel => exact ⟨q + 1, by go_num, hqp, HN4⟩
         case measure => simp [intOf]; omega
        ·rw [decide_eq_false hsf] at HEN
         rw [if_neg (fun h => hsf h.2), List.append_nil] at HSU
         go_wp2_with fail
         go_quiet ((go_at_call 126; exact Calls.quiet_of_same (zA HEN _)))
         go_wp2_with fail
         go_roundw
         case rel => exact ⟨q + 1, by go_num, hqp, zB (by rw [zA HSU]; exact (zA HQ).drewN _)⟩
         case measure => simp [intOf]; omega
       ·have g1 : (((tp.size : Nat) : Int) == 64 - (j : Int)) = false := by simp; omega
        clear hpz
        rw [if_neg (fun h => hpn h.1), List.append_nil] at HSU
        go_wp2_with fail
        go_quiet (fail)
        go_wp2_with fail
        go_roundw
        case rel => exact ⟨q + 1, by go_num, hqp, zB (by rw [zA HSU]; exact (zA HQ).drewN _)⟩
        case measure => simp [intOf]; omega
      ·obtain rfl : q = ps.length := by omega
       have i1 : ¬ (ps.length : Int) < (ps.length : Int) := by omega
       go_wp2_with fail
       go_roundw
       case rel => exact ⟨j + 1, by simp; omega, by omega, zB (by rw [jA, ← endsPart_all]; exact zA HQ)⟩
       case measure => simp [intOf]; omega
    ·obtain rfl : j = 64 := by omega
     have q1 : ¬ (1 : Int) <= 64 - ((64 : Nat) : Int) := by omega
     go_wp2_with fail
     go_roundw
     case rel => exact ⟨k + 1, by go_num, hlt, zB (by have := zA HJ; rw [endsDone_all, ← zA HFS] at this; rw [← zA HYY]; exact this)⟩
     case measure => simp [intOf]; omega
  ·obtain rfl : k = b.length := by omega
   have i1 : ¬ (b.length : Int) < (tb.size : Int) := by omega
   go_wp2_with fail
   go_ret
   have := zA HF
   rw [List.take_length] at this
   exact ⟨_, rfl, this⟩
end Go.Proofs.YtfpohfifdfbpkaaGreatDoor
