import Derived.Test.YtfpohfifdfbpkaaGreatDoorPkF
import Derived.Deep.LoopGhost
namespace Go.Proofs.YtfpohfifdfbpkaaGreatDoor
open Go.RowKit Scour Go.Lib Go.Shelf
structure Tab (w : World) (bp : Nat) (R : List Value) (vC vO vX : Value) (c : Str) (n : Nat) (o : Nat -> Int) (cl : List (Int × Int)) : Prop where
 blk : w.heap[bp]? = some (.cells (vC :: vO :: vX :: R).toArray 118 (0, 0))
 cls : w.ownsRow 0 5 1 vC c.length (c.map zT)
 off : w.ownsRow 0 3 1 vO n (zZ o n)
 cel : w.ownsRow 0 147 2 vX cl.length (zv cl)
theorem Tab.same {w w' : World} {bp : Nat} {R : List Value} {vC vO vX : Value} {c : Str} {n : Nat} {o : Nat -> Int} {cl : List (Int × Int)} (h : Tab w bp R vC vO vX c n o cl) (hb : ∀ k, k < w.heap.size -> (k = bp \/ vC.ownBlock = some k \/ vO.ownBlock = some k \/ vX.ownBlock = some k) -> w'.heap[k]? = w.heap[k]?) : Tab w' bp R vC vO vX c n o cl :=
 ⟨(hb bp (Array.getElem?_eq_some_iff.1 h.blk).1 (Or.inl rfl)).trans h.blk, zE h.cls (fun b hl hv => hb b hl (Or.inr (Or.inl hv))), zE h.off (fun b hl hv => hb b hl (Or.inr (Or.inr (Or.inl hv)))), zE h.cel (fun b hl hv => hb b hl (Or.inr (Or.inr (Or.inr hv))))⟩
theorem Tab.below {w w' : World} {bp : Nat} {R : List Value} {vC vO vX : Value} {c : Str} {n : Nat} {o : Nat -> Int} {cl : List (Int × Int)} (h : Tab w bp R vC vO vX c n o cl) (hb : Below w.heap.size w w') : Tab w' bp R vC vO vX c n o cl := h.same (fun k hk _ => hb.block k hk)
structure COK (cl : List (Int × Int)) : Prop where
 st : ∀ q, q ∈ cl -> q.1 = -1 \/ 1 <= q.1
 len : cl.length < 100000000
theorem cellsP_get {cl : List (Int × Int)} {i : Nat} (hi : i < cl.length) : (zv cl)[i * 2]? = some (.int .i64 (cl.getD i (0, 0)).1) /\ (zv cl)[i * 2 + 1]? = some (.int .i64 (cl.getD i (0, 0)).2) :=
 cellsV_get cl i (cl.getD i (0, 0)) (by simp [List.getD, hi])
theorem cellsP_len (cl : List (Int × Int)) : (zv cl).length = cl.length * 2 := cellsV_len cl
theorem COK.taken {cl : List (Int × Int)} (h : COK cl) {i : Nat} (hi : i < cl.length) : (cl.getD i (0, 0)).1 = -1 ↔ (cl.getD i (0, 0)).1 < 0 := by
 have hm : cl.getD i (0, 0) ∈ cl := by simp [List.getD, hi]
 have := h.st _ hm
 omega
theorem encPs_get {w : World} {g m cap : Nat} {l : List (Nat × Nat)} (h : w.ownsRow 0 218 2 (.slice (some ⟨g, 0, none⟩) m cap) m (encP l)) (hm : l.length = m) (k : Nat) (hk : k < m) : w.cell? ⟨g, k * 2, none⟩ = some (.int .i64 ((l.getD k (0, 0)).1 : Nat)) /\ w.cell? ⟨g, k * 2 + 1, none⟩ = some (.int .i64 ((l.getD k (0, 0)).2 : Nat)) := by
 have hg := encP_get l k (l.getD k (0, 0)) (by simp [List.getD, show k < l.length by omega])
 have hl := encP_len2 l
 rw [show 2 * k = k * 2 by omega] at hg
 exact ⟨by rw [h.cellAt (k * 2) (by omega)]; exact hg.1, by rw [h.cellAt (k * 2 + 1) (by omega)]; exact hg.2⟩
set_option maxHeartbeats 8000000 in
set_option maxRecDepth 100000 in
theorem fits_any (bp : Nat) (R : List Value) (vC vO vX : Value) (c : Str) (n : Nat) (o : Nat -> Int) (cl : List (Int × Int)) (w : World) (hT : Tab w bp R vC vO vX c n o cl) (hC : COK cl) (s ge m ce a : Nat) (l : List (Nat × Nat)) (hm : l.length = m) (hE : w.ownsRow 0 218 2 (.slice (some ⟨ge, 0, none⟩) m ce) m (encP l)) (hl : ∀ p, p ∈ l -> p.1 < 1000) (hm2 : m <= 256) (ha : a < 100000000) :
  Calls Tryz.prog 120 #[.pointer (some ⟨bp, 0, none⟩), .agg #[.int .i64 (s : Nat), .slice (some ⟨ge, 0, none⟩) m ce], .int .i64 a] w fun e w' => e = .returned (.bool (yo cl l a)) /\ Below w.heap.size w w' := by
 obtain ⟨aX, cX, hvX⟩ : ∃ aX cX, vX = .slice aX cl.length cX := by
  rcases zV hT.cel with ⟨h1, h2⟩ | ⟨g, cc, h1, _⟩
  ·exact ⟨none, 0, by rw [h1, h2]⟩
  ·exact ⟨_, cc, h1⟩
 subst hvX
 have HC2 : Hid (∀ W, Below w.heap.size w W -> W.cell? ⟨bp, 2, none⟩ = some (.slice aX cl.length cX)) := zB (fun W hb => by rw [zC (hT.below hb).blk]; rfl)
 have HCC : Hid (∀ W k, Below w.heap.size w W -> k < cl.length -> ∃ gX, aX = some ⟨gX, 0, none⟩ /\ W.cell? ⟨gX, k * 2, none⟩ = some (.int .i64 (cl.getD k (0, 0)).1)) := zB (by
  intro W k hb hk
  rcases zV (hT.below hb).cel with ⟨h1, h2⟩ | ⟨g, cc, h1, _⟩
  ·omega
  ·obtain ⟨rfl, rfl⟩ : aX = some ⟨g, 0, none⟩ /\ cX = cc := by simpa using h1
   refine ⟨g, rfl, ?_⟩
   have := cellsP_len cl
   rw [(hT.below hb).cel.cellAt (k * 2) (by omega)]
   exact (cellsP_get hk).1)
 have HEE : Hid (∀ W k, Below w.heap.size w W -> k < m -> W.cell? ⟨ge, k * 2, none⟩ = some (.int .i64 ((l.getD k (0, 0)).1 : Nat)) /\ W.cell? ⟨ge, k * 2 + 1, none⟩ = some (.int .i64 ((l.getD k (0, 0)).2 : Nat))) := zB (fun W k hb hk => encPs_get (zE hE (fun b hl _ => hb.block b hl)) hm k hk)
 have HL := zB hl
 have HM := zB hm
 have HK := zB hC
 have hcl := hC.len
 clear hT hC hE hl hm
 go_enter Tryz.func120, Tryz.ntmps120
 go_wp2
 go_loopw [13] (fun v wr => ∃ k : Nat, v = .int .i64 k /\ k <= m /\ Hid (yo cl (l.take k) a = true) /\ Hid (Below w.heap.size w wr)) (fun v _ => m - (intOf v).toNat)
 case atStart => exact ⟨0, rfl, Nat.zero_le _, zB (by simp [yo]), zB ((Below.refl _ _).alloc (Nat.le_refl _) _)⟩
 case round =>
  obtain ⟨k, rfl, hk, HA, HB⟩ := hrel
  have hsz := (zA HB).size
  by_cases hkm : k < m
  ·obtain ⟨e1, e2⟩ := zA HEE wr k (zA HB) hkm
   have hkl : k < l.length := by rw [zA HM]; exact hkm
   have hpm : l.getD k (0, 0) ∈ l := by simp [List.getD, hkl]
   have hx := zA HL _ hpm
   have ek : l.getD k (0, 0) = l[k] := by simp [List.getD, hkl]
   have HTK : Hid (yo cl (l.take (k + 1)) a = (yo cl (l.take k) a && (decide (cl.length <= a + (l.getD k (0, 0)).1) || decide ((cl.getD (a + (l.getD k (0, 0)).1) (0, 0)).1 < 0)))) := zB (by
    unfold yo
    rw [all_take l _ k hkl, ek])
   have HFL : Hid ((decide (cl.length <= a + (l.getD k (0, 0)).1) || decide ((cl.getD (a + (l.getD k (0, 0)).1) (0, 0)).1 < 0)) = false -> yo cl l a = false) := zB (by
    intro h
    unfold yo
    rw [ek] at h
    exact all_false l _ k hkl h)
   clear ek
   generalize l.getD k (0, 0) = p at *
   obtain ⟨x, y⟩ := p
   simp only [] at e1 e2 hx HTK HFL
   obtain ⟨at', hat⟩ : ∃ at', at' = a + x := ⟨_, rfl⟩
   have hati : (a : Int) + (x : Int) = (at' : Int) := by omega
   rw [← hat] at HTK HFL
   have hW : ∀ ob, Below w.heap.size w (wr.alloc ob) := fun ob => (zA HB).alloc hsz _
   have HWB := zB hW
   have g2 := fun ob => zA HC2 (wr.alloc ob) (hW ob)
   have hab : at' < 200000000 := by omega
   clear hW hpm hat
   by_cases hac : at' < cl.length
   ·obtain ⟨gX, rfl, hx0⟩ := zA HCC wr at' (zA HB) hac
    have g3 : ∀ ob, (wr.alloc ob).cell? ⟨gX, at' * 2, none⟩ = some (.int .i64 (cl.getD at' (0, 0)).1) := fun ob => by
     obtain ⟨g', e, h'⟩ := zA HCC (wr.alloc ob) at' (zA HWB ob) hac
     obtain rfl : gX = g' := by simpa using e
     exact h'
    have hi1 : (at' : Int) < (cl.length : Int) := by omega
    have HT := zB ((zA HK).taken hac)
    clear hx0
    generalize hst : (cl.getD at' (0, 0)).1 = st at *
    clear hst
    by_cases hst : st = -1
    ·subst hst
     have HN : Hid (yo cl (l.take (k + 1)) a = true) := zB (by rw [zA HTK, zA HA]; simp)
     clear HT HTK HFL
     go_wp2
     go_roundw
     case rel => exact ⟨k + 1, by go_num, hkm, HN, zB (zA HWB _)⟩
     case measure => simp [intOf]; omega
    ·have HN : Hid (yo cl l a = false) := zB (zA HFL (by
      have : ¬ st < 0 := fun h => hst ((zA HT).2 h)
      simp only [decide_eq_false this, Bool.or_false, decide_eq_false_iff_not]
      omega))
     clear HT HTK HFL
     have hsb : ¬ st = -1 := hst
     go_wp2
     go_ret
     exact ⟨by rw [zA HN]; rfl, zA HWB _⟩
   ·have hi1 : ¬ (at' : Int) < (cl.length : Int) := by omega
    have hi2 : decide ((at' : Int) < (cl.length : Int)) = false := by simp; omega
    have HN : Hid (yo cl (l.take (k + 1)) a = true) := zB (by rw [zA HTK, zA HA, decide_eq_true (show cl.length <= at' by omega)]; simp)
    clear HTK HFL
    go_wp2
    go_roundw
    case rel => exact ⟨k + 1, by go_num, hkm, HN, zB (zA HWB _)⟩
    case measure => simp [intOf]; omega
  ·have hkm2 : k = l.length := by rw [zA HM]; omega
   have HN : Hid (yo cl l a = true) := zB (by have := zA HA; rw [hkm2, List.take_length] at this; exact this)
   clear hkm2
   go_wp2
   go_ret
   exact ⟨by rw [zA HN]; rfl, zA HB⟩
end Go.Proofs.YtfpohfifdfbpkaaGreatDoor
namespace Go.Proofs.YtfpohfifdfbpkaaGreatDoor
open Go.RowKit Scour Go.Lib Go.Shelf
theorem Tryz.infoPC : (Tryz.prog.info? 147).map (fun i => (i.zero, i.size, i.bytes)) = some (some (.agg #[.int .i64 0, .int .i64 0]), 2, 16) := by kernel_rfl
def tabP (bp : Nat) (vO vX : Value) : Nat -> Prop := fun k => k = bp \/ vO.ownBlock = some k \/ vX.ownBlock = some k
structure TInv (w wr : World) (bp : Nat) (R : List Value) (vC vO vX : Value) (c : Str) (n : Nat) (o : Nat -> Int) (vX' : Value) (cl : List (Int × Int)) : Prop where
 tab : Tab wr bp R vC vO vX' c n o cl
 mod : Mod (tabP bp vO vX) w wr
 own : vX'.ownBlock = vX.ownBlock \/ ∀ b, vX'.ownBlock = some b -> w.heap.size <= b
theorem TInv.start {w : World} {bp : Nat} {R : List Value} {vC vO vX : Value} {c : Str} {n : Nat} {o : Nat -> Int} {cl : List (Int × Int)} (h : Tab w bp R vC vO vX c n o cl) : TInv w w bp R vC vO vX c n o vX cl := ⟨h, Mod.refl _ _, Or.inl rfl⟩
theorem TInv.step {w wr w2 : World} {bp : Nat} {R : List Value} {vC vO vX vX' vX2 : Value} {c : Str} {n : Nat} {o o2 : Nat -> Int} {cl cl2 : List (Int × Int)} (h : TInv w wr bp R vC vO vX c n o vX' cl) (hR : Tab w2 bp R vC vO vX2 c n o2 cl2) (hM : Mod (tabP bp vO vX') wr w2) (ho : vX2.ownBlock = vX'.ownBlock \/ ∀ b, vX2.ownBlock = some b -> wr.heap.size <= b) : TInv w w2 bp R vC vO vX c n o2 vX2 cl2 := by
 refine ⟨hR, h.mod.trans hM (fun b hb hp => ?_), ?_⟩
 ·rcases hp with e | e | e
  ·exact Or.inl e
  ·exact Or.inr (Or.inl e)
  ·rcases h.own with g | g
   ·exact Or.inr (Or.inr (g ▸ e))
   ·have := g b e; omega
 ·rcases ho with e | e
  ·rcases h.own with g | g
   ·exact Or.inl (e.trans g)
   ·exact Or.inr (fun b hb => g b (e ▸ hb))
  ·exact Or.inr (fun b hb => Nat.le_trans h.mod.size (e b hb))
theorem TInv.below {w wr w2 : World} {bp : Nat} {R : List Value} {vC vO vX vX' : Value} {c : Str} {n : Nat} {o : Nat -> Int} {cl : List (Int × Int)} (h : TInv w wr bp R vC vO vX c n o vX' cl) (hb : Below wr.heap.size wr w2) : TInv w w2 bp R vC vO vX c n o vX' cl :=
 h.step (h.tab.below hb) ⟨hb.os, hb.tape, hb.output, hb.size, fun k hk _ => hb.block k hk⟩ (Or.inl rfl)
theorem Tab.grow {w w' : World} {bp : Nat} {R : List Value} {vC vO vX vX' : Value} {c : Str} {n : Nat} {o : Nat -> Int} {cl : List (Int × Int)} (h : Tab w bp R vC vO vX c n o cl) (hst : zw w w' bp 2 (vC :: vO :: vX :: R).toArray 118 147 2 vX vX' (cl.length + 1) (zv cl ++ [.int .i64 (-1), .int .i64 0])) :
  Tab w' bp R vC vO vX' c n o (cl ++ [(-1, 0)]) /\ Mod (tabP bp vO vX) w w' := by
 have hfr : ∀ {e : Nat} {u : Value} {m sz : Nat} {xs : List Value}, e ≠ 118 -> e ≠ 147 -> w.ownsRow 0 e sz u m xs -> w'.ownsRow 0 e sz u m xs := by
  intro e u m sz xs h1 h2 hu
  refine zE hu (fun b hl hv => hst.frame b hl (fun e1 => ?_) (fun e1 => ?_))
  ·obtain ⟨c2, hc2⟩ := zD hu hv
   exact zH hc2 h.blk h1 e1
  ·obtain ⟨c2, hc2⟩ := zD hu hv
   obtain ⟨c3, hc3⟩ := zD h.cel e1
   exact zH hc2 hc3 h2 rfl
 refine ⟨⟨hst.blk, hfr (by decide) (by decide) h.cls, hfr (by decide) (by decide) h.off, ?_⟩, hst.os, hst.tape, hst.output, hst.size, fun k hk hp => hst.frame k hk (fun e => hp (Or.inl e)) (fun e => hp (Or.inr (Or.inr e)))⟩
 have := hst.row
 rw [cellsV_append, List.length_append]
 exact this
theorem Tab.put {w : World} {bp : Nat} {R : List Value} {vC vO vX : Value} {c : Str} {n : Nat} {o : Nat -> Int} {cl : List (Int × Int)} (h : Tab w bp R vC vO vX c n o cl) {k : Nat} (hk : k < cl.length) :
  ∃ gX cX, vX = .slice (some ⟨gX, 0, none⟩) cl.length cX /\ gX ≠ bp /\ (∃ x y, w.cell? ⟨gX, k * 2, none⟩ = some (.int .i64 x) /\ w.cell? ⟨gX, k * 2 + 1, none⟩ = some (.int .i64 y)) /\ w.frozen? ⟨gX, k * 2, none⟩ = false /\ w.frozen? ⟨gX, k * 2 + 1, none⟩ = false /\
    ∀ a b : Int, Tab ((w.setCell ⟨gX, k * 2, none⟩ (.int .i64 a)).setCell ⟨gX, k * 2 + 1, none⟩ (.int .i64 b)) bp R vC vO vX c n o (cl.set k (a, b)) /\ Mod (tabP bp vO vX) w ((w.setCell ⟨gX, k * 2, none⟩ (.int .i64 a)).setCell ⟨gX, k * 2 + 1, none⟩ (.int .i64 b)) := by
 have hc := h.cel
 have hcl := cellsP_len cl
 rcases hc.2 with ⟨_, hn⟩ | ⟨gX, cX, cur, rfl, _⟩
 ·omega
 ·obtain ⟨cur, hcur⟩ := zK hc
  have hnb : gX ≠ bp := zH hcur h.blk (by decide)
  have hsame : ∀ (a b : Int) (j : Nat), j ≠ gX -> ((w.setCell ⟨gX, k * 2, none⟩ (.int .i64 a)).setCell ⟨gX, k * 2 + 1, none⟩ (.int .i64 b)).heap[j]? = w.heap[j]? := fun a b j hj => (Below.heap_setCell _ _ _ j hj).trans (Below.heap_setCell w _ _ j hj)
  have hfr : ∀ (a b : Int) {e : Nat} {u : Value} {m sz : Nat} {xs : List Value}, e ≠ 147 -> w.ownsRow 0 e sz u m xs -> ((w.setCell ⟨gX, k * 2, none⟩ (.int .i64 a)).setCell ⟨gX, k * 2 + 1, none⟩ (.int .i64 b)).ownsRow 0 e sz u m xs := by
   intro a b e u m sz xs h1 hu
   refine zE hu (fun j hl hv => hsame a b j (fun e1 => ?_))
   obtain ⟨c2, hc2⟩ := zD hu hv
   exact zH hc2 hcur h1 e1
  refine ⟨gX, cX, rfl, hnb, ⟨_, _, by rw [hc.cellAt (k * 2) (by omega)]; exact (cellsP_get hk).1, by rw [hc.cellAt (k * 2 + 1) (by omega)]; exact (cellsP_get hk).2⟩, hc.frozenAt _, hc.frozenAt _, fun a b => ⟨⟨(hsame a b bp (fun e => hnb e.symm)).trans h.blk, hfr a b (by decide) h.cls, hfr a b (by decide) h.off, ?_⟩, ?_⟩⟩
  ·have h1 := (hc.stored (k * 2) (.int .i64 a)).1
   have h2 := (h1.stored (k * 2 + 1) (.int .i64 b)).1
   rw [cellsV_set] at h2
   rw [List.length_set]
   exact h2
  ·exact ((Mod.setCell w gX _ _).trans (Mod.setCell _ gX _ _) (fun _ _ e => e)).imp (fun k e => Or.inr (Or.inr (by rw [e]; rfl)))
set_option maxHeartbeats 16000000 in
set_option maxRecDepth 100000 in
theorem reach_any (bp : Nat) (R : List Value) (vC vO vX : Value) (c : Str) (n : Nat) (o : Nat -> Int) (cl : List (Int × Int)) (w : World) (hT : Tab w bp R vC vO vX c n o cl) (hcl : cl.length < 100000000) (t : Nat) (ht : t < 100000000) :
  Calls Tryz.prog 80 #[.pointer (some ⟨bp, 0, none⟩), .int .i64 t] w fun e w' => e = .returned (.tuple #[]) /\ ∃ vX', Hid (TInv w w' bp R vC vO vX c n o vX' (padC cl t)) := by
 obtain ⟨i0, hi, hz0, hz1, hz2⟩ := info_parts Tryz.infoPC
 have HT0 : Hid (TInv w w bp R vC vO vX c n o vX cl) := zB (TInv.start hT)
 clear hT
 go_enter Tryz.func80, Tryz.ntmps80
 go_wp2
 go_loopg [7] (t + 1 - cl.length) (fun m _ wr => ∃ (vX' : Value), m <= t + 1 - cl.length /\ Hid (TInv w wr bp R vC vO vX c n o vX' (cl ++ List.replicate (t + 1 - cl.length - m) (-1, 0))))
 case atStart => exact ⟨vX, Nat.le_refl _, by rw [Nat.sub_self, List.replicate_zero, List.append_nil]; exact HT0⟩
 case round =>
  clear HT0
  obtain ⟨vX2, hm, HI⟩ := hrel
  have hlx : (cl ++ List.replicate (t + 1 - cl.length - gk) ((-1 : Int), (0 : Int))).length = cl.length + (t + 1 - cl.length - gk) := by simp
  have HNX : Hid (0 < gk -> cl ++ List.replicate (t + 1 - cl.length - (gk - 1)) ((-1 : Int), (0 : Int)) = (cl ++ List.replicate (t + 1 - cl.length - gk) ((-1 : Int), (0 : Int))) ++ [(-1, 0)]) := zB (fun h => by
   rw [show t + 1 - cl.length - (gk - 1) = (t + 1 - cl.length - gk) + 1 by omega, List.replicate_succ', List.append_assoc])
  have HPD : Hid (gk = 0 -> cl ++ List.replicate (t + 1 - cl.length - gk) ((-1 : Int), (0 : Int)) = padC cl t) := zB (fun h => by rw [h]; rfl)
  generalize cl ++ List.replicate (t + 1 - cl.length - gk) ((-1 : Int), (0 : Int)) = clx at *
  obtain ⟨aX, cX, rfl⟩ : ∃ aX cX, vX2 = .slice aX clx.length cX := by
   rcases zV (zA HI).tab.cel with ⟨h1, h2⟩ | ⟨g, cc, h1, _⟩
   ·exact ⟨none, 0, by rw [h1, h2]⟩
   ·exact ⟨_, cc, h1⟩
  have z1 : wr.cell? ⟨bp, 2, none⟩ = some (.slice aX clx.length cX) := by rw [zC (zA HI).tab.blk]; rfl
  have HLX := zB hlx
  have hlx2 : clx.length < 200000001 := by omega
  clear hlx
  by_cases hg : 0 < gk
  ·have k1 : (clx.length : Int) <= (t : Int) := by have := zA HLX; omega
   have HR4 : Hid (zw wr wr bp 2 (vC :: vO :: Value.slice aX clx.length cX :: R).toArray 118 147 2 (.slice aX clx.length cX) (.slice aX clx.length cX) clx.length (zv clx)) := zB (zw.start (o := 2) (zA HI).tab.blk rfl (zA HI).tab.cel)
   have HNX2 := zB (zA HNX hg)
   clear HNX HPD
   go_wp2_with (at_builtin; go_loud (refine wpList_append_lies _ rfl (.tmp 15) (.tmp 17) 115 rfl 0 147 i0 (.agg #[.int .i64 0, .int .i64 0]) 2 16 Tryz.underlying115 hi hz0 hz1 hz2 rfl (by decide) _ clx.length (zv clx) rfl ((zA HR4).ready #[.int .i64 (-1), .int .i64 0] wr.heap.size rfl).1 ⟨wr.heap.size, 0, none⟩ 1 1 [.int .i64 (-1), .int .i64 0] rfl rfl ((zA HR4).ready #[.int .i64 (-1), .int .i64 0] wr.heap.size rfl).2 (by intro u hu; simp at hu; rcases hu with rfl | rfl <;> rfl) (by omega) (by unfold maxLen; omega) (by omega) (Nat.zero_le _) (wr.heap.size + 1) (by simp) ?_); intro g5 cg5 w5 ho5 hg5 hat5 hl5; obtain ⟨c5, f5⟩ := (zA HR4).behind (by decide) (by simp) _ hg5; have HR5 := zB ((zA HR4).step (by decide) #[.int .i64 (-1), .int .i64 0] wr.heap.size rfl ho5 hg5 hat5); clear ho5 hg5 hat5 hl5)
   go_roundg (gk - 1)
   case measure => omega
   case rel =>
    refine ⟨.slice (some ⟨g5, 0, none⟩) (clx.length + 1) cg5, by omega, zB ?_⟩
    rw [zA HNX2]
    obtain ⟨q1, q2⟩ := (zA HI).tab.grow (zA HR5)
    exact (zA HI).step q1 q2 (zA HR5).lies
  ·have hg0 : gk = 0 := by omega
   have hlx3 : t < clx.length := by have := zA HLX; omega
   have k1 : ¬ (clx.length : Int) <= (t : Int) := by omega
   have HPD2 := zB (zA HPD hg0)
   clear HNX HPD
   go_wp2
   go_end0
   exact ⟨rfl, _, zB (by rw [← zA HPD2]; exact zA HI)⟩
set_option maxHeartbeats 16000000 in
set_option maxRecDepth 100000 in
theorem take_any (bp : Nat) (R : List Value) (vC vO vX : Value) (c : Str) (n : Nat) (o : Nat -> Int) (cl : List (Int × Int)) (w : World) (hT : Tab w bp R vC vO vX c n o cl) (hcl : cl.length < 100000000) (t s y : Nat) (ht : t < 100000000) :
  Calls Tryz.prog 121 #[.pointer (some ⟨bp, 0, none⟩), .int .i64 t, .agg #[.int .i64 (s : Nat), .int .i64 (y : Nat)]] w fun e w' => e = .returned (.tuple #[]) /\ ∃ vX', Hid (TInv w w' bp R vC vO vX c n o vX' ((padC cl t).set t ((s : Int), (y : Int)))) := by
 have hbp : bp < w.heap.size := (Array.getElem?_eq_some_iff.1 hT.blk).1
 have HT0 : Hid (TInv w (w.alloc (.cells #[.int .i64 (s : Nat), .int .i64 (y : Nat)] 147)) bp R vC vO vX c n o vX cl) := zB ((TInv.start hT).below ((Below.refl _ _).alloc (Nat.le_refl _) _))
 have HX : Hid ((w.alloc (.cells #[.int .i64 (s : Nat), .int .i64 (y : Nat)] 147)).heap[w.heap.size]? = some (.cells #[.int .i64 (s : Nat), .int .i64 (y : Nat)] 147 (0, 0))) := zB (heap_alloc_new w _)
 have HXV : Hid (∀ b, vX.ownBlock = some b -> b < w.heap.size) := zB (fun b hb => by obtain ⟨cu, hcu⟩ := zD hT.cel hb; exact (Array.getElem?_eq_some_iff.1 hcu).1)
 have HOV : Hid (∀ b, vO.ownBlock = some b -> b < w.heap.size) := zB (fun b hb => by obtain ⟨cu, hcu⟩ := zD hT.off hb; exact (Array.getElem?_eq_some_iff.1 hcu).1)
 clear hT
 go_enter Tryz.func121, Tryz.ntmps121
 go_wp2_with fail
 generalize hw1 : w.alloc (.cells #[.int .i64 (s : Nat), .int .i64 (y : Nat)] 147) = w1 at *
 have hs1 : w1.heap.size = w.heap.size + 1 := by rw [← hw1]; simp
 clear hw1
 obtain ⟨hb, hhb⟩ : ∃ hb, hb = w.heap.size := ⟨_, rfl⟩
 rw [← hhb] at HX ⊢
 refine (reach_any bp R vC vO vX c n o cl w1 (zA HT0).tab hcl t ht).mono ?_
 rintro e wr ⟨rfl, vX2, H2⟩
 have hpl := padC_len cl t
 have HI : Hid (TInv w wr bp R vC vO vX c n o vX2 (padC cl t)) := zB ((zA HT0).step (zA H2).tab (zA H2).mod (zA H2).own)
 have hblk : wr.heap[hb]? = some (.cells #[.int .i64 (s : Nat), .int .i64 (y : Nat)] 147 (0, 0)) := by
  rw [(zA H2).mod.out hb (by omega) (by
   rintro (e | e | e)
   ·omega
   ·have := zA HOV hb e; omega
   ·have := zA HXV hb e; omega)]
  exact zA HX
 have hlx3 : t < (padC cl t).length := by omega
 obtain ⟨gX, cX', hv, n1, ⟨u1, u2, v1, v2⟩, fz1, fz2, hput⟩ := (zA HI).tab.put hlx3
 subst hv
 have n3 : gX ≠ hb := by
  intro e
  rcases (zA H2).own with e2 | e2
  ·have := zA HXV hb (by rw [← e2, ← e]; rfl); omega
  ·have := e2 gX rfl; omega
 have z1 : wr.cell? ⟨bp, 2, none⟩ = some (.slice (some ⟨gX, 0, none⟩) (padC cl t).length cX') := by rw [zC (zA HI).tab.blk]; rfl
 have HPU := zB (hput s y)
 have b1 : wr.cell? ⟨hb, 0, none⟩ = some (.int .i64 (s : Nat)) := by rw [zC hblk]; rfl
 have b2 : wr.cell? ⟨hb, 1, none⟩ = some (.int .i64 (y : Nat)) := by rw [zC hblk]; rfl
 generalize hpd : padC cl t = clx at *
 have HPD := zB hpd
 clear hpd
 have k2 : (t : Int) < (clx.length : Int) := by omega
 clear hput hblk H2 HT0 HX HXV HOV hpl hhb hs1 hbp
 go_wp2_with fail
 go_region
 go_wp2
 go_end0
 exact ⟨rfl, _, zB (by rw [zA HPD]; exact ((zA HI).step (zA HPU).1 (zA HPU).2 (Or.inl rfl)).below ((Below.refl _ _).drew))⟩
end Go.Proofs.YtfpohfifdfbpkaaGreatDoor
namespace Go.Proofs.YtfpohfifdfbpkaaGreatDoor
open Go.RowKit Scour Go.Lib Go.Shelf
theorem first_free (f : Nat -> Bool) : ∀ n, f n = true -> ∃ a, a <= n /\ f a = true /\ ∀ i, i < a -> f i = false := by
 intro n
 induction n using Nat.strongRecOn with
 | ind n ih =>
   intro h
   by_cases hx : ∃ i, i < n /\ f i = true
   ·obtain ⟨i, hi, hf⟩ := hx
    obtain ⟨a, h1, h2, h3⟩ := ih i hi hf
    exact ⟨a, by omega, h2, h3⟩
   ·refine ⟨n, Nat.le_refl _, h, fun i hi => ?_⟩
    cases hf : f i with
    | false => rfl
    | true => exact absurd ⟨i, hi, hf⟩ hx
theorem offOf_spec (cl : List (Int × Int)) (l : List (Nat × Nat)) : offOf cl l <= cl.length /\ yo cl l (offOf cl l) = true /\ ∀ i, i < offOf cl l -> yo cl l i = false := by
 obtain ⟨a, h1, h2, h3⟩ := first_free (yo cl l) cl.length free_end
 rw [offOf_eq h1 h2 h3]
 exact ⟨h1, h2, h3⟩
theorem Tab.offs {w : World} {bp : Nat} {R : List Value} {vC vO vX : Value} {c : Str} {n : Nat} {o : Nat -> Int} {cl : List (Int × Int)} (h : Tab w bp R vC vO vX c n o cl) {s : Nat} (hs : s < n) :
  ∃ gO cO, vO = .slice (some ⟨gO, 0, none⟩) n cO /\ gO ≠ bp /\ w.cell? ⟨gO, s, none⟩ = some (.int .i64 (o s)) /\ w.frozen? ⟨gO, s, none⟩ = false /\ (∀ cur, w.heap[gO]? = some (.cells cur 165 (0, 0)) -> False) /\ (∀ a : Int, Tab (w.setCell ⟨gO, s, none⟩ (.int .i64 a)) bp R vC vO vX c n (upd o s a) cl /\ Mod (tabP bp vO vX) w (w.setCell ⟨gO, s, none⟩ (.int .i64 a))) := by
 have ho := h.off
 rcases ho.2 with ⟨_, hn⟩ | ⟨gO, cO, cur, rfl, _⟩
 ·omega
 ·obtain ⟨cur, hcur⟩ := zK ho
  have hnb : gO ≠ bp := zH hcur h.blk (by decide)
  refine ⟨gO, cO, rfl, hnb, by rw [ho.cellAt s (by omega), zW _ _ _ hs], ho.frozenAt s, fun cu hcu => zH hcur hcu (by decide) rfl, fun a => ⟨⟨?_, ?_, ?_, ?_⟩, ?_⟩⟩
  ·rw [Below.heap_setCell w _ _ bp (fun e => hnb e.symm)]; exact h.blk
  ·refine zE h.cls (fun b _ hv => Below.heap_setCell w _ _ b (fun e => ?_))
   obtain ⟨c2, hc2⟩ := zD h.cls hv
   exact zH hc2 hcur (by decide) e
  ·have := (ho.stored s (.int .i64 a)).1
   rw [yq] at this
   exact this
  ·refine zE h.cel (fun b _ hv => Below.heap_setCell w _ _ b (fun e => ?_))
   obtain ⟨c2, hc2⟩ := zD h.cel hv
   exact zH hc2 hcur (by decide) e
  ·exact (Mod.setCell w gO s (.int .i64 a)).imp (fun k e => Or.inr (Or.inl (by rw [e]; rfl)))
theorem Tab.notP {w : World} {bp : Nat} {R : List Value} {vC vO vX : Value} {c : Str} {n : Nat} {o : Nat -> Int} {cl : List (Int × Int)} (h : Tab w bp R vC vO vX c n o cl) {k e : Nat} {cur : Array Value} (hk : w.heap[k]? = some (.cells cur e (0, 0))) (h1 : e ≠ 118) (h2 : e ≠ 3) (h3 : e ≠ 147) : ¬ tabP bp vO vX k := by
 rintro (g | g | g)
 ·exact zH hk h.blk h1 g
 ·obtain ⟨c2, hc2⟩ := zD h.off g
  exact zH hk hc2 h2 rfl
 ·obtain ⟨c2, hc2⟩ := zD h.cel g
  exact zH hk hc2 h3 rfl
theorem TInv.keep {w wr w2 : World} {bp : Nat} {R : List Value} {vC vO vX vX' : Value} {c : Str} {n : Nat} {o o2 : Nat -> Int} {cl cl2 : List (Int × Int)} (h : TInv w w2 bp R vC vO vX c n o2 vX' cl2) (hT : Tab w bp R vC vO vX c n o cl) (_hw : wr = w) {k e : Nat} {cur : Array Value} (hk : w.heap[k]? = some (.cells cur e (0, 0))) (h1 : e ≠ 118) (h2 : e ≠ 3) (h3 : e ≠ 147) : w2.heap[k]? = some (.cells cur e (0, 0)) :=
 (h.mod.out k (Array.getElem?_eq_some_iff.1 hk).1 (hT.notP hk h1 h2 h3)).trans hk
set_option maxHeartbeats 16000000 in
set_option maxRecDepth 100000 in
theorem lay_any (bp : Nat) (R : List Value) (vC vO vX : Value) (c : Str) (n : Nat) (o : Nat -> Int) (cl : List (Int × Int)) (w : World) (hT : Tab w bp R vC vO vX c n o cl) (hC : COK cl) (hcl : cl.length < 90000000) (s ge m ce : Nat) (l : List (Nat × Nat)) (hm : l.length = m) (hE : w.ownsRow 0 218 2 (.slice (some ⟨ge, 0, none⟩) m ce) m (encP l)) (hl : ∀ p, p ∈ l -> p.1 < 1000) (hm2 : m <= 256) (hs : s < n) (_hs2 : n < 10000) :
  Calls Tryz.prog 78 #[.pointer (some ⟨bp, 0, none⟩), .agg #[.int .i64 (s : Nat), .slice (some ⟨ge, 0, none⟩) m ce]] w fun e w' => e = .returned (.tuple #[]) /\ ∃ vX', Hid (TInv w w' bp R vC vO vX c n (upd o s (offOf cl l : Nat)) vX' (lay cl s l (offOf cl l))) := by
 obtain ⟨A, hA⟩ : ∃ A, offOf cl l = A := ⟨_, rfl⟩
 obtain ⟨o1, o2, o3⟩ := offOf_spec cl l
 rw [hA] at o1 o2 o3 ⊢
 clear hA
 have HB0 : Hid (Below w.heap.size w (w.alloc (.cells #[.int .i64 (s : Nat), .slice (some ⟨ge, 0, none⟩) m ce] 165))) := zB ((Below.refl _ _).alloc (Nat.le_refl _) _)
 have HX0 : Hid ((w.alloc (.cells #[.int .i64 (s : Nat), .slice (some ⟨ge, 0, none⟩) m ce] 165)).heap[w.heap.size]? = some (.cells #[.int .i64 (s : Nat), .slice (some ⟨ge, 0, none⟩) m ce] 165 (0, 0))) := zB (heap_alloc_new w _)
 have HT := zB hT
 have HC := zB hC
 have HE := zB hE
 have HO3 := zB o3
 have HO2 := zB o2
 have HL := zB hl
 have HM := zB hm
 obtain ⟨hb, hhb⟩ : ∃ hb, hb = w.heap.size := ⟨_, rfl⟩
 rw [← hhb] at HX0
 clear hT hC hE o2 o3 hl hm
 go_enter Tryz.func78, Tryz.ntmps78
 go_wp2
 rw [← hhb]
 have hhl : hb = w.heap.size -> True := fun _ => trivial
 have HHB := zB hhb
 clear hhb hhl
 generalize w.alloc (.cells #[.int .i64 (s : Nat), .slice (some ⟨ge, 0, none⟩) m ce] 165) = w1 at *
 have HB1 := HB0
 have hbl : hb < w1.heap.size := (Array.getElem?_eq_some_iff.1 (zA HX0)).1
 go_loopw [4] (fun v wr => ∃ a : Nat, v = .int .i64 a /\ a <= A /\ Hid (Below w1.heap.size w1 wr)) (fun v _ => A - (intOf v).toNat)
 case atStart => exact ⟨0, rfl, Nat.zero_le _, zB (Below.refl _ _)⟩
 case round =>
  obtain ⟨a, rfl, ha, HBr⟩ := hrel
  have HBw : Hid (Below w.heap.size w wr) := zB ((zA HB1).trans ((zA HBr).mono (zA HB1).size))
  have HXr : Hid (wr.heap[hb]? = some (.cells #[.int .i64 (s : Nat), .slice (some ⟨ge, 0, none⟩) m ce] 165 (0, 0))) := zB (((zA HBr).block hb hbl).trans (zA HX0))
  have b1 : wr.cell? ⟨hb, 0, none⟩ = some (.int .i64 (s : Nat)) := by rw [zC (zA HXr)]; rfl
  have b2 : wr.cell? ⟨hb, 1, none⟩ = some (.slice (some ⟨ge, 0, none⟩) m ce) := by rw [zC (zA HXr)]; rfl
  have HF : Hid (Calls Tryz.prog 120 #[.pointer (some ⟨bp, 0, none⟩), .agg #[.int .i64 (s : Nat), .slice (some ⟨ge, 0, none⟩) m ce], .int .i64 a] wr fun e w' => e = .returned (.bool (yo cl l a)) /\ Below wr.heap.size wr w') := zB (fits_any bp R vC vO vX c n o cl wr ((zA HT).below (zA HBw)) (zA HC) s ge m ce a l (zA HM) (zE (zA HE) (fun b hl _ => (zA HBw).block b hl)) (zA HL) hm2 (by omega))
  by_cases haA : a < A
  ·rw [zA HO3 a haA] at HF
   go_wp2_with (go_at_call 120; refine (zA HF).mono ?_; rintro e w2 ⟨rfl, hb2⟩; have HB2 := zB hb2; clear hb2)
   go_roundw
   case rel => exact ⟨a + 1, by go_num, by omega, zB ((zA HBr).trans ((zA HB2).mono (zA HBr).size))⟩
   case measure => simp [intOf]; omega
  ·obtain rfl : a = A := by omega
   rw [zA HO2] at HF
   go_wp2_with (go_at_call 120; refine (zA HF).mono ?_; rintro e w2 ⟨rfl, hb2⟩; have HB2 := zB hb2; clear hb2)
   have HBw2 : Hid (Below w.heap.size w w2) := zB ((zA HBw).trans ((zA HB2).mono (zA HBw).size))
   have HX2 : Hid (w2.heap[hb]? = some (.cells #[.int .i64 (s : Nat), .slice (some ⟨ge, 0, none⟩) m ce] 165 (0, 0))) := zB (((zA HB2).block hb (Array.getElem?_eq_some_iff.1 (zA HXr)).1).trans (zA HXr))
   have HT2 := zB ((zA HT).below (zA HBw2))
   have HI2 := zB ((TInv.start (zA HT)).below (zA HBw2))
   have HE2 := zB (zE (w' := w2) (zA HE) (fun b hl _ => (zA HBw2).block b hl))
   obtain ⟨gO, cO, hvO, n1, v1, fz1, n2, hset⟩ := (zA HT2).offs hs
   subst hvO
   have c1 : w2.cell? ⟨bp, 1, none⟩ = some (.slice (some ⟨gO, 0, none⟩) n cO) := by rw [zC (zA HT2).blk]; rfl
   have b3 : w2.cell? ⟨hb, 0, none⟩ = some (.int .i64 (s : Nat)) := by rw [zC (zA HX2)]; rfl
   have n3 : gO ≠ hb := fun e => n2 _ (by rw [e]; exact zA HX2)
   have HI3 : Hid (∀ q, TInv w ((w2.setCell ⟨gO, s, none⟩ (.int .i64 (a : Nat))).drewN q) bp R vC (.slice (some ⟨gO, 0, none⟩) n cO) vX c n (upd o s (a : Nat)) vX cl) := zB fun q => ((zA HI2).step (hset (a : Nat)).1 (hset (a : Nat)).2 (Or.inl rfl)).below (below_drewN (Below.refl _ _) q)
   have HX3 : Hid (∀ q, ((w2.setCell ⟨gO, s, none⟩ (.int .i64 (a : Nat))).drewN q).heap[hb]? = some (.cells #[.int .i64 (s : Nat), .slice (some ⟨ge, 0, none⟩) m ce] 165 (0, 0))) := zB fun q => (Below.heap_setCell w2 ⟨gO, s, none⟩ _ hb (fun e => n3 e.symm)).trans (zA HX2)
   have HE3 : Hid (∀ q, ((w2.setCell ⟨gO, s, none⟩ (.int .i64 (a : Nat))).drewN q).ownsRow 0 218 2 (.slice (some ⟨ge, 0, none⟩) m ce) m (encP l)) := zB fun q => by
    obtain ⟨cu, hcu⟩ := zK (zA HE2)
    exact zE (zA HE2) (fun b hl hv => by
     have : ge = b := by simpa [Value.ownBlock] using hv
     subst this
     exact (hset (a : Nat)).2.out ge hl ((zA HT2).notP hcu (by decide) (by decide) (by decide)))
   have b4 : w2.cell? ⟨hb, 1, none⟩ = some (.slice (some ⟨ge, 0, none⟩) m ce) := by rw [zC (zA HX2)]; rfl
   have i1 : (s : Int) < (n : Int) := by omega
   clear hset n2 b1 b2 HI2 HT2 HE2
   go_region
   go_wp2
   have HI4 : Hid (TInv w (w2.setCell ⟨gO, s, none⟩ (.int .i64 (a : Nat))).drew bp R vC (.slice (some ⟨gO, 0, none⟩) n cO) vX c n (upd o s (a : Nat)) vX cl) := zB (zA HI3 1)
   have HX4 : Hid ((w2.setCell ⟨gO, s, none⟩ (.int .i64 (a : Nat))).drew.heap[hb]? = some (.cells #[.int .i64 (s : Nat), .slice (some ⟨ge, 0, none⟩) m ce] 165 (0, 0))) := zB (zA HX3 1)
   have HE4 : Hid ((w2.setCell ⟨gO, s, none⟩ (.int .i64 (a : Nat))).drew.ownsRow 0 218 2 (.slice (some ⟨ge, 0, none⟩) m ce) m (encP l)) := zB (zA HE3 1)
   clear HI3 HX3 HE3 c1 b3 b4 v1 fz1
   generalize (w2.setCell ⟨gO, s, none⟩ (.int .i64 (a : Nat))).drew = w4 at *
   go_loopw [25] (fun v wr => ∃ (j : Nat) (vX' : Value), v = .int .i64 j /\ j <= m /\ Hid (TInv w wr bp R vC (.slice (some ⟨gO, 0, none⟩) n cO) vX c n (upd o s (a : Nat)) vX' (lay cl s (l.take j) a)) /\ Hid (wr.heap[hb]? = some (.cells #[.int .i64 (s : Nat), .slice (some ⟨ge, 0, none⟩) m ce] 165 (0, 0))) /\ Hid (wr.ownsRow 0 218 2 (.slice (some ⟨ge, 0, none⟩) m ce) m (encP l))) (fun v _ => m - (intOf v).toNat)
   case atStart => exact ⟨0, vX, rfl, Nat.zero_le _, HI4, HX4, HE4⟩
   case round =>
    clear HI4 HX4 HE4
    obtain ⟨j, vX5, rfl, hj, HI, HX, HEE⟩ := hrel
    by_cases hjm : j < m
    ·obtain ⟨e1, e2⟩ := encPs_get (zA HEE) (zA HM) j hjm
     have hjl : j < l.length := by rw [zA HM]; exact hjm
     have hpm : l.getD j (0, 0) ∈ l := by simp [List.getD, hjl]
     have hx := zA HL _ hpm
     have HLT : Hid (lay cl s (l.take (j + 1)) a = layOne s a (lay cl s (l.take j) a) (l.getD j (0, 0))) := zB (lay_take (by simp [List.getD, hjl]))
     have hll := lay_len (cl := cl) (s := s) (a := a) (l.take j) (fun p hp => zA HL p (List.mem_of_mem_take hp))
     generalize l.getD j (0, 0) = p at *
     obtain ⟨x, y⟩ := p
     simp only [] at e1 e2 hx
     obtain ⟨t, ht⟩ : ∃ t, t = a + x := ⟨_, rfl⟩
     have hti : (a : Int) + (x : Int) = (t : Int) := by omega
     have HLO : Hid (lay cl s (l.take (j + 1)) a = (padC (lay cl s (l.take j) a) t).set t ((s : Int), (y : Int))) := zB (by rw [zA HLT, layOne, ht])
     have htb : t < 100000000 := by omega
     clear hpm HLT ht
     generalize lay cl s (l.take j) a = clj at *
     have hW : ∀ ob, Below wr.heap.size wr (wr.alloc ob) := fun ob => (Below.refl _ _).alloc (Nat.le_refl _) _
     have hhw : hb < wr.heap.size := (Array.getElem?_eq_some_iff.1 (zA HX)).1
     have b1 : ∀ ob, (wr.alloc ob).cell? ⟨hb, 0, none⟩ = some (.int .i64 (s : Nat)) := fun ob => by rw [zC (((hW ob).block hb hhw).trans (zA HX))]; rfl
     have HTK : Hid (∀ ob, Calls Tryz.prog 121 #[.pointer (some ⟨bp, 0, none⟩), .int .i64 t, .agg #[.int .i64 (s : Nat), .int .i64 (y : Nat)]] (wr.alloc ob) fun e w' => e = .returned (.tuple #[]) /\ ∃ vX', Hid (TInv w w' bp R vC (.slice (some ⟨gO, 0, none⟩) n cO) vX c n (upd o s (a : Nat)) vX' (lay cl s (l.take (j + 1)) a)) /\ Hid (w'.heap[hb]? = some (.cells #[.int .i64 (s : Nat), .slice (some ⟨ge, 0, none⟩) m ce] 165 (0, 0))) /\ Hid (w'.ownsRow 0 218 2 (.slice (some ⟨ge, 0, none⟩) m ce) m (encP l))) := zB (by
      intro ob
      have hTo := (zA HI).tab.below (hW ob)
      refine (take_any bp R vC _ vX5 c n _ clj (wr.alloc ob) hTo (by omega) t s y htb).mono ?_
      rintro e w' ⟨rfl, vX6, H6⟩
      refine ⟨rfl, vX6, zB ?_, zB ?_, zB ?_⟩
      ·rw [zA HLO]
       exact ((zA HI).below (hW ob)).step (zA H6).tab (zA H6).mod (zA H6).own
      ·exact (zA H6).keep hTo rfl (((hW ob).block hb hhw).trans (zA HX)) (by decide) (by decide) (by decide)
      ·have hEo := zE (w' := wr.alloc ob) (zA HEE) (fun b hl _ => (hW ob).block b hl)
       obtain ⟨cu, hcu⟩ := zK hEo
       exact yp hEo (((zA H6).keep hTo rfl hcu (by decide) (by decide) (by decide)).trans hcu.symm))
     clear hW HLO
     go_wp2_with (go_at_call 121; refine (zA HTK _).mono ?_; rintro e w6 ⟨rfl, vX6, H6, X6, E6⟩)
     go_roundw
     case rel => exact ⟨j + 1, vX6, by go_num, hjm, H6, X6, E6⟩
     case measure => simp [intOf]; omega
    ·have hjl : j = l.length := by rw [zA HM]; omega
     have HI5 : Hid (TInv w wr bp R vC (.slice (some ⟨gO, 0, none⟩) n cO) vX c n (upd o s (a : Nat)) vX5 (lay cl s l a)) := zB (by have := zA HI; rw [hjl, List.take_length] at this; exact this)
     clear hjl
     go_wp2
     go_end0
     exact ⟨rfl, vX5, HI5⟩
end Go.Proofs.YtfpohfifdfbpkaaGreatDoor
namespace Go.Proofs.YtfpohfifdfbpkaaGreatDoor
open Go.RowKit Scour Go.Lib Go.Shelf Go.Sort
theorem bestTo_max (L : Nat -> List (Nat × Nat)) (dd : Nat -> Bool) : ∀ n s, s < n -> dd s = false -> 0 < (L s).length -> ∃ b : Nat, b < n /\ za L dd n = b /\ dd b = false /\ 0 < (L b).length /\ goesB L s b = false := by
 intro n
 induction n with
 | zero => intro s hs; omega
 | succ n ih =>
   intro s hs h1 h2
   have hne : ∀ x y : Nat, (¬ ((L y).length < (L x).length \/ ((L x).length = (L y).length /\ x < y))) -> goesB L x y = false := by
    intro x y h
    cases hb : goesB L x y with
    | false => rfl
    | true => exact absurd (goes_iff.1 hb) h
   by_cases hc : dd n = false /\ 0 < (L n).length /\ (za L dd n < 0 \/ (L (za L dd n).toNat).length < (L n).length)
   ·refine ⟨n, by omega, by rw [za, if_pos hc], hc.1, hc.2.1, ?_⟩
    rcases Nat.lt_or_ge s n with g | g
    ·obtain ⟨b, hb, e, h3, h4, h5⟩ := ih s g h1 h2
     rcases hc.2.2 with k | k
     ·omega
     ·rw [e] at k
      simp only [Int.toNat_natCast] at k
      refine hne s n ?_
      have h6 : ¬ ((L b).length < (L s).length \/ ((L s).length = (L b).length /\ s < b)) := fun h => by rw [goes_iff.2 h] at h5; cases h5
      omega
    ·obtain rfl : s = n := by omega
     exact hne s s (by omega)
   ·rcases Nat.lt_or_ge s n with g | g
    ·obtain ⟨b, hb, e, h3, h4, h5⟩ := ih s g h1 h2
     exact ⟨b, by omega, by rw [za, if_neg hc]; exact e, h3, h4, h5⟩
    ·obtain rfl : s = n := by omega
     rcases jB L dd s with e | ⟨b, hb, e, h3, h4⟩
     ·exact absurd ⟨h1, h2, Or.inl (by rw [e]; omega)⟩ hc
     ·refine ⟨b, by omega, by rw [za, if_neg hc]; exact e, h3, h4, hne s b ?_⟩
      have : ¬ (L b).length < (L s).length := fun k => hc ⟨h1, h2, Or.inr (by rw [e]; simpa using k)⟩
      omega
theorem best_root {L : Nat -> List (Nat × Nat)} {dd : Nat -> Bool} {n x : Nat} (hx : x < n) (h1 : dd x = false) (h2 : 0 < (L x).length) (hr : ∀ s, s < n -> dd s = false -> 0 < (L s).length -> hlt L x s = false) : za L dd n = x := by
 obtain ⟨b, hb, e, h3, h4, h5⟩ := bestTo_max L dd n x hx h1 h2
 have h6 := hr b hb h3 h4
 unfold hlt at h6
 have a1 : ¬ ((L b).length < (L x).length \/ ((L x).length = (L b).length /\ x < b)) := fun h => by rw [goes_iff.2 h] at h5; cases h5
 have a2 : ¬ ((L x).length < (L b).length \/ ((L b).length = (L x).length /\ b < x)) := fun h => by rw [goes_iff.2 h] at h6; cases h6
 have : x = b := by omega
 rw [e, this]
theorem best_none {L : Nat -> List (Nat × Nat)} {dd : Nat -> Bool} {n : Nat} (h : ∀ s, s < n -> dd s = false -> 0 < (L s).length -> False) : za L dd n < 0 := by
 rcases jB L dd n with e | ⟨b, hb, e, h3, h4⟩
 ·omega
 ·exact (h b hb h3 h4).elim
structure HSet (L : Nat -> List (Nat × Nat)) (n : Nat) (dd : Nat -> Bool) (d : Array Nat) : Prop where
 mem : ∀ s, s ∈ d.toList ↔ s < n /\ dd s = false /\ 0 < (L s).length
 nodup : d.toList.Nodup
 heap : HeapD (hlt L) d.size d
theorem HSet.push {L : Nat -> List (Nat × Nat)} {n : Nat} {d : Array Nat} (h : HSet L n (fun _ => false) d) (hn : 0 < (L n).length) : HSet L (n + 1) (fun _ => false) (heapPush (hlt L) d n) /\ (heapPush (hlt L) d n).size = d.size + 1 := by
 obtain ⟨h1, h2, h3⟩ := heapPush_spec (swo_hlt L) h.heap n
 refine ⟨⟨fun s => ?_, ?_, by rw [h2]; exact h1⟩, h2⟩
 ·rw [h3.mem_iff, List.mem_append, h.mem]
  simp only [List.mem_singleton]
  constructor
  ·rintro (⟨a, b, c⟩ | rfl)
   ·exact ⟨by omega, trivial, c⟩
   ·exact ⟨by omega, trivial, hn⟩
  ·rintro ⟨a, _, c⟩
   rcases Nat.lt_or_ge s n with g | g
   ·exact Or.inl ⟨g, trivial, c⟩
   ·exact Or.inr (by omega)
 ·rw [h3.nodup_iff, List.nodup_append]
  refine ⟨h.nodup, by simp, fun a ha b hb => ?_⟩
  simp only [List.mem_singleton] at hb
  have := ((h.mem a).1 ha).1
  omega
theorem HSet.skip {L : Nat -> List (Nat × Nat)} {n : Nat} {d : Array Nat} (h : HSet L n (fun _ => false) d) (hn : ¬ 0 < (L n).length) : HSet L (n + 1) (fun _ => false) d := by
 refine ⟨fun s => ?_, h.nodup, h.heap⟩
 rw [h.mem]
 constructor
 ·rintro ⟨a, b, c⟩; exact ⟨by omega, b, c⟩
 ·rintro ⟨a, b, c⟩
  refine ⟨?_, b, c⟩
  rcases Nat.lt_or_ge s n with g | g
  ·exact g
  ·obtain rfl : s = n := by omega
   exact absurd c hn
theorem HSet.pop {L : Nat -> List (Nat × Nat)} {n m : Nat} {dd : Nat -> Bool} {d : Array Nat} (h : HSet L n dd d) (hm : d.size = m + 1) :
  za L dd n = d[0]! /\ d[0]! < n /\ 0 < (L d[0]!).length /\ HSet L n (fun k => if k = d[0]! then true else dd k) (siftDown (hlt L) m 0 0 (swp d 0 m)).pop /\ (siftDown (hlt L) m 0 0 (swp d 0 m)).pop.size = m := by
 obtain ⟨h1, h2, h3, h4, h5⟩ := heapPop_spec (swo_hlt L) hm (by rw [← hm]; exact h.heap)
 have hm0 : d[0]! ∈ d.toList := by rw [getElem!_pos d 0 (by omega)]; simp
 obtain ⟨k1, k2, k3⟩ := (h.mem _).1 hm0
 have hsz : (siftDown (hlt L) m 0 0 (swp d 0 m)).pop.size = m := by rw [Array.size_pop, h1]; rfl
 have hnd : ((siftDown (hlt L) m 0 0 (swp d 0 m)).pop.toList ++ [d[0]!]).Nodup := h4.nodup_iff.2 h.nodup
 rw [List.nodup_append] at hnd
 refine ⟨best_root k1 k2 k3 (fun s a b c => h5 s ((h.mem s).2 ⟨a, b, c⟩)), k1, k3, ⟨fun s => ?_, hnd.1, by rw [hsz]; exact h3⟩, hsz⟩
 have hmem := h4.mem_iff (a := s)
 rw [List.mem_append, List.mem_singleton, h.mem] at hmem
 constructor
 ·intro hs
  obtain ⟨a, b, c⟩ := hmem.1 (Or.inl hs)
  refine ⟨a, ?_, c⟩
  rw [if_neg (fun e => hnd.2.2 s hs d[0]! (by simp) e)]
  exact b
 ·rintro ⟨a, b, c⟩
  by_cases e : s = d[0]!
  ·rw [if_pos e] at b; cases b
  ·rw [if_neg e] at b
   rcases hmem.2 ⟨a, b, c⟩ with g | g
   ·exact g
   ·exact absurd g e
theorem rowsV_congr {es es' : Nat -> Value} {l : List Nat} (h : ∀ s, s ∈ l -> es' s = es s) : yW es' l = yW es l := by
 unfold yW
 induction l with
 | nil => rfl
 | cons x l ih =>
   simp only [List.flatMap_cons]
   rw [ih (fun s hs => h s (List.mem_cons_of_mem _ hs)), h x List.mem_cons_self]
theorem zQ.congr {w : World} {rp gh cap : Nat} {d : Array Nat} {es es' : Nat -> Value} (h : zQ w rp gh cap d es) (he : ∀ s, s ∈ d.toList -> es' s = es s) : zQ w rp gh cap d es' := ⟨h.box, by rw [rowsV_congr he]; exact h.row, h.ne⟩
def EsIn (w : World) (L : Nat -> List (Nat × Nat)) (es : Nat -> Value) (n : Nat) : Prop := ∀ s, s < n -> 0 < (L s).length -> w.ownsRow 0 218 2 (es s) (L s).length (encP (L s))
theorem EsIn.below {w w' : World} {L : Nat -> List (Nat × Nat)} {es : Nat -> Value} {n : Nat} (h : EsIn w L es n) (hb : Below w.heap.size w w') : EsIn w' L es n := fun s hs h0 => zE (h s hs h0) (fun b hl _ => hb.block b hl)
theorem EsIn.ok {w : World} {L : Nat -> List (Nat × Nat)} {es : Nat -> Value} {n : Nat} (h : EsIn w L es n) (hl : ∀ s, (L s).length <= 256) : EsOK L es n := ⟨fun s hs h0 => by
 rcases zV (h s hs h0) with ⟨_, e⟩ | ⟨b, c, e, _⟩
 ·omega
 ·exact ⟨b, c, e⟩, hl⟩
theorem EsIn.mod {w w' : World} {L : Nat -> List (Nat × Nat)} {es : Nat -> Value} {n rp gh cap : Nat} {d : Array Nat} {es' : Nat -> Value} (h : EsIn w L es n) (hH : zQ w rp gh cap d es') (hM : Mod (fun k => k = rp \/ k = gh) w w') : EsIn w' L es n := by
 intro s hs h0
 refine zE (h s hs h0) (fun b hl hv => hM.out b hl (fun e => ?_))
 obtain ⟨c1, hc1⟩ := zD (h s hs h0) hv
 rcases e with e | e
 ·exact zH hc1 hH.box (by decide) e
 ·obtain ⟨c2, hc2⟩ := zK hH.row
  exact zH hc1 hc2 (by decide) e
end Go.Proofs.YtfpohfifdfbpkaaGreatDoor
