import Derived.Test.YtfpohfifdfbpkaaGreatDoorNum
import Derived.Deep.LoopGhost
namespace Go.Proofs.YtfpohfifdfbpkaaGreatDoor
open Go.RowKit Scour Go.Lib
structure yw (w : World) (rb : Nat) (vO vF vC : Value) (rs : Nat -> Value) (L : Nat -> List (Nat × Nat)) (n : Nat) (off : Nat -> Int) (cl : List (Int × Int)) : Prop where
 blk : w.heap[rb]? = some (.cells #[vO, vF, vC] 236 (0, 0))
 own : Owns w 0 vO rs L n
 offs : w.ownsRow 0 3 1 vF n (zZ off n)
 cels : w.ownsRow 0 237 2 vC cl.length (zv cl)
 apart : ∀ i b, i < n -> (rs i).ownBlock = some b -> vF.ownBlock ≠ some b
theorem yw.same {w w' : World} {rb : Nat} {vO vF vC : Value} {rs : Nat -> Value} {L : Nat -> List (Nat × Nat)} {n : Nat} {off : Nat -> Int} {cl : List (Int × Int)} (h : yw w rb vO vF vC rs L n off cl) (hb : ∀ k, k < w.heap.size -> w'.heap[k]? = w.heap[k]?) : yw w' rb vO vF vC rs L n off cl :=
 ⟨(hb rb (Array.getElem?_eq_some_iff.1 h.blk).1).trans h.blk, ⟨zE h.own.row (fun b hl _ => hb b hl), fun i hi => zE (h.own.each i hi) (fun b hl _ => hb b hl)⟩, zE h.offs (fun b hl _ => hb b hl), zE h.cels (fun b hl _ => hb b hl), h.apart⟩
theorem yw.list {w : World} {rb : Nat} {vO vF vC : Value} {rs : Nat -> Value} {L : Nat -> List (Nat × Nat)} {n : Nat} {off : Nat -> Int} {cl : List (Int × Int)} (h : yw w rb vO vF vC rs L n off cl) {s : Nat} (hs : s < n) (h0 : 0 < (L s).length) :
  ∃ gO cO gl c, vO = .slice (some ⟨gO, 0, none⟩) n cO /\ w.cell? ⟨gO, s, none⟩ = some (.slice (some ⟨gl, 0, none⟩) (2 * (L s).length) c) /\ rs s = .slice (some ⟨gl, 0, none⟩) (2 * (L s).length) c /\ ∀ j p, (L s)[j]? = some p -> w.cell? ⟨gl, 2 * j, none⟩ = some (.int .i64 p.1) /\ w.cell? ⟨gl, 2 * j + 1, none⟩ = some (.int .i64 p.2) := by
 have he := h.own.each s hs
 rcases h.own.row.2 with ⟨_, hn⟩ | ⟨gO, cO, cur, hO, _⟩
 ·omega
 ·rcases he.2 with ⟨_, hn⟩ | ⟨gl, c, cur2, hl, _⟩
  ·omega
  ·refine ⟨gO, cO, gl, c, hO, ?_, hl, fun j p hp => ?_⟩
   ·have hr := h.own.row
    rw [hO] at hr
    rw [hr.cellAt s (by omega)]
    simp [hs, hl]
   ·have hj := (List.getElem?_eq_some_iff.1 hp).1
    rw [hl] at he
    obtain ⟨e1, e2⟩ := encP_get _ j p hp
    rw [he.cellAt (2 * j) (by omega), he.cellAt (2 * j + 1) (by omega)]
    exact ⟨e1, e2⟩
set_option maxHeartbeats 4000000 in
set_option maxRecDepth 100000 in
theorem free_any (rb : Nat) (vO vF vC : Value) (rs : Nat -> Value) (L : Nat -> List (Nat × Nat)) (n : Nat) (off : Nat -> Int) (cl : List (Int × Int)) (s a : Nat) (w : World) (hR : yw w rb vO vF vC rs L n off cl) (hs : s < n) (h0 : 0 < (L s).length) (hll : (L s).length <= 256) (_hn : n < 10000) (hb : ∀ p, p ∈ L s -> p.1 < 1000) (ha : a < 1000000000) (hcl : cl.length < 1000000000) :
  Calls Tryz.prog 151 #[.pointer (some ⟨rb, 0, none⟩), .int .i64 s, .int .i64 a] w fun e w' => e = .returned (.bool (yo cl (L s) a)) /\ w' = w := by
 obtain ⟨gO, cO, gl, c, rfl, c1, hrs, hel⟩ := hR.list hs h0
 have c0 : w.cell? ⟨rb, 0, none⟩ = some (.slice (some ⟨gO, 0, none⟩) n cO) := by rw [zC hR.blk]; rfl
 have c2 : w.cell? ⟨rb, 2, none⟩ = some vC := by rw [zC hR.blk]; rfl
 obtain ⟨aC, cC, hvC⟩ : ∃ aC cC, vC = .slice aC cl.length cC := by
  rcases hR.cels.2 with ⟨h, h1⟩ | ⟨g, cap, cur, h, _⟩
  ·exact ⟨none, 0, by rw [h, h1]⟩
  ·exact ⟨_, cap, h⟩
 subst hvC
 have HCC : Hid (∀ k, k < cl.length -> ∃ gC, aC = some ⟨gC, 0, none⟩ /\ w.cell? ⟨gC, k * 2, none⟩ = some (.int .i64 (cl.getD k (0, 0)).1)) := zB (fun k hk => by
  rcases hR.cels.2 with ⟨h, h1⟩ | ⟨gC, cap, cur, h, _⟩
  ·omega
  ·obtain ⟨rfl, rfl⟩ : aC = some ⟨gC, 0, none⟩ /\ cC = cap := by simpa using h
   refine ⟨gC, rfl, ?_⟩
   rw [hR.cels.cellAt (k * 2) (by omega), (cellsV_get cl k cl[k] (List.getElem?_eq_getElem hk)).1]
   simp [List.getD, hk])
 have HEL := zB hel
 have HBP := zB hb
 clear hR hel hb hrs
 have HFB : Hid (yo cl (L s) a = (L s).all fun p => decide (cl.length <= a + p.1) || decide ((cl.getD (a + p.1) (0, 0)).1 < 0)) := zB rfl
 generalize yo cl (L s) a = fb at *
 have i1 : (s : Int) < (n : Int) := by omega
 go_enter Tryz.func151, Tryz.ntmps151
 go_wp2
 go_loop [8] (fun v8 => ∃ j : Nat, v8 = .int .i64 (2 * (j : Int)) /\ j <= (L s).length /\ Hid (((L s).take j).all (fun p => decide (cl.length <= a + p.1) || decide ((cl.getD (a + p.1) (0, 0)).1 < 0)) = true)) (fun v8 => 2 * (L s).length - (intOf v8).toNat)
 case atStart => exact ⟨0, rfl, Nat.zero_le _, zB (by simp)⟩
 case round =>
  obtain ⟨j, rfl, hj, HA⟩ := hrel
  by_cases hlt : j < (L s).length
  ·obtain ⟨p, hp⟩ : ∃ p, (L s)[j]? = some p := ⟨_, List.getElem?_eq_getElem hlt⟩
   have hpe : (L s)[j] = p := by rw [List.getElem?_eq_getElem hlt] at hp; simpa using hp
   obtain ⟨d1, d2⟩ := zA HEL j p hp
   have hpb := zA HBP p (List.mem_of_getElem? hp)
   have HAT := zB (all_take (L s) (fun p => decide (cl.length <= a + p.1) || decide ((cl.getD (a + p.1) (0, 0)).1 < 0)) j hlt)
   have HAF := zB (all_false (L s) (fun p => decide (cl.length <= a + p.1) || decide ((cl.getD (a + p.1) (0, 0)).1 < 0)) j hlt)
   rw [hpe] at HAT HAF
   have j1 : 2 * (j : Int) < 2 * ((L s).length : Int) := by omega
   have j2 : (0 : Int) <= 2 * (j : Int) := by omega
   by_cases hin : a + p.1 < cl.length
   ·obtain ⟨gC, rfl, cc⟩ := zA HCC (a + p.1) hin
    have k1 : (a : Int) + (p.1 : Int) < (cl.length : Int) := by omega
    have k2 : (0 : Int) <= (a : Int) + (p.1 : Int) := by omega
    by_cases hx : (cl.getD (a + p.1) (0, 0)).1 < 0
    ·have HA2 : Hid (((L s).take (j + 1)).all (fun p => decide (cl.length <= a + p.1) || decide ((cl.getD (a + p.1) (0, 0)).1 < 0)) = true) := zB (by
      rw [zA HAT, zA HA]; simp only [Bool.true_and, decide_eq_true hx, Bool.or_true])
     clear HAT HAF
     generalize (cl.getD (a + p.1) (0, 0)).1 = x at *
     have x1 : ¬ 0 <= x := by omega
     go_wp2
     go_round
     case rel => exact ⟨j + 1, by go_num, hlt, HA2⟩
     case measure => simp [intOf]; omega
    ·have HF : Hid (fb = false) := zB (by
      rw [zA HFB]
      exact zA HAF (by simp only [decide_eq_false hx, decide_eq_false (show ¬ cl.length <= a + p.1 by omega), Bool.or_false]))
     clear HAT HAF
     generalize (cl.getD (a + p.1) (0, 0)).1 = x at *
     have x1 : 0 <= x := by omega
     go_wp2
     go_ret
     exact ⟨by rw [zA HF]; rfl, rfl⟩
   ·have HA2 : Hid (((L s).take (j + 1)).all (fun p => decide (cl.length <= a + p.1) || decide ((cl.getD (a + p.1) (0, 0)).1 < 0)) = true) := zB (by
     rw [zA HAT, zA HA]; simp; omega)
    have k1 : ¬ (a : Int) + (p.1 : Int) < (cl.length : Int) := by omega
    clear HAT HAF
    go_wp2
    go_round
    case rel => exact ⟨j + 1, by go_num, hlt, HA2⟩
    case measure => simp [intOf]; omega
  ·obtain rfl : j = (L s).length := by omega
   have HF : Hid (fb = true) := zB (by
    rw [zA HFB, ← zA HA, List.take_length])
   have j1 : ¬ 2 * ((L s).length : Int) < 2 * ((L s).length : Int) := by omega
   go_wp2
   go_ret
   exact ⟨by rw [zA HF]; rfl, rfl⟩
def packP (rb : Nat) (vF vC : Value) : Nat -> Prop := fun k => k = rb \/ vF.ownBlock = some k \/ vC.ownBlock = some k
end Go.Proofs.YtfpohfifdfbpkaaGreatDoor
namespace Go.Proofs.YtfpohfifdfbpkaaGreatDoor
open Go.RowKit Scour Go.Lib
theorem Tryz.infoC : (Tryz.prog.info? 237).map (fun i => (i.zero, i.size, i.bytes)) = some (some (.agg #[.int .i64 0, .int .i64 0]), 2, 16) := by kernel_rfl
theorem yw.offsets {w : World} {rb : Nat} {vO vF vC : Value} {rs : Nat -> Value} {L : Nat -> List (Nat × Nat)} {n : Nat} {off : Nat -> Int} {cl : List (Int × Int)} (h : yw w rb vO vF vC rs L n off cl) {s : Nat} (hs : s < n) :
  ∃ gF cF, vF = .slice (some ⟨gF, 0, none⟩) n cF /\ w.cell? ⟨gF, s, none⟩ = some (.int .i64 (off s)) /\ w.frozen? ⟨gF, s, none⟩ = false /\ ∀ a : Int, yw (w.setCell ⟨gF, s, none⟩ (.int .i64 a)) rb vO vF vC rs L n (upd off s a) cl /\ Mod (packP rb vF vC) w (w.setCell ⟨gF, s, none⟩ (.int .i64 a)) := by
 have ho := h.offs
 rcases ho.2 with ⟨_, hn⟩ | ⟨gF, cF, cur, rfl, _⟩
 ·omega
 ·obtain ⟨cur, hcur⟩ := zK ho
  refine ⟨gF, cF, rfl, by rw [ho.cellAt s (by omega), zW _ _ _ hs], ho.frozenAt s, fun a => ⟨⟨?_, ⟨?_, fun i hi => ?_⟩, ?_, ?_, h.apart⟩, ?_⟩⟩
  ·rw [Below.heap_setCell w _ _ rb (fun e => zH h.blk hcur (by decide) e)]; exact h.blk
  ·refine zE h.own.row (fun b _ hv => Below.heap_setCell w _ _ b (fun e => ?_))
   obtain ⟨c2, hc2⟩ := zD h.own.row hv
   exact zH hc2 hcur (by decide) e
  ·refine zE (h.own.each i hi) (fun b _ hv => Below.heap_setCell w _ _ b (fun e => h.apart i b hi hv ?_))
   rw [e]; rfl
  ·have := (ho.stored s (.int .i64 a)).1
   rw [yq] at this
   exact this
  ·refine zE h.cels (fun b _ hv => Below.heap_setCell w _ _ b (fun e => ?_))
   obtain ⟨c2, hc2⟩ := zD h.cels hv
   exact zH hc2 hcur (by decide) e
  ·have := Mod.setCell w gF s (.int .i64 a)
   exact ⟨this.os, this.tape, this.output, this.size, fun k hk hp => this.out k hk (fun e => hp (Or.inr (Or.inl (by rw [e]; rfl))))⟩
theorem yw.grow {w w' : World} {rb : Nat} {vO vF vC vC' : Value} {rs : Nat -> Value} {L : Nat -> List (Nat × Nat)} {n : Nat} {off : Nat -> Int} {cl : List (Int × Int)} (h : yw w rb vO vF vC rs L n off cl) (hst : zw w w' rb 2 #[vO, vF, vC] 236 237 2 vC vC' (cl.length + 1) (zv cl ++ [.int .i64 (-1), .int .i64 0])) :
  yw w' rb vO vF vC' rs L n off (cl ++ [(-1, 0)]) /\ Mod (packP rb vF vC) w w' := by
 have hfr : ∀ {e : Nat} {u : Value} {m sz : Nat} {xs : List Value}, e ≠ 236 -> e ≠ 237 -> w.ownsRow 0 e sz u m xs -> w'.ownsRow 0 e sz u m xs := by
  intro e u m sz xs h1 h2 hu
  refine zE hu (fun b hl hv => hst.frame b hl (fun e1 => ?_) (fun e1 => ?_))
  ·obtain ⟨c2, hc2⟩ := zD hu hv
   exact zH hc2 h.blk h1 e1
  ·obtain ⟨c2, hc2⟩ := zD hu hv
   obtain ⟨c3, hc3⟩ := zD h.cels e1
   exact zH hc2 hc3 h2 rfl
 refine ⟨⟨hst.blk, ⟨hfr (by decide) (by decide) h.own.row, fun i hi => hfr (by decide) (by decide) (h.own.each i hi)⟩, hfr (by decide) (by decide) h.offs, ?_, h.apart⟩, hst.os, hst.tape, hst.output, hst.size, fun k hk hp => hst.frame k hk (fun e => hp (Or.inl e)) (fun e => hp (Or.inr (Or.inr e)))⟩
 have := hst.row
 rw [cellsV_append, List.length_append]
 exact this
theorem yw.put {w : World} {rb : Nat} {vO vF vC : Value} {rs : Nat -> Value} {L : Nat -> List (Nat × Nat)} {n : Nat} {off : Nat -> Int} {cl : List (Int × Int)} (h : yw w rb vO vF vC rs L n off cl) {k : Nat} (hk : k < cl.length) :
  ∃ gC cC, vC = .slice (some ⟨gC, 0, none⟩) cl.length cC /\ gC ≠ rb /\ (∀ i b, i < n -> (rs i).ownBlock = some b -> gC ≠ b) /\ (∃ x y, w.cell? ⟨gC, k * 2, none⟩ = some (.int .i64 x) /\ w.cell? ⟨gC, k * 2 + 1, none⟩ = some (.int .i64 y)) /\ w.frozen? ⟨gC, k * 2, none⟩ = false /\ w.frozen? ⟨gC, k * 2 + 1, none⟩ = false /\
    ∀ a b : Int, yw ((w.setCell ⟨gC, k * 2, none⟩ (.int .i64 a)).setCell ⟨gC, k * 2 + 1, none⟩ (.int .i64 b)) rb vO vF vC rs L n off (cl.set k (a, b)) /\ Mod (packP rb vF vC) w ((w.setCell ⟨gC, k * 2, none⟩ (.int .i64 a)).setCell ⟨gC, k * 2 + 1, none⟩ (.int .i64 b)) := by
 have hc := h.cels
 rcases hc.2 with ⟨_, hn⟩ | ⟨gC, cC, cur, rfl, _⟩
 ·omega
 ·obtain ⟨cur, hcur⟩ := zK hc
  have hnrb : gC ≠ rb := zH hcur h.blk (by decide)
  have hsame : ∀ (a b : Int) (j : Nat), j ≠ gC -> ((w.setCell ⟨gC, k * 2, none⟩ (.int .i64 a)).setCell ⟨gC, k * 2 + 1, none⟩ (.int .i64 b)).heap[j]? = w.heap[j]? := fun a b j hj => (Below.heap_setCell _ _ _ j hj).trans (Below.heap_setCell w _ _ j hj)
  have hfr : ∀ (a b : Int) {e : Nat} {u : Value} {m sz : Nat} {xs : List Value}, e ≠ 237 -> w.ownsRow 0 e sz u m xs -> ((w.setCell ⟨gC, k * 2, none⟩ (.int .i64 a)).setCell ⟨gC, k * 2 + 1, none⟩ (.int .i64 b)).ownsRow 0 e sz u m xs := by
   intro a b e u m sz xs h1 hu
   refine zE hu (fun j hl hv => hsame a b j (fun e1 => ?_))
   obtain ⟨c2, hc2⟩ := zD hu hv
   exact zH hc2 hcur h1 e1
  refine ⟨gC, cC, rfl, hnrb, fun i b hi hv e => ?_, ⟨_, _, by rw [hc.cellAt (k * 2) (by omega)]; exact (cellsV_get cl k cl[k] (List.getElem?_eq_getElem hk)).1, by rw [hc.cellAt (k * 2 + 1) (by omega)]; exact (cellsV_get cl k cl[k] (List.getElem?_eq_getElem hk)).2⟩, hc.frozenAt _, hc.frozenAt _, fun a b => ⟨⟨(hsame a b rb (fun e => hnrb e.symm)).trans h.blk, ⟨hfr a b (by decide) h.own.row, fun i hi => hfr a b (by decide) (h.own.each i hi)⟩, hfr a b (by decide) h.offs, ?_, h.apart⟩, rfl, rfl, rfl, by simp [World.setCell], fun j _ hp => hsame a b j (fun e => hp (Or.inr (Or.inr (by rw [e]; rfl))))⟩⟩
  ·obtain ⟨c2, hc2⟩ := zD (h.own.each i hi) hv
   exact zH hcur hc2 (by decide) e
  ·have h1 := (hc.stored (k * 2) (.int .i64 a)).1
   have h2 := (h1.stored (k * 2 + 1) (.int .i64 b)).1
   rw [cellsV_set] at h2
   rw [List.length_set]
   exact h2
structure LInv (w wr : World) (rb : Nat) (vO vF vC : Value) (rs : Nat -> Value) (L : Nat -> List (Nat × Nat)) (n : Nat) (off : Nat -> Int) (vC' : Value) (cl : List (Int × Int)) : Prop where
 rows : yw wr rb vO vF vC' rs L n off cl
 mod : Mod (packP rb vF vC) w wr
 own : vC'.ownBlock = vC.ownBlock \/ ∀ b, vC'.ownBlock = some b -> w.heap.size <= b
theorem LInv.step {w wr w2 : World} {rb : Nat} {vO vF vC vC' vC2 : Value} {rs : Nat -> Value} {L : Nat -> List (Nat × Nat)} {n : Nat} {off : Nat -> Int} {cl cl2 : List (Int × Int)} (h : LInv w wr rb vO vF vC rs L n off vC' cl) (hR : yw w2 rb vO vF vC2 rs L n off cl2) (hM : Mod (packP rb vF vC') wr w2) (ho : vC2.ownBlock = vC'.ownBlock \/ ∀ b, vC2.ownBlock = some b -> wr.heap.size <= b) : LInv w w2 rb vO vF vC rs L n off vC2 cl2 := by
 refine ⟨hR, h.mod.trans hM (fun b hb hp => ?_), ?_⟩
 ·rcases hp with e | e | e
  ·exact Or.inl e
  ·exact Or.inr (Or.inl e)
  ·rcases h.own with g | g
   ·exact Or.inr (Or.inr (g ▸ e))
   ·have := g b e; omega
 ·rcases ho with e | e
  ·rcases h.own with g | g
   ·exact Or.inl (e.trans g)
   ·exact Or.inr (fun b hb => g b (e ▸ hb))
  ·exact Or.inr (fun b hb => Nat.le_trans h.mod.size (e b hb))
theorem LInv.drewN {w wr : World} {rb : Nat} {vO vF vC vC' : Value} {rs : Nat -> Value} {L : Nat -> List (Nat × Nat)} {n : Nat} {off : Nat -> Int} {cl : List (Int × Int)} (h : LInv w wr rb vO vF vC rs L n off vC' cl) (m : Nat) : LInv w (wr.drewN m) rb vO vF vC rs L n off vC' cl :=
 h.step (h.rows.same (fun k hk => (below_drewN (Below.refl wr.heap.size wr) m).block k hk)) (Mod.drewN wr m) (Or.inl rfl)
set_option maxHeartbeats 8000000 in
set_option maxRecDepth 100000 in
theorem lies_any (rb : Nat) (vO vF vC : Value) (rs : Nat -> Value) (L : Nat -> List (Nat × Nat)) (n : Nat) (off : Nat -> Int) (cl : List (Int × Int)) (s a : Nat) (w : World) (hR : yw w rb vO vF vC rs L n off cl) (hs : s < n) (h0 : 0 < (L s).length) (hll : (L s).length <= 256) (_hn : n < 10000) (hb : ∀ p, p ∈ L s -> p.1 < 1000 /\ p.2 < 10000) (ha : a < 1000000000) (hcl : cl.length < 1000000000) :
  Calls Tryz.prog 152 #[.pointer (some ⟨rb, 0, none⟩), .int .i64 s, .int .i64 a] w fun e w' => e = .returned (.tuple #[]) /\ ∃ vC', yw w' rb vO vF vC' rs L n (upd off s a) (lay cl s (L s) a) /\ Mod (packP rb vF vC) w w' /\ (vC'.ownBlock = vC.ownBlock \/ ∀ b, vC'.ownBlock = some b -> w.heap.size <= b) := by
 obtain ⟨i0, hi, hz0, hz1, hz2⟩ := info_parts Tryz.infoC
 obtain ⟨gF, cF, rfl, d0, f0, hof⟩ := hR.offsets hs
 have e1 : w.cell? ⟨rb, 1, none⟩ = some (.slice (some ⟨gF, 0, none⟩) n cF) := by rw [zC hR.blk]; rfl
 obtain ⟨hR1, hM1⟩ := hof a
 obtain ⟨gO, cO, gl, c, rfl, c1, hrs, _⟩ := hR1.list hs h0
 have c0 : (w.setCell ⟨gF, s, none⟩ (.int .i64 a)).cell? ⟨rb, 0, none⟩ = some (.slice (some ⟨gO, 0, none⟩) n cO) := by rw [zC hR1.blk]; rfl
 have HR1 := zB hR1
 have HM1 := zB hM1
 have HRS := zB hrs
 have HBP := zB hb
 clear hR hof hR1 hM1 hrs hb
 have i1 : (s : Int) < (n : Int) := by omega
 generalize hw1 : w.setCell ⟨gF, s, none⟩ (.int .i64 a) = w1 at *
 go_enter Tryz.func152, Tryz.ntmps152
 go_wp2
 obtain ⟨off1, hoff⟩ : ∃ o, o = upd off s (a : Int) := ⟨_, rfl⟩
 rw [← hoff] at HR1
 have HOF := zB hoff
 clear hoff
 have HI0 : Hid (LInv w w1 rb (.slice (some ⟨gO, 0, none⟩) n cO) (.slice (some ⟨gF, 0, none⟩) n cF) vC rs L n off1 vC cl) := zB ⟨zA HR1, zA HM1, Or.inl rfl⟩
 clear HR1 HM1 c0 c1
 go_loopw [7] (fun v7 wr => ∃ (j jj : Nat) (vC' : Value), v7 = .int .i64 jj /\ Hid (jj = 2 * j) /\ j <= (L s).length /\ Hid (LInv w wr rb (.slice (some ⟨gO, 0, none⟩) n cO) (.slice (some ⟨gF, 0, none⟩) n cF) vC rs L n off1 vC' (lay cl s ((L s).take j) a))) (fun v7 _ => 2 * (L s).length - (intOf v7).toNat)
 case atStart => exact ⟨0, 0, vC, rfl, zB rfl, Nat.zero_le _, HI0⟩
 case round =>
  obtain ⟨j, jj, vC1, rfl, HJJ, hj, HI⟩ := hrel
  by_cases hlt : j < (L s).length
  ·obtain ⟨p, hp⟩ : ∃ p, (L s)[j]? = some p := ⟨_, List.getElem?_eq_getElem hlt⟩
   obtain ⟨hp1, hp2⟩ := zA HBP p (List.mem_of_getElem? hp)
   have hll2 : (lay cl s ((L s).take j) a).length <= max cl.length (a + 1000) := lay_len _ (fun q hq => (zA HBP q (List.mem_of_mem_take hq)).1)
   have HLT := zB (lay_take (cl := cl) (s := s) (a := a) hp)
   have HCE : Hid (∀ W vC' clx, yw W rb (.slice (some ⟨gO, 0, none⟩) n cO) (.slice (some ⟨gF, 0, none⟩) n cF) vC' rs L n off1 clx -> W.cell? ⟨rb, 2, none⟩ = some vC' /\ (∃ aC cC, vC' = .slice aC clx.length cC) /\ W.cell? ⟨gl, jj, none⟩ = some (.int .i64 p.1) /\ W.cell? ⟨gl, jj + 1, none⟩ = some (.int .i64 p.2)) := zB (fun W vC' clx h => by
    obtain ⟨gO', cO', gl', c', _, _, h3, h4⟩ := h.list hs h0
    have h5 := zA HRS
    rw [h3] at h5
    obtain ⟨rfl, _⟩ : gl' = gl /\ c' = c := by simpa using h5
    refine ⟨by rw [zC h.blk]; rfl, ?_, by rw [zA HJJ]; exact h4 j p hp⟩
    rcases h.cels.2 with ⟨h6, h7⟩ | ⟨g, cap, cur, h6, _⟩
    ·exact ⟨none, 0, by rw [h6, h7]⟩
    ·exact ⟨_, cap, h6⟩)
   generalize lay cl s ((L s).take j) a = clj at *
   have j1 : (jj : Int) < 2 * ((L s).length : Int) := by have := zA HJJ; omega
   have j2 : (0 : Int) <= (jj : Int) := by omega
   have j3 : (jj : Int) + 1 < 2 * ((L s).length : Int) := by have := zA HJJ; omega
   have j4 : (0 : Int) <= (jj : Int) + 1 := by omega
   have r2 : IntKind.i64.wrap ((jj : Int) + 1) = (jj : Int) + 1 := wrap_small _ (by omega) (by omega)
   have r1 : IntKind.i64.wrap ((a : Int) + (p.1 : Int)) = (a : Int) + (p.1 : Int) := wrap_small _ (by omega) (by omega)
   go_wp2
   go_loopg [28] (a + p.1 + 1 - clj.length) (fun m _ wr => ∃ (vC' : Value), m <= a + p.1 + 1 - clj.length /\ Hid (LInv w wr rb (.slice (some ⟨gO, 0, none⟩) n cO) (.slice (some ⟨gF, 0, none⟩) n cF) vC rs L n off1 vC' (clj ++ List.replicate (a + p.1 + 1 - clj.length - m) (-1, 0))))
   case atStart => exact ⟨vC1, Nat.le_refl _, by rw [Nat.sub_self, List.replicate_zero, List.append_nil]; exact HI⟩
   case round =>
    obtain ⟨vC2, hm, HI2⟩ := hrel
    have hlx : (clj ++ List.replicate (a + p.1 + 1 - clj.length - gk) ((-1 : Int), (0 : Int))).length = clj.length + (a + p.1 + 1 - clj.length - gk) := by simp
    have HNX : Hid (0 < gk -> clj ++ List.replicate (a + p.1 + 1 - clj.length - (gk - 1)) ((-1 : Int), (0 : Int)) = (clj ++ List.replicate (a + p.1 + 1 - clj.length - gk) ((-1 : Int), (0 : Int))) ++ [(-1, 0)]) := zB (fun h => by
     rw [show a + p.1 + 1 - clj.length - (gk - 1) = (a + p.1 + 1 - clj.length - gk) + 1 by omega, List.replicate_succ', List.append_assoc])
    have HPD : Hid (gk = 0 -> clj ++ List.replicate (a + p.1 + 1 - clj.length - gk) ((-1 : Int), (0 : Int)) = padC clj (a + p.1)) := zB (fun h => by rw [h]; rfl)
    generalize clj ++ List.replicate (a + p.1 + 1 - clj.length - gk) ((-1 : Int), (0 : Int)) = clx at *
    obtain ⟨z1, ⟨aC, cC, rfl⟩, z2, z3⟩ := zA HCE wr vC2 clx (zA HI2).rows
    have HLX := zB hlx
    have hlx2 : clx.length < 2000001000 := by omega
    clear hlx
    go_wp2_with fail
    go_quiet (fail)
    have HI3 := zB ((zA HI2).drewN nq)
    clear z1 z2 z3 HI2
    generalize wr.drewN nq = wd at *
    obtain ⟨z1, _, z2, z3⟩ := zA HCE wd _ clx (zA HI3).rows
    by_cases hg : 0 < gk
    ·have k1 : (clx.length : Int) <= (a : Int) + (p.1 : Int) := by have := zA HLX; omega
     have HR4 : Hid (zw wd wd rb 2 #[.slice (some ⟨gO, 0, none⟩) n cO, .slice (some ⟨gF, 0, none⟩) n cF, .slice aC clx.length cC] 236 237 2 (.slice aC clx.length cC) (.slice aC clx.length cC) clx.length (zv clx)) := zB (zw.start (o := 2) (zA HI3).rows.blk rfl (zA HI3).rows.cels)
     have HNX2 := zB (zA HNX hg)
     clear HNX HPD
     go_wp2_with (at_builtin; go_loud (refine wpList_append_lies _ rfl (.tmp 44) (.tmp 46) 234 rfl 0 237 i0 (.agg #[.int .i64 0, .int .i64 0]) 2 16 Tryz.underlying234 hi hz0 hz1 hz2 rfl (by decide) _ clx.length (zv clx) rfl ((zA HR4).ready #[.int .i64 (-1), .int .i64 0] wd.heap.size rfl).1 ⟨wd.heap.size, 0, none⟩ 1 1 [.int .i64 (-1), .int .i64 0] rfl rfl ((zA HR4).ready #[.int .i64 (-1), .int .i64 0] wd.heap.size rfl).2 (by intro u hu; simp at hu; rcases hu with rfl | rfl <;> rfl) (by omega) (by unfold maxLen; omega) (by omega) (Nat.zero_le _) (wd.heap.size + 1) (by simp) ?_); intro g5 cg5 w5 ho5 hg5 hat5 hl5; obtain ⟨c5, f5⟩ := (zA HR4).behind (by decide) (by simp) _ hg5; have HR5 := zB ((zA HR4).step (by decide) #[.int .i64 (-1), .int .i64 0] wd.heap.size rfl ho5 hg5 hat5); clear ho5 hg5 hat5 hl5)
     go_roundg (gk - 1)
     case measure => omega
     case rel =>
      refine ⟨.slice (some ⟨g5, 0, none⟩) (clx.length + 1) cg5, by omega, zB ?_⟩
      rw [zA HNX2]
      obtain ⟨q1, q2⟩ := (zA HI3).rows.grow (zA HR5)
      exact (zA HI3).step q1 q2 (zA HR5).lies
    ·have hg0 : gk = 0 := by omega
     have hlx3 : a + p.1 < clx.length := by have := zA HLX; omega
     have k1 : ¬ (clx.length : Int) <= (a : Int) + (p.1 : Int) := by omega
     have HPD2 := zB (zA HPD hg0)
     obtain ⟨gC, cC', hv, n1, n2, ⟨x, y, v1, v2⟩, fz1, fz2, hput⟩ := (zA HI3).rows.put (k := a + p.1) (by omega)
     obtain ⟨rfl, rfl⟩ : aC = some ⟨gC, 0, none⟩ /\ cC = cC' := by simpa using hv
     have n3 : gC ≠ gl := n2 s gl hs (by rw [zA HRS]; rfl)
     have HPU := zB (hput s p.2)
     obtain ⟨kk, hkk⟩ : ∃ kk : Nat, kk = a + p.1 := ⟨_, rfl⟩
     rw [← hkk] at v1 v2 fz1 fz2 HPU HPD2
     have eI : (a : Int) + (p.1 : Int) = (kk : Int) := by omega
     have r4 : IntKind.i64.wrap (kk : Int) = (kk : Int) := wrap_small _ (by omega) (by omega)
     have r3 : IntKind.i64.wrap ((a : Int) + (p.1 : Int)) = (kk : Int) := by rw [eI]; exact r4
     have k2 : (kk : Int) < (clx.length : Int) := by omega
     have k3 : (0 : Int) <= (kk : Int) := by omega
     have HKK := zB hkk
     have v3 : ∀ q u, ((wd.drewN q).setCell ⟨gC, kk * 2, none⟩ u).cell? ⟨gC, kk * 2 + 1, none⟩ = some (.int .i64 y) := fun q u => (set_far (by omega)).trans v2
     have fz3 : ∀ q u, ((wd.drewN q).setCell ⟨gC, kk * 2, none⟩ u).frozen? ⟨gC, kk * 2 + 1, none⟩ = false := fun q u => by rw [World.frozen?_setCell]; exact fz2
     clear HNX HPD hput hv n2 hkk r1
     go_wp2_with fail
     go_region_held3 (fun w' => w'.cell? ⟨rb, 2, none⟩ = some (.slice (some ⟨gC, 0, none⟩) clx.length cC) /\ w'.cell? ⟨gl, jj, none⟩ = some (.int .i64 p.1) /\ w'.cell? ⟨gl, jj + 1, none⟩ = some (.int .i64 p.2)) (first | go_keep | (refine ⟨?_, ?_, ?_⟩ <;> rw [set_far (by omega), set_far (by omega)] <;> simp [*])) (fail)
     have HI5 : Hid (LInv w (((wd.setCell ⟨gC, kk * 2, none⟩ (.int .i64 s)).setCell ⟨gC, kk * 2 + 1, none⟩ (.int .i64 p.2)).drew) rb (.slice (some ⟨gO, 0, none⟩) n cO) (.slice (some ⟨gF, 0, none⟩) n cF) vC rs L n off1 (.slice (some ⟨gC, 0, none⟩) clx.length cC) (lay cl s ((L s).take (j + 1)) a)) := zB (by
      rw [zA HLT, layOne, ← zA HKK, ← zA HPD2]
      exact ((zA HI3).step (zA HPU).1 (zA HPU).2 (Or.inl rfl)).drewN 1)
     have HJ2 : Hid (jj + 2 = 2 * (j + 1)) := zB (by have := zA HJJ; omega)
     go_wp2_with fail
     go_roundw
     case rel => exact ⟨j + 1, jj + 2, _, by go_num, HJ2, hlt, HI5⟩
     case measure => simp [intOf]; omega
  ·obtain rfl : j = (L s).length := by omega
   have j1 : ¬ (jj : Int) < 2 * ((L s).length : Int) := by have := zA HJJ; omega
   have HI3 : Hid (LInv w wr rb (.slice (some ⟨gO, 0, none⟩) n cO) (.slice (some ⟨gF, 0, none⟩) n cF) vC rs L n off1 vC1 (lay cl s (L s) a)) := zB (by
    have := zA HI
    rw [List.take_length] at this
    exact this)
   go_wp2
   go_end0
   exact ⟨rfl, vC1, by rw [← zA HOF]; exact (zA HI3).rows, (zA HI3).mod, (zA HI3).own⟩
end Go.Proofs.YtfpohfifdfbpkaaGreatDoor
namespace Go.Proofs.YtfpohfifdfbpkaaGreatDoor
open Go.RowKit Scour Go.Lib
theorem Tryz.infoBo : (Tryz.prog.info? 4).map (fun i => (i.zero, i.size, i.bytes)) = some (some (.bool false), 1, 1) := by kernel_rfl
def boolsF (d : Nat -> Bool) (n : Nat) : List Value := (List.range n).map fun i => .bool (d i)
theorem boolsF_get (d : Nat -> Bool) (n i : Nat) (h : i < n) : (boolsF d n)[i]? = some (.bool (d i)) := by simp [boolsF, h]
theorem boolsF_len (d : Nat -> Bool) (n : Nat) : (boolsF d n).length = n := by simp [boolsF]
theorem boolsF_set (d : Nat -> Bool) (n i : Nat) : (boolsF d n).set i (.bool true) = boolsF (fun k => if k = i then true else d k) n := by
 apply List.ext_getElem?
 intro j
 rw [List.getElem?_set]
 by_cases hj : j < n
 ·rw [boolsF_get _ _ _ hj, boolsF_get _ _ _ hj, boolsF_len]
  by_cases e : i = j
  ·subst e; simp [hj]
  ·rw [if_neg e, if_neg (fun h => e h.symm)]
 ·rw [List.getElem?_eq_none (by rw [boolsF_len]; omega), List.getElem?_eq_none (by rw [boolsF_len]; omega)]
  split
  ·split
   ·rename_i h1 h2; rw [boolsF_len] at h2; omega
   ·rfl
  ·rfl
theorem yw.kept {w w' : World} {rb : Nat} {vO vF vC : Value} {rs : Nat -> Value} {L : Nat -> List (Nat × Nat)} {n : Nat} {off : Nat -> Int} {cl : List (Int × Int)} (h : yw w rb vO vF vC rs L n off cl) {bd : Nat} {cur : Array Value} (hbd : w.heap[bd]? = some (.cells cur 4 (0, 0))) (hb : ∀ k, k < w.heap.size -> k ≠ bd -> w'.heap[k]? = w.heap[k]?) : yw w' rb vO vF vC rs L n off cl := by
 have hfr : ∀ {e : Nat} {u : Value} {m sz : Nat} {xs : List Value}, e ≠ 4 -> w.ownsRow 0 e sz u m xs -> w'.ownsRow 0 e sz u m xs := by
  intro e u m sz xs h1 hu
  refine zE hu (fun b hl hv => hb b hl ?_)
  obtain ⟨c2, hc2⟩ := zD hu hv
  exact zH hc2 hbd h1
 exact ⟨(hb rb (Array.getElem?_eq_some_iff.1 h.blk).1 (zH h.blk hbd (by decide))).trans h.blk, ⟨hfr (by decide) h.own.row, fun i hi => hfr (by decide) (h.own.each i hi)⟩, hfr (by decide) h.offs, hfr (by decide) h.cels, h.apart⟩
theorem packP_bool {w : World} {rb : Nat} {vO vF vC : Value} {rs : Nat -> Value} {L : Nat -> List (Nat × Nat)} {n : Nat} {off : Nat -> Int} {cl : List (Int × Int)} (h : yw w rb vO vF vC rs L n off cl) {bd : Nat} {cur : Array Value} (hbd : w.heap[bd]? = some (.cells cur 4 (0, 0))) : ¬ packP rb vF vC bd := by
 rintro (e | e | e)
 ·exact zH hbd h.blk (by decide) e
 ·obtain ⟨c2, hc2⟩ := zD h.offs e
  exact zH hbd hc2 (by decide) rfl
 ·obtain ⟨c2, hc2⟩ := zD h.cels e
  exact zH hbd hc2 (by decide) rfl
theorem falses (n : Nat) : (madeCells #[Value.bool false] n).toList = boolsF (fun _ => false) n := by
 simp only [madeCells, boolsF]
 simp [Nat.mod_one]
theorem falses_row (w : World) (n : Nat) (hn : n < 10000) : (w.alloc (.cells (madeCells #[Value.bool false] n) 4)).ownsRow 0 4 1 (.slice (some ⟨w.heap.size, 0, none⟩) n n) n (boolsF (fun _ => false) n) := by
 have hl := falses n
 have hsz : (madeCells #[Value.bool false] n).size = n := by
  have := congrArg List.length hl
  rw [boolsF_len] at this
  simpa using this
 refine ⟨by rw [boolsF_len]; omega, Or.inr ⟨w.heap.size, n, _, rfl, Nat.zero_le _, heap_alloc_new w _, Nat.le_refl _, by unfold maxLen; omega, by rw [hsz]; omega, ?_⟩⟩
 rw [hl, List.take_of_length_le (by rw [boolsF_len]; omega)]
structure PInv (w wr : World) (rb bd : Nat) (vO vF vC : Value) (rs : Nat -> Value) (L : Nat -> List (Nat × Nat)) (n : Nat) (p : PSt) : Prop where
 rows : yw wr rb vO vF vC rs L n p.o p.cl
 done : wr.ownsRow 0 4 1 (.slice (some ⟨bd, 0, none⟩) n n) n (boolsF p.d n)
 below : Below w.heap.size w wr
 geB : w.heap.size <= rb /\ w.heap.size <= bd
 geF : ∀ b, vF.ownBlock = some b -> w.heap.size <= b
 geC : ∀ b, vC.ownBlock = some b -> w.heap.size <= b
theorem PInv.drewN {w wr : World} {rb bd : Nat} {vO vF vC : Value} {rs : Nat -> Value} {L : Nat -> List (Nat × Nat)} {n : Nat} {p : PSt} (h : PInv w wr rb bd vO vF vC rs L n p) (m : Nat) : PInv w (wr.drewN m) rb bd vO vF vC rs L n p :=
 ⟨h.rows.same (fun k hk => (below_drewN (Below.refl wr.heap.size wr) m).block k hk), h.done, below_drewN h.below m, h.geB, h.geF, h.geC⟩
theorem PInv.mark {w wr : World} {rb bd : Nat} {vO vF vC : Value} {rs : Nat -> Value} {L : Nat -> List (Nat × Nat)} {n : Nat} {p : PSt} (h : PInv w wr rb bd vO vF vC rs L n p) {b : Nat} (_hb : b < n) :
  PInv w (wr.setCell ⟨bd, b, none⟩ (.bool true)) rb bd vO vF vC rs L n ⟨fun k => if k = b then true else p.d k, p.o, p.cl⟩ := by
 obtain ⟨cur, hcur⟩ := zK h.done
 refine ⟨h.rows.kept hcur (fun k _ hk => Below.heap_setCell wr _ _ k hk), ?_, h.below.setCell h.geB.2 _, h.geB, h.geF, h.geC⟩
 have := (h.done.stored b (.bool true)).1
 rw [boolsF_set] at this
 exact this
theorem PInv.lie {w wr w2 : World} {rb bd : Nat} {vO vF vC vC2 : Value} {rs : Nat -> Value} {L : Nat -> List (Nat × Nat)} {n : Nat} {p : PSt} {o2 : Nat -> Int} {cl2 : List (Int × Int)} (h : PInv w wr rb bd vO vF vC rs L n p) (hR : yw w2 rb vO vF vC2 rs L n o2 cl2) (hM : Mod (packP rb vF vC) wr w2) (ho : vC2.ownBlock = vC.ownBlock \/ ∀ b, vC2.ownBlock = some b -> wr.heap.size <= b) :
  PInv w w2 rb bd vO vF vC2 rs L n ⟨p.d, o2, cl2⟩ := by
 obtain ⟨cur, hcur⟩ := zK h.done
 have hl := (Array.getElem?_eq_some_iff.1 hcur).1
 have hs := h.below.size
 refine ⟨hR, yp h.done (hM.out bd hl (packP_bool h.rows hcur)), h.below.trans (hM.below hs ?_), h.geB, h.geF, ?_⟩
 ·rintro k (rfl | e | e)
  ·exact h.geB.1
  ·exact h.geF k e
  ·exact h.geC k e
 ·intro b hb
  rcases ho with e | e
  ·exact h.geC b (e ▸ hb)
  ·have := e b hb; omega
theorem rrows_a {w w1 : World} {vO : Value} {rs : Nat -> Value} {L : Nat -> List (Nat × Nat)} {n : Nat} (hO : Owns w1 w.heap.size vO rs L n) (hb : Below w.heap.size w w1) (hn : n < 10000) :
  yw ((w1.alloc (.cells (madeCells #[Value.int .i64 0] n) 3)).alloc (.cells #[vO, .slice (some ⟨w1.heap.size, 0, none⟩) n n, .slice none 0 0] 236)) (w1.heap.size + 1) vO (.slice (some ⟨w1.heap.size, 0, none⟩) n n) (.slice none 0 0) rs L n (fun _ => 0) [] /\
   Below w.heap.size w ((w1.alloc (.cells (madeCells #[Value.int .i64 0] n) 3)).alloc (.cells #[vO, .slice (some ⟨w1.heap.size, 0, none⟩) n n, .slice none 0 0] 236)) := by
 have h1 : Below w1.heap.size w1 (w1.alloc (.cells (madeCells #[Value.int .i64 0] n) 3)) := (Below.refl _ _).alloc (Nat.le_refl _) _
 have h2 : Below (w1.heap.size + 1) (w1.alloc (.cells (madeCells #[Value.int .i64 0] n) 3)) ((w1.alloc (.cells (madeCells #[Value.int .i64 0] n) 3)).alloc (.cells #[vO, .slice (some ⟨w1.heap.size, 0, none⟩) n n, .slice none 0 0] 236)) := (Below.refl _ _).alloc (by simp) _
 have hbl := h1.trans (h2.mono (Nat.le_succ _))
 have hsz := hb.size
 refine ⟨⟨?_, ?_, ?_, World.ownsRow_nil _ _ _ _, ?_⟩, hb.trans (hbl.mono hsz)⟩
 ·have := heap_alloc_new (w1.alloc (.cells (madeCells #[Value.int .i64 0] n) 3)) (.cells #[vO, .slice (some ⟨w1.heap.size, 0, none⟩) n n, .slice none 0 0] 236)
  rw [show (w1.alloc (.cells (madeCells #[Value.int .i64 0] n) 3)).heap.size = w1.heap.size + 1 by simp] at this
  exact this
 ·have := hO.below hbl
  exact ⟨zu this.row, fun i hi => zu (this.each i hi)⟩
 ·exact zE (zeros_row w1 n hn) (fun b hl _ => h2.block b (by simpa using hl))
 ·intro i b hi hv e
  have e1 : w1.heap.size = b := by simpa [Value.ownBlock] using e
  obtain ⟨cur, hc⟩ := zD (hO.each i hi) hv
  have := (Array.getElem?_eq_some_iff.1 hc).1
  omega
theorem rrows_b {w w1 : World} {vO : Value} {rs : Nat -> Value} {L : Nat -> List (Nat × Nat)} {n : Nat} (hO : Owns w1 (w.alloc (.cells (madeCells #[Value.int .i64 0] n) 3)).heap.size vO rs L n) (hb : Below (w.alloc (.cells (madeCells #[Value.int .i64 0] n) 3)).heap.size (w.alloc (.cells (madeCells #[Value.int .i64 0] n) 3)) w1) (hn : n < 10000) :
  yw (w1.alloc (.cells #[vO, .slice (some ⟨w.heap.size, 0, none⟩) n n, .slice none 0 0] 236)) w1.heap.size vO (.slice (some ⟨w.heap.size, 0, none⟩) n n) (.slice none 0 0) rs L n (fun _ => 0) [] /\
   Below w.heap.size w (w1.alloc (.cells #[vO, .slice (some ⟨w.heap.size, 0, none⟩) n n, .slice none 0 0] 236)) := by
 have h0 : Below w.heap.size w (w.alloc (.cells (madeCells #[Value.int .i64 0] n) 3)) := (Below.refl _ _).alloc (Nat.le_refl _) _
 have h1 : Below w1.heap.size w1 (w1.alloc (.cells #[vO, .slice (some ⟨w.heap.size, 0, none⟩) n n, .slice none 0 0] 236)) := (Below.refl _ _).alloc (Nat.le_refl _) _
 have hs0 : (w.alloc (.cells (madeCells #[Value.int .i64 0] n) 3)).heap.size = w.heap.size + 1 := by simp
 have hs1 := hb.size
 refine ⟨⟨heap_alloc_new w1 _, ?_, ?_, World.ownsRow_nil _ _ _ _, ?_⟩, h0.trans ((hb.mono (by omega)).trans (h1.mono (by omega)))⟩
 ·have := hO.below h1
  exact ⟨zu this.row, fun i hi => zu (this.each i hi)⟩
 ·exact zE (zeros_row w n hn) (fun b hl _ => (h1.block b (by omega)).trans (hb.block b hl))
 ·intro i b hi hv e
  have e1 : w.heap.size = b := by simpa [Value.ownBlock] using e
  have := yN (hO.each i hi) b hv
  omega
end Go.Proofs.YtfpohfifdfbpkaaGreatDoor
namespace Go.Proofs.YtfpohfifdfbpkaaGreatDoor
open Go.RowKit Scour Go.Lib
set_option maxHeartbeats 8000000 in
set_option maxRecDepth 100000 in
theorem rows_any (br gS cS : Nat) (vL : Value) (ps S : List Str) (c : Str) (w : World) (hM : yZ w br vL gS cS ps S) (hsh : ∀ k, k < S.length -> (at' S k).length < 1000) (hcl : c.length <= 256) :
  Calls Tryz.prog 132 #[.pointer (some ⟨br, 0, none⟩), .string ⟨c.toArray⟩] w fun e w' => ∃ rb vO vF vC rs, e = .returned (.pointer (some ⟨rb, 0, none⟩)) /\ yw w' rb vO vF vC rs (zU S c) S.length (zI (zU S c) S.length).o (zI (zU S c) S.length).cl /\ Below w.heap.size w w' := by
 have hSl := hM.len
 have hpos := hM.pos
 have lbr := (Array.getElem?_eq_some_iff.1 hM.blk).1
 have hmi := fun W => run_make_row' (P := Tryz.prog) 24 3 (.int .i64 0) 8 Tryz.underlying24 Tryz.infoI rfl .i64 .i64 S.length (by omega) (by omega) W
 have HEX : Hid (∀ W, Below w.heap.size w W -> Calls Tryz.prog 150 #[.pointer (some ⟨br, 0, none⟩), .string ⟨c.toArray⟩] W fun e w' => ∃ gO cO rs, e = .returned (.slice (some ⟨gO, 0, none⟩) S.length cO) /\ Owns w' W.heap.size (.slice (some ⟨gO, 0, none⟩) S.length cO) rs (zU S c) S.length /\ Below W.heap.size W w') := zB (fun W hb => (exceptions_any br gS cS vL ps S c W (hM.below hb) hsh hcl).mono (by
  rintro e w' ⟨v, rs, rfl, hO, hb2⟩
  rcases hO.row.2 with ⟨_, h0⟩ | ⟨gO, cO, cur, rfl, _⟩
  ·omega
  ·exact ⟨gO, cO, rs, rfl, hO, hb2⟩))
 have HC1 : Hid (∀ W, Below w.heap.size w W -> W.cell? ⟨br, 1, none⟩ = some (.slice (some ⟨gS, 0, none⟩) S.length cS)) := zB (fun W hb => by rw [zC (hM.below hb).blk]; rfl)
 have c1 := zA HC1 w (Below.refl _ _)
 have HNL : Hid (∀ n b, zO S n b < 10000) := zB (fun n b => Nat.lt_of_lt_of_le (rnext_lt hM n b) (by omega))
 clear hM hsh
 obtain ⟨tx, htx⟩ : ∃ tx, tx = (⟨c.toArray⟩ : ByteArray) := ⟨_, rfl⟩
 rw [← htx] at HEX ⊢
 clear htx
 generalize hL : zU S c = L at *
 have HLE : Hid (∀ s, zU S c s = L s) := zB (fun s => by rw [hL])
 clear hL
 go_enter Tryz.func132, Tryz.ntmps132
 go_wp2_with fail
 go_cut [5] (fun v wx => ∃ rb vO vF rs, v = .pointer (some ⟨rb, 0, none⟩) /\ Hid (yw wx rb vO vF (.slice none 0 0) rs L S.length (fun _ => 0) []) /\ Hid (w.heap.size <= rb /\ (∀ b, vF.ownBlock = some b -> w.heap.size <= b)) /\ Hid (Below w.heap.size w wx))
 case first =>
  go_region_with (go_at_call 150; refine (zA HEX _ (by first | exact Below.refl _ _ | exact (Below.refl _ _).alloc (Nat.le_refl _) _ | exact (Below.refl _ _).drew | exact ((Below.refl _ _).alloc (Nat.le_refl _) _).drew | exact ((Below.refl _ _).drew).alloc (Nat.le_refl _) _)).mono ?_; rintro e w1 ⟨gO, cO, rs, rfl, hO, hb1⟩; (first | have c2 : w1.cell? ⟨br, 1, none⟩ = some (.slice (some ⟨gS, 0, none⟩) S.length cS) := (hb1.cell (p := ⟨br, 1, none⟩) lbr).trans c1 | skip); have HO := zB hO; have HB1 := zB hb1; clear hO hb1)
  all_goals go_wp2_with fail
  all_goals go_meet
  ·obtain ⟨q1, q2⟩ := rrows_a (w := w) (zA HO) ⟨(zA HB1).os, (zA HB1).tape, (zA HB1).output, (zA HB1).size, (zA HB1).block⟩ hSl
   exact ⟨_, _, _, _, rfl, zB q1, zB ⟨by have := (zA HB1).size; simp at this; omega, fun b hb => by have e : w1.heap.size = b := (by simpa [Value.ownBlock] using hb); have := (zA HB1).size; simp at this; omega⟩, zB q2⟩
  ·obtain ⟨q1, q2⟩ := rrows_a (w := w) (zA HO) ⟨(zA HB1).os, (zA HB1).tape, (zA HB1).output, (zA HB1).size, (zA HB1).block⟩ hSl
   exact ⟨_, _, _, _, rfl, zB q1, zB ⟨by have := (zA HB1).size; simp at this; omega, fun b hb => by have e : w1.heap.size = b := (by simpa [Value.ownBlock] using hb); have := (zA HB1).size; simp at this; omega⟩, zB q2⟩
  ·obtain ⟨q1, q2⟩ := rrows_b (w := w) (zA HO) ⟨(zA HB1).os, (zA HB1).tape, (zA HB1).output, (zA HB1).size, (zA HB1).block⟩ hSl
   exact ⟨_, _, _, _, rfl, zB q1, zB ⟨by have := (zA HB1).size; simp at this; omega, fun b hb => by have e : w.heap.size = b := (by simpa [Value.ownBlock] using hb); omega⟩, zB q2⟩
 case rest =>
  obtain ⟨rb, vO, vF, rs, rfl, HR, HG, HB⟩ := hcut
  have c2 := zA HC1 wc (zA HB)
  have HPI : Hid (PInv w (wc.alloc (.cells (madeCells #[Value.bool false] S.length) 4)) rb wc.heap.size vO vF (.slice none 0 0) rs L S.length (zP L S.length 0)) := zB (by
   have hb1 : Below wc.heap.size wc (wc.alloc (.cells (madeCells #[Value.bool false] S.length) 4)) := (Below.refl _ _).alloc (Nat.le_refl _) _
   exact ⟨(zA HR).same (fun k hk => hb1.block k hk), falses_row wc _ hSl, (zA HB).trans (hb1.mono (zA HB).size), ⟨(zA HG).1, (zA HB).size⟩, (zA HG).2, fun b h => by cases h⟩)
  have hmb := fun W => run_make_row' (P := Tryz.prog) 254 4 (.bool false) 1 Tryz.underlying254 Tryz.infoBo rfl .i64 .i64 S.length (by omega) (by omega) W
  clear HR HG HB hmi HEX c1
  go_wp2_with fail
  generalize wc.heap.size = bd at *
  generalize wc.alloc (.cells (madeCells #[Value.bool false] S.length) 4) = wd at *
  clear c2 hmb
  go_loopg [7] S.length (fun m _ wr => ∃ (k : Nat) (vC : Value), m + k = S.length /\ Hid (leftN (zP L S.length k).d S.length = m) /\ (zP L S.length k).cl.length <= 1000 * k /\ Hid (PInv w wr rb bd vO vF vC rs L S.length (zP L S.length k)))
  case atStart => exact ⟨0, _, by omega, zB (leftN_none _), Nat.le_refl _, HPI⟩
  case round =>
   obtain ⟨k, vC, hmk, HLF, hcl2, HI⟩ := hrel
   have HST : Hid (zP L S.length (k + 1) = yA L S.length (zP L S.length k)) := zB rfl
   have HEN := zB (packTo_end L S.length k)
   generalize hp : zP L S.length k = p at *
   have HP := zB hp
   clear hp
   obtain ⟨gO, cO, rfl⟩ : ∃ gO cO, vO = .slice (some ⟨gO, 0, none⟩) S.length cO := by
    rcases (zA HI).rows.own.row.2 with ⟨_, h0⟩ | ⟨gO, cO, cur, h, _⟩
    ·omega
    ·exact ⟨gO, cO, h⟩
   have HRD : Hid (∀ W, PInv w W rb bd (.slice (some ⟨gO, 0, none⟩) S.length cO) vF vC rs L S.length p -> W.cell? ⟨br, 1, none⟩ = some (.slice (some ⟨gS, 0, none⟩) S.length cS) /\ W.cell? ⟨rb, 0, none⟩ = some (.slice (some ⟨gO, 0, none⟩) S.length cO) /\ (∀ s, s < S.length -> W.cell? ⟨bd, s, none⟩ = some (.bool (p.d s))) /\ ∀ s, s < S.length -> ∃ ao cc, W.cell? ⟨gO, s, none⟩ = some (.slice ao (2 * (L s).length) cc)) := zB (fun W h => by
    refine ⟨zA HC1 W h.below, by rw [zC h.rows.blk]; rfl, fun s hs => by rw [h.done.cellAt s (by omega), boolsF_get _ _ _ hs], fun s hs => ?_⟩
    have hr := h.rows.own.row.cellAt s (by omega)
    rw [hr]
    rcases (h.rows.own.each s hs).2 with ⟨h1, h2⟩ | ⟨g, cap, cur, h1, _⟩
    ·exact ⟨none, 0, by simp [hs, h1, h2]⟩
    ·exact ⟨some ⟨g, 0, none⟩, cap, by simp [hs, h1]⟩)
   have HLL : Hid (∀ s, (L s).length <= 256) := zB (fun s => by rw [← zA HLE]; exact Nat.le_trans (excTo_len S c s _) hcl)
   go_wp2_with fail
   go_loopw [7, 8] (fun v7 v8 wz => ∃ s q : Nat, v8 = .int .i64 s /\ s <= S.length /\ v7 = .int .i64 (za L p.d s) /\ wz = wr.drewN q) (fun _ v8 _ => S.length - (intOf v8).toNat)
   case atStart => exact ⟨0, 0, rfl, Nat.zero_le _, rfl, rfl⟩
   case round =>
    obtain ⟨s, q, rfl, hs, rfl, rfl⟩ := hrel
    obtain ⟨wz, hwz⟩ : ∃ wz, wr.drewN q = wz := ⟨_, rfl⟩
    have HIz : Hid (PInv w wz rb bd (.slice (some ⟨gO, 0, none⟩) S.length cO) vF vC rs L S.length p) := zB (hwz ▸ (zA HI).drewN q)
    rw [hwz]
    have HWZ := zB hwz
    clear hwz
    obtain ⟨y0, y1, y2, y3⟩ := zA HRD wz (zA HIz)
    by_cases hsl : s < S.length
    ·have y4 := y2 s hsl
     obtain ⟨ao, cc, y5⟩ := y3 s hsl
     have i1 : (s : Int) < (S.length : Int) := by omega
     have i2 : (0 : Int) <= (s : Int) := by omega
     have hls := zA HLL s
     have HNX : Hid (za L p.d (s + 1) = if p.d s = false /\ 0 < (L s).length /\ (za L p.d s < 0 \/ (L (za L p.d s).toNat).length < (L s).length) then (s : Int) else za L p.d s) := zB rfl
     have HW2 : Hid (∀ nq, ∃ q2, wz.drewN nq = wr.drewN q2) := zB (fun nq => ⟨q + nq, by rw [← zA HWZ, World.drewN_drewN]⟩)
     have HBS := zB (jB L p.d s)
     clear y2
     cases hd : p.d s with
     | true =>
       rw [hd] at y4
       have HX : Hid (za L p.d (s + 1) = za L p.d s) := zB (by rw [zA HNX, if_neg (by rw [hd]; simp)])
       clear HNX HBS hd y3
       generalize za L p.d s = bs at *
       go_wp2_with fail
       go_quiet (fail)
       obtain ⟨q2, hq2⟩ := zA HW2 nq
       rw [hq2]
       go_wp2_with fail
       go_roundw
       case rel => exact ⟨s + 1, q2, by go_num, hsl, by rw [zA HX], rfl⟩
       case measure => simp [intOf]; omega
     | false =>
       rw [hd] at y4
       by_cases hl0 : 0 < (L s).length
       ·have k0 : (0 : Int) < 2 * ((L s).length : Int) := by omega
        rcases zA HBS with hm1 | ⟨b, hbs, hbe, _, _⟩
        ·have HX : Hid (za L p.d (s + 1) = (s : Int)) := zB (by rw [zA HNX, if_pos ⟨hd, hl0, Or.inl (by rw [hm1]; decide)⟩])
         rw [hm1]
         clear HNX HBS hd y3 hl0 hm1
         go_wp2_with fail
         go_quiet (fail)
         obtain ⟨q2, hq2⟩ := zA HW2 nq
         rw [hq2]
         go_wp2_with fail
         go_roundw
         case rel => exact ⟨s + 1, q2, by go_num, hsl, by rw [zA HX], rfl⟩
         case measure => simp [intOf]; omega
        ·obtain ⟨ab, cb, y6⟩ := y3 b (by omega)
         have i3 : (b : Int) < (S.length : Int) := by omega
         have i4 : (0 : Int) <= (b : Int) := by omega
         have hlb := zA HLL b
         by_cases hgt : (L b).length < (L s).length
         ·have k1 : 2 * ((L b).length : Int) < 2 * ((L s).length : Int) := by omega
          have HX : Hid (za L p.d (s + 1) = (s : Int)) := zB (by rw [zA HNX, hbe, Int.toNat_natCast, if_pos ⟨hd, hl0, Or.inr hgt⟩])
          rw [hbe]
          clear HNX HBS hd y3 hl0 hbe hgt
          go_wp2_with fail
          go_quiet (fail)
          obtain ⟨q2, hq2⟩ := zA HW2 nq
          rw [hq2]
          go_wp2_with fail
          go_roundw
          case rel => exact ⟨s + 1, q2, by go_num, hsl, by rw [zA HX], rfl⟩
          case measure => simp [intOf]; omega
         ·have k1 : ¬ 2 * ((L b).length : Int) < 2 * ((L s).length : Int) := by omega
          have HX : Hid (za L p.d (s + 1) = (b : Int)) := zB (by rw [zA HNX, hbe, Int.toNat_natCast, if_neg (by rintro ⟨_, _, h | h⟩ <;> omega)])
          rw [hbe]
          clear HNX HBS hd y3 hl0 hbe hgt
          go_wp2_with fail
          go_quiet (fail)
          obtain ⟨q2, hq2⟩ := zA HW2 nq
          rw [hq2]
          go_wp2_with fail
          go_roundw
          case rel => exact ⟨s + 1, q2, by go_num, hsl, by rw [zA HX], rfl⟩
          case measure => simp [intOf]; omega
       ·have hz : (L s).length = 0 := by omega
        rw [hz, Nat.mul_zero] at y5
        have HX : Hid (za L p.d (s + 1) = za L p.d s) := zB (by rw [zA HNX, if_neg (by rintro ⟨_, h, _⟩; omega)])
        clear HNX HBS hd y3 hl0 hz hls
        generalize za L p.d s = bs at *
        go_wp2_with fail
        go_quiet (fail)
        obtain ⟨q2, hq2⟩ := zA HW2 nq
        rw [hq2]
        go_wp2_with fail
        go_roundw
        case rel => exact ⟨s + 1, q2, by go_num, hsl, by rw [zA HX], rfl⟩
        case measure => simp [intOf]; omega
    ·obtain rfl : s = S.length := by omega
     have i1 : ¬ (S.length : Int) < (S.length : Int) := by omega
     have HBS := zB (jB L p.d S.length)
     by_cases hbn : za L p.d S.length < 0
     ·have HEQ := zB (zA HEN hbn S.length (by omega))
      clear HBS
      generalize za L p.d S.length = bs at *
      clear y2 y3
      go_wp2
      go_ret
      have hfin := (zA HIz).rows
      have hbel := (zA HIz).below
      rw [← zA HEQ] at hfin
      exact ⟨rb, rfl, ⟨_, vF, vC, rs, hfin⟩, hbel⟩
     ·obtain ⟨b, hb1, hb2, hb3, hb4⟩ : ∃ b : Nat, b < S.length /\ za L p.d S.length = b /\ p.d b = false /\ 0 < (L b).length := by
       rcases zA HBS with h | h
       ·rw [h] at hbn; omega
       ·exact h
      have HPS : Hid (∀ a, a <= p.cl.length -> yo p.cl (L b) a = true -> (∀ i, i < a -> yo p.cl (L b) i = false) -> zP L S.length (k + 1) = ⟨fun k => if k = b then true else p.d k, upd p.o b (a : Nat), lay p.cl b (L b) a⟩) := zB (fun a h1 h2 h3 => by
       rw [zA HST, yA, if_neg hbn, hb2, Int.toNat_natCast, offOf_eq h1 h2 h3])
      have HLF2 : Hid (leftN (fun k => if k = b then true else p.d k) S.length + 1 = gk) := zB (by rw [leftN_upd p.d b hb3 S.length hb1]; exact zA HLF)
      have hgk : 0 < gk := by have := zA HLF2; omega
      rw [hb2]
      clear HBS hbn hb2
      have y4 := y2 b hb1
      have fz : wz.frozen? ⟨bd, b, none⟩ = false := (zA HIz).done.frozenAt b
      have HMK := zB ((zA HIz).mark hb1)
      have i3 : (b : Int) < (S.length : Int) := by omega
      have i4 : (0 : Int) <= (b : Int) := by omega
      have hlb := zA HLL b
      have HMEM : Hid (∀ x, x ∈ L b -> x.1 < 1000 /\ x.2 < 10000) := zB (fun x hx => by
       rw [← zA HLE] at hx
       have := excTo_mem (zA HNL) c.length x hx
       omega)
      clear y2 y3
      go_wp2_with fail
      generalize wz.setCell ⟨bd, b, none⟩ (.bool true) = w9 at *
      go_loop [9] (fun v9 => ∃ a : Nat, v9 = .int .i64 a /\ a <= p.cl.length /\ Hid (∀ i, i < a -> yo p.cl (L b) i = false)) (fun v9 => p.cl.length - (intOf v9).toNat)
      case atStart => exact ⟨0, rfl, Nat.zero_le _, zB (fun i h => absurd h (Nat.not_lt_zero _))⟩
      case round =>
       obtain ⟨a, rfl, hale, HFA⟩ := hrel
       have HFR := zB (free_any rb _ vF vC rs L S.length p.o p.cl b a w9 (zA HMK).rows hb1 hb4 hlb hSl (fun x hx => (zA HMEM x hx).1) (by omega) (by omega))
       cases hfb : yo p.cl (L b) a with
       | true =>
         rw [hfb] at HFR
         have HLI := zB (lies_any rb _ vF vC rs L S.length p.o p.cl b a w9 (zA HMK).rows hb1 hb4 hlb hSl (zA HMEM) (by omega) (by omega))
         have HPE := zB (zA HPS a hale hfb (zA HFA))
         have HLE2 : Hid ((lay p.cl b (L b) a).length <= p.cl.length + 1000) := zB (lay_le (fun x hx => (zA HMEM x hx).1) hale)
         clear hfb HFA HPS
         go_wp2_with (first | (go_at_call 151; refine (zA HFR).mono ?_; rintro e w' ⟨rfl, hw⟩; have hw' := hw.symm; clear hw; subst hw') | (go_at_call 152; refine (zA HLI).mono ?_; rintro e w2 ⟨rfl, vC2, hR2, hM2, ho2⟩; have HP2 := zB ((zA HMK).lie hR2 hM2 ho2); clear hR2 hM2 ho2))
         go_roundg (gk - 1)
         case measure => omega
         case rel =>
          refine ⟨k + 1, vC2, by omega, ?_, ?_, ?_⟩
          ·rw [zA HPE]; exact zB (by have := zA HLF2; simp only []; omega)
          ·rw [zA HPE]; have := zA HLE2; simp only []; omega
          ·rw [zA HPE]; exact HP2
       | false =>
         rw [hfb] at HFR
         have hal2 : a < p.cl.length := by
          rcases Nat.lt_or_ge a p.cl.length with h | h
          ·exact h
          ·have e : a = p.cl.length := by omega
           rw [e, free_end] at hfb; cases hfb
         have HFA2 : Hid (∀ i, i < a + 1 -> yo p.cl (L b) i = false) := zB (fun i hi => by
          by_cases e : i = a
          ·rw [e]; exact hfb
          ·exact zA HFA i (by omega))
         clear hfb HFA
         go_wp2_with (go_at_call 151; refine (zA HFR).mono ?_; rintro e w' ⟨rfl, hw⟩; have hw' := hw.symm; clear hw; subst hw')
         go_round
         case rel => exact ⟨a + 1, by go_num, hal2, HFA2⟩
         case measure => simp [intOf]; omega
end Go.Proofs.YtfpohfifdfbpkaaGreatDoor
