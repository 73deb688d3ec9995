import Derived.Test.YtfpohfifdfbpkaaGreatDoorRdR
import Derived.Test.YtfpohfifdfbpkaaGreatDoorRdM
import Derived.Deep.RegionHeld3
import Derived.Deep.RegionWith
import Derived.RegionDies
import Derived.Deep.RegionLaw
import Derived.Test.YtfpohfifdfbpkaaGreatDoorFlS
import Derived.Lib.SlBytesConst
namespace Go.Proofs.YtfpohfifdfbpkaaGreatDoor
set_option linter.unusedVariables false
open Go.RowKit Scour Go.Lib
def Ent8 (w : World) (v : Value) (s : Str) : Prop := (s = [] /\ v = .slice none 0 0) \/ ∃ b c, v = .slice (some ⟨b, 0, none⟩) s.length c /\ ye w b s
def yT (w w' : World) : Prop := ∀ (k : Nat) (cur : Array Value) (fr : Nat × Nat), w.heap[k]? = some (.cells cur 5 fr) -> w'.heap[k]? = w.heap[k]?
theorem yT.refl (w : World) : yT w w := fun _ _ _ _ => rfl
theorem yT.trans {w w1 w2 : World} (h : yT w w1) (k : yT w1 w2) : yT w w2 := fun b cur fr hb => by
 have h1 := h b cur fr hb
 exact (k b cur fr (h1.trans hb)).trans h1
theorem yT.below {w w' : World} (h : Below w.heap.size w w') : yT w w' := fun k cur fr hk => h.block k (Array.getElem?_eq_some_iff.1 hk).1
theorem yT.mod {w w' : World} {bc : Nat} {cs : Array Value} (h : Mod (fun k => k = bc) w w') (hb : w.heap[bc]? = some (.cells cs 128 (0, 0))) : yT w w' := fun k cur fr hk => h.out k (Array.getElem?_eq_some_iff.1 hk).1 (fun e => by
 subst e
 rw [hb] at hk
 cases hk)
theorem yT.grown {w w' : World} {base n : Nat} {v : Value} {xs : List Value} (hg : w.grownBy w' v.ownBlock) (hr : w.ownsRow base 27 1 v n xs) : yT w w' := fun k cur fr hk => hg.block k (Array.getElem?_eq_some_iff.1 hk).1 (fun e => by
 obtain ⟨cu, hcu⟩ := zD hr e.symm
 rw [hcu] at hk
 cases hk)
theorem Ent8.kept {w w' : World} {v : Value} {s : Str} (h : Ent8 w v s) (hk : yT w w') : Ent8 w' v s := by
 rcases h with h | ⟨b, c, h1, cur, fr, h2, h3⟩
 ·exact Or.inl h
 ·exact Or.inr ⟨b, c, h1, cur, fr, (hk b cur fr h2).trans h2, h3⟩
theorem Ent8.bytes {w : World} {v : Value} {s : Str} (h : Ent8 w v s) : ∃ ao c, v = .slice ao s.length c /\ jD w w.heap.size ao s /\ (ao = none -> c = 0) := by
 rcases h with ⟨h1, h2⟩ | ⟨b, c, h1, h2⟩
 ·exact ⟨none, 0, by rw [h2, h1]; rfl, fun h0 => by rw [h1] at h0; simp at h0, fun _ => rfl⟩
 ·exact ⟨_, c, h1, h2.bytes h2.lt, fun e => by cases e⟩
structure yx (w : World) (base : Nat) (v : Value) (ps : List Str) : Prop where
 ex : ∃ xs, w.ownsRow base 27 1 v ps.length xs /\ ∀ i, i < ps.length -> ∃ x, xs[i]? = some x /\ Ent8 w x (pat ps i)
theorem yx.nil (w : World) (base : Nat) : yx w base (.slice none 0 0) [] := ⟨[], World.ownsRow_nil _ _ _ _, fun _ h => absurd h (Nat.not_lt_zero _)⟩
theorem yx.same {w w' : World} {base : Nat} {v : Value} {ps : List Str} (h : yx w base v ps) (hk : yT w w') (hv : ∀ b, b < w.heap.size -> v.ownBlock = some b -> w'.heap[b]? = w.heap[b]?) : yx w' base v ps := by
 obtain ⟨xs, h1, h2⟩ := h.ex
 refine ⟨xs, zE h1 hv, fun i hi => ?_⟩
 obtain ⟨x, h3, h4⟩ := h2 i hi
 exact ⟨x, h3, h4.kept hk⟩
theorem yx.below {w w' : World} {base : Nat} {v : Value} {ps : List Str} (h : yx w base v ps) (hb : Below w.heap.size w w') : yx w' base v ps := h.same (yT.below hb) (fun b hl _ => hb.block b hl)
theorem yx.more {w w' : World} {base g cap : Nat} {v x : Value} {ps : List Str} {xs : List Value} {s : Str} (hxs : w.ownsRow base 27 1 v ps.length xs) (hall : ∀ i, i < ps.length -> ∃ x, xs[i]? = some x /\ Ent8 w x (pat ps i)) (hx : Ent8 w x s)
  (ho : w'.ownsRow base 27 1 (.slice (some ⟨g, 0, none⟩) (ps.length + 1) cap) (ps.length + 1) (xs ++ [x])) (hg : w.grownBy w' v.ownBlock) : yx w' base (.slice (some ⟨g, 0, none⟩) (ps.length + 1) cap) (ps ++ [s]) := by
 have hl : (ps ++ [s]).length = ps.length + 1 := by simp
 have hxl : xs.length = ps.length := by have := hxs.1; omega
 have hk := yT.grown hg hxs
 refine ⟨xs ++ [x], by rw [hl]; exact ho, fun i hi => ?_⟩
 rw [hl] at hi
 by_cases e : i = ps.length
 ·subst e
  exact ⟨x, by rw [List.getElem?_append_right (by omega), hxl]; simp, by rw [pat_append_new]; exact hx.kept hk⟩
 ·obtain ⟨y, h1, h2⟩ := hall i (by omega)
  exact ⟨y, by rw [List.getElem?_append_left (by omega)]; exact h1, by rw [yy (by omega)]; exact h2.kept hk⟩
theorem yx.pats {w : World} {base : Nat} {v : Value} {ps : List Str} (h : yx w base v ps) : ∃ ap cap, v = .slice ap ps.length cap /\ yO w w.heap.size ap ps := by
 obtain ⟨xs, hx, hall⟩ := h.ex
 have hx' := hx
 rcases hx.2 with ⟨rfl, h0⟩ | ⟨g, cap, cur, rfl, _, hg, _⟩
 ·exact ⟨none, 0, by rw [h0], fun hp => by omega⟩
 ·refine ⟨some ⟨g, 0, none⟩, cap, rfl, fun _ => ⟨g, 0, (Array.getElem?_eq_some_iff.1 hg).1, rfl, fun i hi => ?_⟩⟩
  obtain ⟨x, h1, h2⟩ := hall i hi
  obtain ⟨ao, c, h3, h4, _⟩ := h2.bytes
  exact ⟨ao, c, by rw [Nat.zero_add, hx'.cellAt i (by omega), h1, h3], h4⟩
structure Cts (w : World) (bc b o cap : Nat) (st pt : Value) (L : Str) (A l : List Str) : Prop where
 rdr : Rdr w bc b o cap st pt L
 sts : yx w (bc + 1) st A
 pts : yx w (bc + 1) pt l
 ne : ∀ k, st.ownBlock = some k -> pt.ownBlock ≠ some k
 low : b < bc
theorem Cts.num {w w' : World} {bc b o cap o' cap' : Nat} {st pt : Value} {L L' : Str} {A l : List Str} (h : Cts w bc b o cap st pt L A l) (hR : Rdr w' bc b o' cap' st pt L') (hm : Mod (fun k => k = bc) w w') : Cts w' bc b o' cap' st pt L' A l := by
 have hk := yT.mod hm h.rdr.blk
 obtain ⟨xs, h1, _⟩ := h.sts.ex
 obtain ⟨ys, h2, _⟩ := h.pts.ex
 exact ⟨hR, h.sts.same hk (fun k hl hv => hm.out k hl (fun e => by have := yN h1 k hv; omega)), h.pts.same hk (fun k hl hv => hm.out k hl (fun e => by have := yN h2 k hv; omega)), h.ne, h.low⟩
def KeepE (w w' : World) : Prop := ∀ (k : Nat) (cur : Array Value) (fr : Nat × Nat), w.heap[k]? = some (.cells cur 81 fr) -> w'.heap[k]? = w.heap[k]?
structure BK (bc : Nat) (w w' : World) : Prop where
 bel : Below bc w w'
 ke : KeepE w w'
theorem BK.refl (bc : Nat) (w : World) : BK bc w w := ⟨Below.refl _ _, fun _ _ _ _ => rfl⟩
theorem BK.trans {bc : Nat} {w w1 w2 : World} (h : BK bc w w1) (k : BK bc w1 w2) : BK bc w w2 := ⟨h.bel.trans k.bel, fun b cur fr hb => by
 have h1 := h.ke b cur fr hb
 exact (k.ke b cur fr (h1.trans hb)).trans h1⟩
theorem BK.mod {bc : Nat} {w w' : World} {cs : Array Value} (h : Mod (fun k => k = bc) w w') (hb : w.heap[bc]? = some (.cells cs 128 (0, 0))) : BK bc w w' :=
 ⟨h.below (Nat.le_of_lt (Array.getElem?_eq_some_iff.1 hb).1) (fun k e => Nat.le_of_eq e.symm), fun k cur fr hk => h.out k (Array.getElem?_eq_some_iff.1 hk).1 (fun e => by
  subst e
  rw [hb] at hk
  cases hk)⟩
theorem BK.up {bc : Nat} {w w' : World} (h : Below w.heap.size w w') (hl : bc <= w.heap.size) : BK bc w w' := ⟨h.mono hl, fun k cur fr hk => h.block k (Array.getElem?_eq_some_iff.1 hk).1⟩
theorem BK.drewN {bc : Nat} {w : World} (n : Nat) (hl : bc <= w.heap.size) : BK bc w (w.drewN n) := BK.up (below_drewN (Below.refl _ _) n) hl
theorem BK.grown {bc : Nat} {w w' : World} {base n : Nat} {v : Value} {xs : List Value} (hg : w.grownBy w' v.ownBlock) (hr : w.ownsRow base 27 1 v n xs) (hl : bc <= w.heap.size) (hv : ∀ k, v.ownBlock = some k -> bc <= k) : BK bc w w' :=
 ⟨zG hg hl hv, fun k cur fr hk => hg.block k (Array.getElem?_eq_some_iff.1 hk).1 (fun e => by
  obtain ⟨cu, hcu⟩ := zD hr e.symm
  rw [hcu] at hk
  cases hk)⟩
def StPost (w : World) (bc b : Nat) (st pt : Value) (L : Str) (A l : List Str) (e : Ending) (w' : World) : Prop :=
 (∃ (p : Nat) (L' : Str) (o cap : Nat) (x : Value), e = .returned x /\ p < A.length /\ Hid (rdR 4 0 1 L = some (p, L')) /\ Hid (Ent8 w' x (at' A p)) /\ Hid (Cts w' bc b o cap st pt L' A l) /\ Hid (BK bc w w') /\ Hid (yT w w'))
 \/ (e = .panicked (faultP 10) /\ Hid (∀ p r, rdR 4 0 1 L = some (p, r) -> A.length <= p) /\ Hid (BK bc w w'))
set_option maxHeartbeats 400000 in
set_option maxRecDepth 100000 in
theorem cstate_any (bc b o cap : Nat) (st pt : Value) (L : Str) (A l : List Str) (w : World) (h : Cts w bc b o cap st pt L A l) (hA : 0 < A.length) (hA2 : A.length < 10000) :
  Calls Tryz.prog 136 #[.pointer (some ⟨bc, 0, none⟩)] w (StPost w bc b st pt L A l) := by
 obtain ⟨xs, hxs, hall⟩ := h.sts.ex
 obtain ⟨g, c, rfl⟩ := owns_some hxs hA
 have hlt : bc < w.heap.size := (Array.getElem?_eq_some_iff.1 h.rdr.blk).1
 have c1 : w.cell? ⟨bc, 1, none⟩ = some (.slice (some ⟨g, 0, none⟩) A.length c) := by rw [zC h.rdr.blk]; rfl
 have HNU : Hid (∀ q, Calls Tryz.prog 134 #[.pointer (some ⟨bc, 0, none⟩), .int .i64 ((A.length : Int) - 1)] (w.drewN q) fun e w' => (∃ (p : Nat) (L' : Str) (o cap : Nat) (x : Value), e = .returned (.int .i64 p) /\ p < A.length /\ Hid (rdR 4 0 1 L = some (p, L')) /\ Hid (Ent8 w' x (at' A p)) /\ Hid (Cts w' bc b o cap (.slice (some ⟨g, 0, none⟩) A.length c) pt L' A l) /\ Hid (BK bc w w') /\ Hid (yT w w') /\ w'.cell? ⟨bc, 1, none⟩ = some (.slice (some ⟨g, 0, none⟩) A.length c) /\ w'.cell? ⟨g, p, none⟩ = some x /\ w'.cell? ⟨g, p, none⟩ = w.cell? ⟨g, p, none⟩) \/ (e = .panicked (faultP 10) /\ Hid (∀ p r, rdR 4 0 1 L = some (p, r) -> A.length <= p) /\ Hid (BK bc w w'))) := zB fun q => by
  have hd : Mod (fun k => k = bc) w (w.drewN q) := Mod.drewN w q
  have hR : Rdr (w.drewN q) bc b o cap (.slice (some ⟨g, 0, none⟩) A.length c) pt L := ⟨h.rdr.blk, h.rdr.cel, h.rdr.ne, h.rdr.room, h.rdr.small⟩
  refine (rnumber_any bc b o cap _ pt L ((A.length : Int) - 1) (w.drewN q) hR).mono ?_
  rintro e w' (⟨v, r, o', cap', rfl, hv, hm, H1, H2, H3⟩ | ⟨rfl, H1, H3⟩)
  ·have hm2 := hd.trans (zA H3) (fun _ _ e => e)
   have hC := h.num (zA H2) hm2
   obtain ⟨ys, hys, hall2⟩ := hC.sts.ex
   obtain ⟨x, hx1, hx2⟩ := hall2 v (by omega)
   refine Or.inl ⟨v, r, o', cap', x, rfl, by omega, H1, zB hx2, zB hC, zB (BK.mod hm2 h.rdr.blk), zB (yT.mod hm2 h.rdr.blk), by rw [zC (zA H2).blk]; rfl, ?_, ?_⟩
   ·rw [hys.cellAt v (by omega)]; exact hx1
   ·have hgb := yQ hxs
    have hgl : g < w.heap.size := by
     obtain ⟨cu, hcu⟩ := zK hxs
     exact (Array.getElem?_eq_some_iff.1 hcu).1
    have e := hm2.out g hgl (by omega)
    unfold World.cell?
    simp only [e]
  ·exact Or.inr ⟨rfl, zB (fun p r e => by have := zA H1 p r e; omega), zB (BK.mod (hd.trans (zA H3) (fun _ _ e => e)) h.rdr.blk)⟩
 have HS : Hid ((∃ p r, rdR 4 0 1 L = some (p, r) /\ p < A.length) \/ ∀ p r, rdR 4 0 1 L = some (p, r) -> A.length <= p) := zB (by
  by_cases hq : ∃ p r, rdR 4 0 1 L = some (p, r) /\ p < A.length
  ·exact Or.inl hq
  ·exact Or.inr fun p r e => by
    rcases Nat.lt_or_ge p A.length with h1 | h1
    ·exact absurd ⟨p, r, e, h1⟩ hq
    ·exact h1)
 have hw : IntKind.i64.wrap ((A.length : Int) - 1) = (A.length : Int) - 1 := by rw [IntKind.wrap_i64]; omega
 have hw2 : wrap64 ((A.length : Int) - 1) = (A.length : Int) - 1 := by unfold wrap64; omega
 have HXS : Hid (∀ p, p < A.length -> ∃ x, w.cell? ⟨g, p, none⟩ = some x) := zB fun p hp => by
  obtain ⟨x, h1, _⟩ := hall p hp
  exact ⟨x, by rw [hxs.cellAt p (by omega)]; exact h1⟩
 have HGN : Hid (g ≠ bc) := zB (by have := yQ hxs; omega)
 clear h hxs hall
 rcases zA HS with ⟨p0, r0, hp0, hpl⟩ | hno
 ·obtain ⟨x0, hx0⟩ := zA HXS p0 hpl
  have HOK : Hid (∀ q, Calls Tryz.prog 134 #[.pointer (some ⟨bc, 0, none⟩), .int .i64 ((A.length : Int) - 1)] (w.drewN q) fun e w' => e = .returned (.int .i64 p0) /\ ∃ (o cap : Nat) (x : Value), Hid (Ent8 w' x (at' A p0)) /\ Hid (Cts w' bc b o cap (.slice (some ⟨g, 0, none⟩) A.length c) pt r0 A l) /\ Hid (BK bc w w') /\ Hid (yT w w') /\ w'.cell? ⟨bc, 1, none⟩ = some (.slice (some ⟨g, 0, none⟩) A.length c) /\ w'.cell? ⟨g, p0, none⟩ = some x /\ x = x0) := zB fun q => by
   refine (zA HNU q).mono ?_
   rintro e w' (⟨p, L', o', cap', x, rfl, hp, H1, H2, H3, H4, H5, y0, y1, z1⟩ | ⟨rfl, H1, H2⟩)
   ·have := zA H1
    rw [hp0] at this
    cases this
    exact ⟨rfl, o', cap', x, H2, H3, H4, H5, y0, y1, Option.some.inj (y1.symm.trans (z1.trans hx0))⟩
   ·have := zA H1 _ _ hp0; omega
  have HP0 := zB hp0
  unfold StPost
  clear HNU HS hp0
  generalize hm : A.length = m at *
  have HMM := zB hm
  clear hm
  have m0 : (0 : Int) <= (m : Int) := by omega
  have p1 : (p0 : Int) < (m : Int) := by omega
  have p2 : (0 : Int) <= (p0 : Int) := by omega
  go_enter Tryz.func136, Tryz.ntmps136
  go_wp2_with fail
  go_region_held3 (fun w' => w'.cell? ⟨bc, 1, none⟩ = some (.slice (some ⟨g, 0, none⟩) m c) /\ w'.cell? ⟨g, p0, none⟩ = some x0) (go_keep)
   (first | (go_at_call 134; refine (zA HOK 1).mono ?_; rintro e w' ⟨rfl, o', cap', x, H2, H3, H4, H5, y0, y1, rfl⟩))
  all_goals go_wp2_with fail
  all_goals go_ret
  all_goals exact Or.inl ⟨p0, r0, _, _, _, rfl, hpl, HP0, H2, H3, H4, H5⟩
 ·have HOK : Hid (∀ q, Calls Tryz.prog 134 #[.pointer (some ⟨bc, 0, none⟩), .int .i64 ((A.length : Int) - 1)] (w.drewN q) fun e w' => e = .panicked (faultP 10) /\ Hid (BK bc w w')) := zB fun q => by
   refine (zA HNU q).mono ?_
   rintro e w' (⟨p, L', o', cap', x, rfl, hp, H1, H2, H3, H4, H5, y0, y1, z1⟩ | ⟨rfl, H1, H2⟩)
   ·have := hno _ _ (zA H1); omega
   ·exact ⟨rfl, H2⟩
  have HNO := zB hno
  unfold StPost
  clear HNU HS hno
  generalize hm : A.length = m at *
  have HMM := zB hm
  clear hm
  have m0 : (0 : Int) <= (m : Int) := by omega
  go_enter Tryz.func136, Tryz.ntmps136
  go_wp2_with fail
  go_region_dies
  all_goals (refine (zA HOK 1).mono ?_; rintro e w' ⟨rfl, H2⟩; exact ⟨rfl, Or.inr ⟨rfl, HNO, H2⟩⟩)
def SkPost (w : World) (bc b : Nat) (st pt : Value) (L : Str) (A l : List Str) (e : Ending) (w' : World) : Prop :=
 (∃ (L' : Str) (o cap : Nat), e = .returned (.tuple #[]) /\ Hid (Cts w' bc b o cap st pt L' A l) /\ Hid (BK bc w w') /\ Hid (∀ cs T : Str, cs.length <= 256 -> L = zN cs.length ++ (cs ++ T) -> L' = T))
 \/ (e = .panicked (faultP 10) /\ Hid (BK bc w w') /\ Hid (∀ cs T : Str, cs.length <= 256 -> L = zN cs.length ++ (cs ++ T) -> False))
theorem Cts.lt {w : World} {bc b o cap : Nat} {st pt : Value} {L : Str} {A l : List Str} (h : Cts w bc b o cap st pt L A l) : bc < w.heap.size := (Array.getElem?_eq_some_iff.1 h.rdr.blk).1
set_option maxHeartbeats 4000000 in
set_option maxRecDepth 100000 in
theorem cskip_any (bc b o cap : Nat) (st pt : Value) (L : Str) (A l : List Str) (w : World) (h : Cts w bc b o cap st pt L A l) :
  Calls Tryz.prog 103 #[.pointer (some ⟨bc, 0, none⟩)] w (SkPost w bc b st pt L A l) := by
 have hlt := h.lt
 have HNU := zB (rnumber_any bc b o cap st pt L 256 w h.rdr)
 have HC := zB h
 unfold SkPost
 clear h
 go_enter Tryz.func103, Tryz.ntmps103
 go_wp2_with fail
 refine (zA HNU).mono ?_
 rintro e w1 (⟨n, r, o1, cap1, rfl, hn, hn2, H1, H2, H3⟩ | ⟨rfl, H1, H3⟩)
 ·have HC1 := zB ((zA HC).num (zA H2) (zA H3))
  have HB1 := zB (BK.mod (zA H3) (zA HC).rdr.blk)
  have HG1 : Hid (∀ cs T : Str, cs.length <= 256 -> L = zN cs.length ++ (cs ++ T) -> n = cs.length /\ r = cs ++ T) := zB (by
   intro cs T hc e
   have := zA H1
   rw [e, rd4 (by omega)] at this
   cases this
   exact ⟨rfl, rfl⟩)
  clear HNU HC H1 H2 H3
  go_wp2_with fail
  go_loopw [6] (fun v6 wr => ∃ (k : Nat) (L' : Str) (o cap : Nat), v6 = .int .i64 k /\ k <= n /\ Hid (Cts wr bc b o cap st pt L' A l) /\ Hid (BK bc w wr) /\ Hid (∀ cs T : Str, cs.length <= 256 -> L = zN cs.length ++ (cs ++ T) -> n = cs.length /\ L' = cs.drop k ++ T)) (fun v6 _ => n - (intOf v6).toNat)
  case atStart => exact ⟨0, r, o1, cap1, rfl, Nat.zero_le _, HC1, HB1, HG1⟩
  case round =>
   obtain ⟨k, L', o2, cap2, rfl, hk, HC2, HB2, HG2⟩ := hrel
   by_cases hkn : k < n
   ·have k1 : (k : Int) < (n : Int) := by omega
    cases L' with
    | nil =>
      have HNX := zB (rnext_none bc b o2 cap2 st pt wr (zA HC2).rdr)
      go_wp2_with (go_at_call 135; refine (zA HNX).mono ?_; rintro e w' ⟨rfl, hw'⟩; obtain rfl := hw'.symm)
      refine ⟨rfl, Or.inr ⟨rfl, HB2, zB (fun cs T hc e => ?_)⟩⟩
      obtain ⟨h1, h2⟩ := zA HG2 cs T hc e
      have := congrArg List.length h2
      simp at this; omega
    | cons c L' =>
      have HNX := zB (rnext_some bc b o2 cap2 st pt c L' wr (zA HC2).rdr)
      have HC3 := zB ((zA HC2).num (zA HC2).rdr.step (Mod.setCell wr bc 0 _))
      have HB3 := zB ((zA HB2).trans (BK.mod (Mod.setCell wr bc 0 (.slice (some ⟨b, o2 + 1, none⟩) L'.length (cap2 - 1))) (zA HC2).rdr.blk))
      have HG3 : Hid (∀ cs T : Str, cs.length <= 256 -> L = zN cs.length ++ (cs ++ T) -> n = cs.length /\ L' = cs.drop (k + 1) ++ T) := zB (by
       intro cs T hc e
       obtain ⟨h1, h2⟩ := zA HG2 cs T hc e
       refine ⟨h1, ?_⟩
       rw [List.drop_eq_getElem_cons (show k < cs.length by omega)] at h2
       exact (List.cons.inj h2).2)
      clear HC2 HB2 HG2
      go_wp2_with (go_at_call 135; refine (zA HNX).mono ?_; rintro e w' ⟨rfl, rfl⟩)
      go_roundw
      case rel => exact ⟨k + 1, L', _, _, by go_num, hkn, HC3, HB3, HG3⟩
      case measure => simp [intOf]; omega
   ·obtain rfl : k = n := by omega
    go_wp2_with fail
    go_end0
    refine Or.inl ⟨L', o2, cap2, rfl, HC2, HB2, zB (fun cs T hc e => ?_)⟩
    obtain ⟨h1, h2⟩ := zA HG2 cs T hc e
    rw [h2, h1, List.drop_length, List.nil_append]
 ·have HB1 := zB (BK.mod (zA H3) (zA HC).rdr.blk)
  go_wp2_with fail
  refine ⟨rfl, Or.inr ⟨rfl, HB1, zB (fun cs T hc e => ?_)⟩⟩
  have := zA H1 cs.length (cs ++ T) (by rw [e, rd4 (by omega)])
  omega
end Go.Proofs.YtfpohfifdfbpkaaGreatDoor
namespace Go.Proofs.YtfpohfifdfbpkaaGreatDoor
open Go.RowKit Scour Go.Lib
theorem yT.setC {w : World} {bc o : Nat} {v : Value} {cs : Array Value} (hb : w.heap[bc]? = some (.cells cs 128 (0, 0))) : yT w (w.setCell ⟨bc, o, none⟩ v) := yT.mod (Mod.setCell w bc o v) hb
theorem yx.setC {w : World} {bc o : Nat} {v x : Value} {cs : Array Value} {ps : List Str} (h : yx w (bc + 1) x ps) (hb : w.heap[bc]? = some (.cells cs 128 (0, 0))) : yx (w.setCell ⟨bc, o, none⟩ v) (bc + 1) x ps := by
 obtain ⟨xs, h1, _⟩ := h.ex
 refine h.same (yT.setC hb) (fun k hl hv => Below.heap_setCell w ⟨bc, o, none⟩ _ k ?_)
 have := yN h1 k hv
 show k ≠ bc
 omega
theorem cell_setC {w : World} {bc b o j : Nat} {v : Value} (h : b ≠ bc) : (w.setCell ⟨bc, o, none⟩ v).cell? ⟨b, j, none⟩ = w.cell? ⟨b, j, none⟩ := by
 have e : (w.setCell ⟨bc, o, none⟩ v).heap[b]? = w.heap[b]? := Below.heap_setCell w ⟨bc, o, none⟩ v b h
 unfold World.cell?
 simp only [e]
theorem Cts.setS {w : World} {bc b o cap : Nat} {st st' pt : Value} {L : Str} {A l : List Str} (hR : Rdr w bc b o cap st pt L) (hS : yx w (bc + 1) st' A) (hP : yx w (bc + 1) pt l) (hne : ∀ k, st'.ownBlock = some k -> pt.ownBlock ≠ some k) (hlow : b < bc) : Cts (w.setCell ⟨bc, 1, none⟩ st') bc b o cap st' pt L A l :=
 ⟨⟨heap_setCell_same w _ _ _ _ _ hR.blk, fun j hj => by rw [cell_setC hR.ne]; exact hR.cel j hj, hR.ne, hR.room, hR.small⟩, hS.setC hR.blk, hP.setC hR.blk, hne, hlow⟩
theorem Cts.setP {w : World} {bc b o cap : Nat} {st pt pt' : Value} {L : Str} {A l : List Str} (hR : Rdr w bc b o cap st pt L) (hS : yx w (bc + 1) st A) (hP : yx w (bc + 1) pt' l) (hne : ∀ k, st.ownBlock = some k -> pt'.ownBlock ≠ some k) (hlow : b < bc) : Cts (w.setCell ⟨bc, 2, none⟩ pt') bc b o cap st pt' L A l :=
 ⟨⟨heap_setCell_same w _ _ _ _ _ hR.blk, fun j hj => by rw [cell_setC hR.ne]; exact hR.cel j hj, hR.ne, hR.room, hR.small⟩, hS.setC hR.blk, hP.setC hR.blk, hne, hlow⟩
theorem Rdr.keep {w w' : World} {bc b o cap : Nat} {st pt : Value} {L : Str} (h : Rdr w bc b o cap st pt L) (h1 : w'.heap[bc]? = w.heap[bc]?) (h2 : w'.heap[b]? = w.heap[b]?) : Rdr w' bc b o cap st pt L :=
 ⟨h1.trans h.blk, fun j hj => by
  have := h.cel j hj
  unfold World.cell? at this ⊢
  simp only [h2]; exact this, h.ne, h.room, h.small⟩
theorem Cts.below {w w' : World} {bc b o cap : Nat} {st pt : Value} {L : Str} {A l : List Str} (h : Cts w bc b o cap st pt L A l) (hb : Below w.heap.size w w') : Cts w' bc b o cap st pt L A l :=
 ⟨h.rdr.keep (hb.block _ h.lt) (hb.block _ (by have := h.lt; have := h.low; omega)), h.sts.below hb, h.pts.below hb, h.ne, h.low⟩
theorem Cts.start {w : World} {bc b o cap : Nat} {pt : Value} {L : Str} {l : List Str} (h : Cts w bc b o cap (.slice none 0 0) pt L [] l) : Cts ((w.alloc (.cells #[.slice none 0 0] 27)).setCell ⟨bc, 1, none⟩ (.slice (some ⟨w.heap.size, 0, none⟩) 1 1)) bc b o cap (.slice (some ⟨w.heap.size, 0, none⟩) 1 1) pt L [[]] l := by
 have hb : Below w.heap.size w (w.alloc (.cells #[.slice none 0 0] 27)) := (Below.refl _ _).alloc (Nat.le_refl _) _
 have h1 := h.below hb
 refine Cts.setS h1.rdr ⟨[.slice none 0 0], ?_, fun i hi => ?_⟩ h1.pts (fun k hk hk2 => ?_) h.low
 ·refine ⟨by simp, Or.inr ⟨w.heap.size, 1, _, rfl, h.lt, heap_alloc_new w _, by simp, by decide, by simp, ?_⟩⟩
  simp
 ·obtain rfl : i = 0 := by simp at hi; exact hi
  exact ⟨_, rfl, Or.inl ⟨rfl, rfl⟩⟩
 ·have e : w.heap.size = k := by simpa [Value.ownBlock] using hk
  obtain ⟨xs, hx, _⟩ := h.pts.ex
  obtain ⟨cu, hcu⟩ := zD hx hk2
  have := (Array.getElem?_eq_some_iff.1 hcu).1
  omega
theorem grown_alloc {w w' : World} {o : Obj} {r : Option Nat} (h : (w.alloc o).grownBy w' r) {k : Nat} (hk : k < w.heap.size) (hr : some k ≠ r) : w'.heap[k]? = w.heap[k]? :=
 (h.block k (by simp; omega) hr).trans (heap_alloc_old w o hk)
theorem Cts.moreS {w w' : World} {bc b o cap g cs g8 cap8 : Nat} {pt x : Value} {L s : Str} {A l : List Str} {ys : List Value} {ob : Obj} (h : Cts w bc b o cap (.slice (some ⟨g, 0, none⟩) A.length cs) pt L A l)
  (hys : w.ownsRow (bc + 1) 27 1 (.slice (some ⟨g, 0, none⟩) A.length cs) A.length ys) (hall : ∀ i, i < A.length -> ∃ x, ys[i]? = some x /\ Ent8 w x (pat A i)) (hE : Ent8 w x s)
  (hO : w'.ownsRow (bc + 1) 27 1 (.slice (some ⟨g8, 0, none⟩) (A.length + 1) cap8) (A.length + 1) (ys ++ [x])) (hg : (w.alloc ob).grownBy w' (some g)) (hat : some g = some g8 \/ g8 = w.heap.size + 1) :
  Cts (w'.setCell ⟨bc, 1, none⟩ (.slice (some ⟨g8, 0, none⟩) (A.length + 1) cap8)) bc b o cap (.slice (some ⟨g8, 0, none⟩) (A.length + 1) cap8) pt L (A ++ [s]) l
  /\ w'.cell? ⟨bc, 1, none⟩ = some (.slice (some ⟨g, 0, none⟩) A.length cs) /\ w'.frozen? ⟨bc, 1, none⟩ = false /\ BK bc w (w'.setCell ⟨bc, 1, none⟩ (.slice (some ⟨g8, 0, none⟩) (A.length + 1) cap8)) := by
 have hge := yQ hys
 have hlt := h.lt
 have hlow := h.low
 have hbk : w'.heap[bc]? = w.heap[bc]? := grown_alloc hg hlt (by simp; omega)
 have hb2 : w'.heap[b]? = w.heap[b]? := grown_alloc hg (by omega) (by simp; omega)
 have hal : Below w.heap.size w (w.alloc ob) := (Below.refl _ _).alloc (Nat.le_refl _) _
 have hyA := zE hys (fun k hk _ => hal.block k hk)
 have hgl : g < w.heap.size := by
  obtain ⟨cu, hcu⟩ := zK hys
  exact (Array.getElem?_eq_some_iff.1 hcu).1
 have hR : Rdr w' bc b o cap (.slice (some ⟨g, 0, none⟩) A.length cs) pt L := h.rdr.keep hbk hb2
 have hS : yx w' (bc + 1) (.slice (some ⟨g8, 0, none⟩) (A.length + 1) cap8) (A ++ [s]) := yx.more hyA (fun i hi => by
  obtain ⟨y, h1, h2⟩ := hall i hi
  exact ⟨y, h1, h2.kept (yT.below hal)⟩) (hE.kept (yT.below hal)) hO hg
 obtain ⟨zs, hzs, _⟩ := h.pts.ex
 have hP : yx w' (bc + 1) pt l := (h.pts.below hal).same (yT.grown (v := .slice (some ⟨g, 0, none⟩) A.length cs) hg hyA) (fun k hk hv => hg.block k hk (fun e => h.ne g rfl (by rw [hv, e])))
 have hgk : ∀ k, (Value.slice (some ⟨g, 0, none⟩) A.length cs).ownBlock = some k -> bc <= k := fun k e => by
  have e2 : g = k := by simpa [Value.ownBlock] using e
  omega
 have hbw : BK bc w w' := (BK.up hal (Nat.le_of_lt hlt)).trans (BK.grown (v := .slice (some ⟨g, 0, none⟩) A.length cs) hg hyA (Nat.le_trans (Nat.le_of_lt hlt) hal.size) hgk)
 refine ⟨Cts.setS hR hS hP (fun k hk hk2 => ?_) hlow, by rw [zC hR.blk]; rfl, frozen_of_row _ _ _ _ _ hR.blk, hbw.trans (BK.mod (Mod.setCell w' bc 1 _) hR.blk)⟩
 have e : g8 = k := by simpa [Value.ownBlock] using hk
 subst e
 rcases hat with e | e
 ·cases e; exact h.ne g rfl hk2
 ·obtain ⟨cu, hcu⟩ := zD hzs hk2
  have := (Array.getElem?_eq_some_iff.1 hcu).1
  omega
theorem concat_cts (bc b o cap : Nat) (st pt : Value) (L : Str) (A l : List Str) (ao : Option Addr) (c1 : Nat) (x : Str) (c : UInt8) (w : World) (h : Cts w bc b o cap st pt L A l) (hx : x.length < 100000) (hB : jD w w.heap.size ao x) (hn : ao = none -> c1 = 0) :
  Calls Tryz.prog 137 #[.slice (some ⟨w.heap.size + 1, 0, none⟩) 2 2] ((w.alloc (.cells #[.int .u8 (c.toNat : Int)] 5)).alloc (.cells #[.slice ao x.length c1, .slice (some ⟨w.heap.size, 0, none⟩) 1 1] 27)).drew fun e w' => ∃ g cap', e = .returned (.slice (some ⟨g, 0, none⟩) (x.length + 1) cap') /\ Hid (Cts w' bc b o cap st pt L A l) /\ Hid (Ent8 w' (.slice (some ⟨g, 0, none⟩) (x.length + 1) cap') (x ++ [c])) /\ Hid (BK bc w w') /\ w'.cell? ⟨bc, 1, none⟩ = some st := by
 obtain ⟨W, hW⟩ : ∃ W, W = ((w.alloc (.cells #[.int .u8 (c.toNat : Int)] 5)).alloc (.cells #[.slice ao x.length c1, .slice (some ⟨w.heap.size, 0, none⟩) 1 1] 27)).drew := ⟨_, rfl⟩
 have hb1 : Below w.heap.size w W := by
  rw [hW]
  exact below_drewN (((Below.refl w.heap.size w).alloc (Nat.le_refl _) _).alloc (by simp) _) 1
 have hn2 : W.heap[w.heap.size + 1]? = some (.cells #[.slice ao x.length c1, .slice (some ⟨w.heap.size, 0, none⟩) 1 1] 27 (0, 0)) := by
  rw [hW]
  have := heap_alloc_new (w.alloc (.cells #[.int .u8 (c.toNat : Int)] 5)) (.cells #[.slice ao x.length c1, .slice (some ⟨w.heap.size, 0, none⟩) 1 1] 27)
  rw [show (w.alloc (.cells #[.int .u8 (c.toNat : Int)] 5)).heap.size = w.heap.size + 1 by simp] at this
  exact this
 have hn1 : W.heap[w.heap.size]? = some (.cells #[.int .u8 (c.toNat : Int)] 5 (0, 0)) := by
  rw [hW]
  exact (heap_alloc_old (w.alloc (.cells #[.int .u8 (c.toNat : Int)] 5)) _ (by simp)).trans (heap_alloc_new w _)
 have hsz : W.heap.size = w.heap.size + 2 := by rw [hW]; show ((w.alloc _).alloc _).heap.size = _; simp
 rw [← hW]
 refine (concat_any (w.heap.size + 1) w.heap.size ao c1 x c W hx (by rw [zC hn2]; rfl) (by rw [zC hn2]; rfl) (fun h0 => by
  obtain ⟨b', o', hl, e, hc⟩ := (hB.below hb1 (Nat.le_refl _)) h0
  exact ⟨b', o', by omega, e, hc⟩) hn (by rw [zC hn1]; rfl) (by omega) (by omega)).mono ?_
 rintro e w' ⟨g, cap', rfl, HO, HB'⟩
 have hb2 : Below w.heap.size w w' := hb1.trans ((zA HB').mono hb1.size)
 have hC := h.below hb2
 refine ⟨g, cap', rfl, zB hC, zB (Or.inr ⟨g, cap', by simp, ?_⟩), zB (BK.up hb2 (Nat.le_of_lt h.lt)), by rw [zC hC.rdr.blk]; rfl⟩
 obtain ⟨cu, hcu⟩ := zK (zA HO)
 refine ⟨cu, _, hcu, fun j hj => ?_⟩
 have h1 := (zA HO).cellAt j (by simpa using hj)
 rw [zC hcu j] at h1
 rw [h1, List.getElem?_map, List.getElem?_eq_getElem hj, List.getD_eq_getElem?_getD, List.getElem?_eq_getElem hj]
 rfl
def SsPost (w : World) (bc b : Nat) (pt : Value) (L : Str) (l : List Str) (e : Ending) (w' : World) : Prop :=
 (∃ (L' : Str) (o cap : Nat) (st : Value) (A : List Str), e = .returned (.tuple #[]) /\ 0 < A.length /\ A.length <= 600 /\ Hid (∀ p, p < A.length -> (at' A p).length <= p) /\ Hid (Cts w' bc b o cap st pt L' A l) /\ Hid (BK bc w w') /\ Hid (∀ ps S, ym ps S -> L = zN S.length ++ stT ps S 1 -> A = S /\ L' = zN ps.length ++ patT ps S 0))
 \/ (e = .panicked (faultP 10) /\ Hid (BK bc w w') /\ Hid (∀ ps S, ym ps S -> L = zN S.length ++ stT ps S 1 -> False))
theorem at_pat (A : List Str) (i : Nat) : at' A i = pat A i := rfl
set_option maxHeartbeats 8000000 in
set_option maxRecDepth 100000 in
theorem cstates_any (bc b o cap : Nat) (pt : Value) (L : Str) (l : List Str) (w : World) (h : Cts w bc b o cap (.slice none 0 0) pt L [] l) :
  Calls Tryz.prog 104 #[.pointer (some ⟨bc, 0, none⟩)] w (SsPost w bc b pt L l) := by
 obtain ⟨i0, hi, hz0, hz1, hz2⟩ := info_parts Tryz.infoL
 have hlt := h.lt
 have hb : Below w.heap.size w (w.alloc (.cells #[.slice none 0 0] 27)) := (Below.refl _ _).alloc (Nat.le_refl _) _
 have q1 : (w.alloc (.cells #[.slice none 0 0] 27)).cell? ⟨bc, 1, none⟩ = some (.slice none 0 0) := by rw [zC ((hb.block bc hlt).trans h.rdr.blk)]; rfl
 have q2 : (w.alloc (.cells #[.slice none 0 0] 27)).frozen? ⟨bc, 1, none⟩ = false := frozen_of_row _ _ _ _ _ ((hb.block bc hlt).trans h.rdr.blk)
 have HC1 := zB h.start
 have HB1 : Hid (BK bc w ((w.alloc (.cells #[.slice none 0 0] 27)).setCell ⟨bc, 1, none⟩ (.slice (some ⟨w.heap.size, 0, none⟩) 1 1))) := zB ((BK.up hb (Nat.le_of_lt hlt)).trans (BK.mod (Mod.setCell _ bc 1 _) ((hb.block bc hlt).trans h.rdr.blk)))
 rw [World.setCell_alloc_past _ _ _ _ hlt] at HC1 HB1
 have HNU := zB (rnumber_any bc b o cap _ pt L 513 _ (zA HC1).rdr)
 clear h hb
 go_enter Tryz.func104, Tryz.ntmps104
 go_wp2_with fail
 generalize (w.setCell ⟨bc, 1, none⟩ (.slice (some ⟨w.heap.size, 0, none⟩) 1 1)).alloc (.cells #[.slice none 0 0] 27) = w1 at *
 refine (zA HNU).mono ?_
 rintro e w2 (⟨n, r, o1, cap1, rfl, hn, hn2, H1, H2, H3⟩ | ⟨rfl, H1, H3⟩)
 ·have HC2 := zB ((zA HC1).num (zA H2) (zA H3))
  have HB2 := zB ((zA HB1).trans (BK.mod (zA H3) (zA HC1).rdr.blk))
  have HG2 : Hid (∀ ps S, ym ps S -> L = zN S.length ++ stT ps S 1 -> n = S.length /\ 1 <= S.length /\ [[]] = S.take 1 /\ r = stT ps S 1) := zB (by
   intro ps S g e
   have := zA H1
   have hl := g.len
   rw [e, rd4 (by omega)] at this
   cases this
   refine ⟨rfl, by omega, ?_, rfl⟩
   have h2 := take_more (S := S) (i := 0) (by omega)
   rw [Nat.zero_add] at h2
   rw [h2, g.head]; rfl)
  clear HNU HC1 H1 H2 H3 HB1 q1 q2
  go_wp2_with fail
  go_loopw [13] (fun v13 wr => ∃ (k : Nat) (L' : Str) (o cap : Nat) (st : Value) (A : List Str), v13 = .int .i64 k /\ k <= 512 /\ A.length = k + 1 /\ Hid (∀ p, p < A.length -> (at' A p).length <= p) /\ Hid (Cts wr bc b o cap st pt L' A l) /\ Hid (BK bc w wr) /\ Hid (∀ ps S, ym ps S -> L = zN S.length ++ stT ps S 1 -> n = S.length /\ k + 1 <= S.length /\ A = S.take (k + 1) /\ L' = stT ps S (k + 1))) (fun v13 _ => 600 - (intOf v13).toNat)
  case atStart => exact ⟨0, r, o1, cap1, _, [[]], rfl, by omega, rfl, zB (fun p hp => by
   have : p = 0 := by simpa using hp
   subst this; simp [at']), HC2, HB2, HG2⟩
  case round =>
   obtain ⟨k, L', o2, cap2, st, A, rfl, hk, hA, HAL, HC, HB, HG⟩ := hrel
   clear HC2 HB2 HG2
   by_cases hkn : (k : Int) < (n : Int) - 1
   · -- a state more
    have hCt := zA HC
    by_cases hs1 : ∃ p L1, rdR 4 0 1 L' = some (p, L1) /\ p < A.length
    ·obtain ⟨p, L1, hp1, hp2⟩ := hs1
     cases L1 with
     | nil =>
       have HSA := fun q => zB (cstate_any bc b o2 cap2 st pt L' A l (wr.drewN q) (hCt.num ⟨hCt.rdr.blk, hCt.rdr.cel, hCt.rdr.ne, hCt.rdr.room, hCt.rdr.small⟩ (Mod.drewN wr q)) (by omega) (by omega))
       have HP1 := zB hp1
       clear hCt hp1
       go_wp2_with fail
       go_region_dies
       all_goals
        rename_i hK
        refine (zA (HSA 1)).mono ?_
        rintro e w' (⟨p', L1, o3, cap3, x, rfl, hp, K1, K2, K3, K4, K5⟩ | ⟨rfl, K1, K4⟩)
        ·have hL1 : L1 = [] := by
          have := zA K1
          rw [zA HP1] at this
          cases this; rfl
         subst hL1
         have HNX := zB (rnext_none bc b o3 cap3 st pt w' (zA K3).rdr)
         refine hK _ _ ?_
         clear hK
         refine wpAny_ready (rs := [5]) (by kernel_rfl) (by simp) ?_
         refine AllReady.cons rfl (fun K2 hK2 => ?_) AllReady.nil
         go_simp
         refine (zA HNX).mono ?_
         rintro e w'' ⟨rfl, hw⟩
         obtain rfl := hw.symm
         refine ⟨rfl, Or.inr ⟨rfl, zB ((zA HB).trans ((BK.drewN 1 (Nat.le_of_lt (zA HC).lt)).trans (zA K4))), zB (fun ps S g e => ?_)⟩⟩
         obtain ⟨e1, e2, e3, e4⟩ := zA HG ps S g e
         obtain ⟨p', u, f, y1, y2, y3, y4⟩ := g.state (k := k + 1) (by omega) (by omega)
         have hl := g.len
         have := zA HP1
         rw [e4, y4, rd4 (by omega)] at this
         cases this
        ·have := zA K1 _ _ (zA HP1); omega
     | cons c L2 =>
       have HSA : Hid (∀ q, Calls Tryz.prog 136 #[.pointer (some ⟨bc, 0, none⟩)] (wr.drewN q) fun e w' => ∃ (o cap : Nat) (x : Value), e = .returned x /\ Hid (Ent8 w' x (at' A p)) /\ Hid (Cts w' bc b o cap st pt (c :: L2) A l) /\ Hid (BK bc wr w') /\ Hid (yT wr w')) := zB fun q => by
        refine (cstate_any bc b o2 cap2 st pt L' A l (wr.drewN q) (hCt.num ⟨hCt.rdr.blk, hCt.rdr.cel, hCt.rdr.ne, hCt.rdr.room, hCt.rdr.small⟩ (Mod.drewN wr q)) (by omega) (by omega)).mono ?_
        rintro e w' (⟨p', L1, o3, cap3, x, rfl, hp, K1, K2, K3, K4, K5⟩ | ⟨rfl, K1, K4⟩)
        ·have := zA K1
         rw [hp1] at this
         cases this
         exact ⟨o3, cap3, x, rfl, K2, K3, zB ((BK.drewN q (Nat.le_of_lt hCt.lt)).trans (zA K4)), zB ((yT.mod (Mod.drewN wr q) hCt.rdr.blk).trans (zA K5))⟩
        ·have := zA K1 _ _ hp1; omega
       have HP1 := zB hp1
       clear hCt hp1
       go_wp2_with fail
       go_region_with (first
        | (go_at_call 136; refine (zA HSA 1).mono ?_; rintro e w4 ⟨o3, cap3, x, rfl, K2, K3, K4, K5⟩; have HNX := zB (rnext_some bc b o3 cap3 st pt c L2 w4 (zA K3).rdr))
        | (go_at_call 135; refine (zA HNX).mono ?_; rintro e w5 ⟨rfl, rfl⟩))
       have HC5 := zB ((zA K3).num (zA K3).rdr.step (Mod.setCell w4 bc 0 _))
       have HB5 : Hid (BK bc wr (w4.setCell ⟨bc, 0, none⟩ (.slice (some ⟨b, o3 + 1, none⟩) L2.length (cap3 - 1)))) := zB ((zA K4).trans (BK.mod (Mod.setCell w4 bc 0 _) (zA K3).rdr.blk))
       have HE5 : Hid (Ent8 (w4.setCell ⟨bc, 0, none⟩ (.slice (some ⟨b, o3 + 1, none⟩) L2.length (cap3 - 1))) x (at' A p)) := zB ((zA K2).kept (yT.setC (zA K3).rdr.blk))
       have HG5 : Hid (∀ ps S, ym ps S -> L = zN S.length ++ stT ps S 1 -> n = S.length /\ k + 1 < S.length /\ A = S.take (k + 1) /\ at' S (k + 1) = at' S p ++ [c] /\ ∃ f, f < k + 1 /\ L2 = zN f ++ stT ps S (k + 2)) := zB (by
        intro ps S g e
        obtain ⟨e1, e2, e3, e4⟩ := zA HG ps S g e
        obtain ⟨p', u, f, y1, y2, y3, y4⟩ := g.state (k := k + 1) (by omega) (by omega)
        have hl := g.len
        have := zA HP1
        rw [e4, y4, rd4 (by omega)] at this
        cases this
        exact ⟨e1, by omega, e3, y3, f, y2, rfl⟩)
       clear K2 K3 K4 K5 HNX HSA HP1 HG HC
       generalize w4.setCell ⟨bc, 0, none⟩ (.slice (some ⟨b, o3 + 1, none⟩) L2.length (cap3 - 1)) = w5 at *
       have HSB := zB (cstate_any bc b _ _ st pt L2 A l w5 (zA HC5) (by omega) (by omega))
       go_wp2_with fail
       refine (zA HSB).mono ?_
       rintro e w6 (⟨f, L3, o4, cap4, x2, rfl, hf, K1, K2, K3, K4, K5⟩ | ⟨rfl, K1, K4⟩)
       ·have HG6 : Hid (∀ ps S, ym ps S -> L = zN S.length ++ stT ps S 1 -> n = S.length /\ k + 2 <= S.length /\ A ++ [at' A p ++ [c]] = S.take (k + 2) /\ L3 = stT ps S (k + 2)) := zB (by
         intro ps S g e
         obtain ⟨e1, e2, e3, e4, f', e5, e6⟩ := zA HG5 ps S g e
         have hl := g.len
         have := zA K1
         rw [e6, rd4 (by omega)] at this
         cases this
         refine ⟨e1, by omega, ?_, rfl⟩
         rw [take_more (i := k + 1) (by omega), e4, ← e3, ← at_take (S := S) (i := k + 1) (p := p) (by omega), ← e3])
        have HE6 := zB ((zA HE5).kept (zA K5))
        have HB6 := zB ((zA HB).trans ((zA HB5).trans (zA K4)))
        clear HSB HC5 HE5 HB5 HG5 K1 K2 K4 K5
        obtain ⟨ao, c1, rfl, hBI, hao⟩ := (zA HE6).bytes
        obtain ⟨xs, hxs, hall⟩ := (zA K3).sts.ex
        obtain ⟨g, cs, rfl⟩ := owns_some hxs (by omega)
        have hpl := zA HAL p (by omega)
        have HCC := zB (concat_cts bc b o4 cap4 _ pt L3 A l ao c1 (at' A p) c w6 (zA K3) (by omega) hBI hao)
        have hlt6 := (zA K3).lt
        have c61 : w6.cell? ⟨bc, 1, none⟩ = some (.slice (some ⟨g, 0, none⟩) A.length cs) := by rw [zC (zA K3).rdr.blk]; rfl
        clear hxs hall hBI hao HE6 K3 xs
        generalize hml : (at' A p).length = mp at *
        have HMM : Hid (∀ (w7 : World) (g7 cap7 : Nat) (ys : List Value), Cts w7 bc b o4 cap4 (.slice (some ⟨g, 0, none⟩) A.length cs) pt L3 A l -> w7.ownsRow (bc + 1) 27 1 (.slice (some ⟨g, 0, none⟩) (k + 1) cs) (k + 1) ys -> (∀ i, i < A.length -> ∃ x, ys[i]? = some x /\ Ent8 w7 x (pat A i)) -> Ent8 w7 (.slice (some ⟨g7, 0, none⟩) (mp + 1) cap7) (at' A p ++ [c]) -> ∀ w8 g8 cap8, w8.ownsRow (bc + 1) 27 1 (.slice (some ⟨g8, 0, none⟩) (k + 1 + 1) cap8) (k + 1 + 1) (ys ++ [.slice (some ⟨g7, 0, none⟩) (mp + 1) cap7]) -> (w7.alloc (.cells #[.slice (some ⟨g7, 0, none⟩) (mp + 1) cap7] 27)).grownBy w8 (some g) -> (some g = some g8 \/ g8 = w7.heap.size + 1) ->
          Hid (Cts (w8.setCell ⟨bc, 1, none⟩ (.slice (some ⟨g8, 0, none⟩) (k + 1 + 1) cap8)) bc b o4 cap4 (.slice (some ⟨g8, 0, none⟩) (k + 1 + 1) cap8) pt L3 (A ++ [at' A p ++ [c]]) l) /\ w8.cell? ⟨bc, 1, none⟩ = some (.slice (some ⟨g, 0, none⟩) (k + 1) cs) /\ w8.frozen? ⟨bc, 1, none⟩ = false /\ Hid (BK bc w7 (w8.setCell ⟨bc, 1, none⟩ (.slice (some ⟨g8, 0, none⟩) (k + 1 + 1) cap8)))) := zB (by
         intro w7 g7 cap7 ys h1 h2 h3 h4 w8 g8 cap8 h5 h6 h7
         rw [← hA] at h2 h5 ⊢
         obtain ⟨r1, r2, r3, r4⟩ := Cts.moreS h1 h2 h3 h4 h5 h6 h7
         exact ⟨zB r1, r2, r3, zB r4⟩)
        rw [hA] at c61
        go_wp2_with fail
        go_region_law (first
         | (refine step_append_lies _ rfl (.tmp 27) (.tmp 33) 30 rfl (bc + 1) 27 i0 _ 1 24 Tryz.underlying30 hi hz0 hz1 hz2 rfl (by decide) _ (k + 1) ys (by simp [Act.eval]) (zA HOW7) ⟨w7.heap.size, 0, none⟩ 1 1 [.slice (some ⟨g7, 0, none⟩) (mp + 1) cap7] (by simp [Act.eval]) rfl (World.news_of_block (heap_alloc_new w7 _)) (by intro u hu; simp at hu; subst hu; rfl) (by omega) (by unfold maxLen; omega) (by omega) (by simp; omega) (w7.heap.size + 1) (by simp) ?_; intro g8 cap8 w8 hown' hgrow hat hlt'; obtain ⟨D1, d2, d3, D4⟩ := zA HMS _ _ _ hown' hgrow hat; clear hown' hgrow hat hlt')
         | (go_simp; go_at_call 137; refine (zA HCC).mono ?_; rintro e w7 ⟨g7, cap7, rfl, C7, E7, B7, z7⟩; have hlt7 := (zA C7).lt; obtain ⟨ys, hys, hall7⟩ := (zA C7).sts.ex; rw [hA] at hys; have HOW7 : Hid ((w7.alloc (.cells #[.slice (some ⟨g7, 0, none⟩) (mp + 1) cap7] 27)).ownsRow (bc + 1) 27 1 (.slice (some ⟨g, 0, none⟩) (k + 1) cs) (k + 1) ys) := zB (hys.alloc _); have HMS := zB (zA HMM w7 g7 cap7 ys (zA C7) hys hall7 (zA E7)); clear hys hall7))
        all_goals go_wp2_with fail
        all_goals go_roundw
        all_goals try case measure => simp [intOf]; omega
        all_goals
         case rel =>
          refine ⟨k + 1, L3, o4, cap4, _, A ++ [at' A p ++ [c]], by go_num, by omega, by simp; omega, zB (fun q hq => ?_), D1, zB ((zA HB6).trans ((zA B7).trans (zA D4))), HG6⟩
          have hq2 : q < k + 2 := by simpa [hA] using hq
          by_cases hqi : q < A.length
          ·have e : at' (A ++ [at' A p ++ [c]]) q = at' A q := by simp [at', List.getD, List.getElem?_append_left hqi]
           rw [e]; exact zA HAL q hqi
          ·have hqe : q = A.length := by omega
           subst hqe
           have e : at' (A ++ [at' A p ++ [c]]) A.length = at' A p ++ [c] := by simp [at', List.getD]
           rw [e, List.length_append, hml, List.length_singleton]; omega
       ·go_wp2_with fail
        refine ⟨rfl, Or.inr ⟨rfl, zB ((zA HB).trans ((zA HB5).trans (zA K4))), zB (fun ps S g e => ?_)⟩⟩
        obtain ⟨e1, e2, e3, e4, f', e5, e6⟩ := zA HG5 ps S g e
        have hl := g.len
        have := zA K1 f' _ (by rw [e6, rd4 (by omega)])
        omega
    ·have HSA := fun q => zB (cstate_any bc b o2 cap2 st pt L' A l (wr.drewN q) (hCt.num ⟨hCt.rdr.blk, hCt.rdr.cel, hCt.rdr.ne, hCt.rdr.room, hCt.rdr.small⟩ (Mod.drewN wr q)) (by omega) (by omega))
     have HNS := zB hs1
     clear hCt hs1
     go_wp2_with fail
     go_region_dies
     all_goals
      refine (zA (HSA 1)).mono ?_
      rintro e w' (⟨p, L1, o3, cap3, x, rfl, hp, K1, K2, K3, K4, K5⟩ | ⟨rfl, K1, K4⟩)
      ·exact absurd ⟨p, L1, zA K1, hp⟩ (zA HNS)
      ·refine ⟨rfl, Or.inr ⟨rfl, zB ((zA HB).trans ((BK.drewN 1 (Nat.le_of_lt (zA HC).lt)).trans (zA K4))), zB (fun ps S g e => ?_)⟩⟩
       obtain ⟨e1, e2, e3, e4⟩ := zA HG ps S g e
       obtain ⟨p', u, f, y1, y2, y3, y4⟩ := g.state (k := k + 1) (by omega) (by omega)
       have hl := g.len
       exact zA HNS ⟨p', _, by rw [e4, y4, rd4 (by omega)], by omega⟩
   ·go_wp2_with fail
    go_end0
    refine Or.inl ⟨L', o2, cap2, st, A, rfl, by omega, by omega, HAL, HC, HB, zB (fun ps S g e => ?_)⟩
    obtain ⟨e1, e2, e3, e4⟩ := zA HG ps S g e
    have hks : k + 1 = S.length := by omega
    rw [e3, e4, hks, List.take_length, stT_end]
    exact ⟨rfl, rfl⟩
 ·have HB2 := zB ((zA HB1).trans (BK.mod (zA H3) (zA HC1).rdr.blk))
  go_wp2_with fail
  refine ⟨rfl, Or.inr ⟨rfl, HB2, zB (fun ps S g e => ?_)⟩⟩
  have hl := g.len
  have := zA H1 S.length (stT ps S 1) (by rw [e, rd4 (by omega)])
  omega
end Go.Proofs.YtfpohfifdfbpkaaGreatDoor
namespace Go.Proofs.YtfpohfifdfbpkaaGreatDoor
open Go.RowKit Scour Go.Lib
theorem Cts.moreP {w w' : World} {bc b o cap g8 cap8 : Nat} {st pt x : Value} {L s : Str} {A l : List Str} {ys : List Value} {ob : Obj} (h : Cts w bc b o cap st pt L A l)
  (hys : w.ownsRow (bc + 1) 27 1 pt l.length ys) (hall : ∀ i, i < l.length -> ∃ x, ys[i]? = some x /\ Ent8 w x (pat l i)) (hE : Ent8 w x s)
  (hO : w'.ownsRow (bc + 1) 27 1 (.slice (some ⟨g8, 0, none⟩) (l.length + 1) cap8) (l.length + 1) (ys ++ [x])) (hg : (w.alloc ob).grownBy w' pt.ownBlock) (hat : pt.ownBlock = some g8 \/ g8 = w.heap.size + 1) :
  Cts (w'.setCell ⟨bc, 2, none⟩ (.slice (some ⟨g8, 0, none⟩) (l.length + 1) cap8)) bc b o cap st (.slice (some ⟨g8, 0, none⟩) (l.length + 1) cap8) L A (l ++ [s])
  /\ w'.cell? ⟨bc, 2, none⟩ = some pt /\ w'.frozen? ⟨bc, 2, none⟩ = false /\ BK bc w (w'.setCell ⟨bc, 2, none⟩ (.slice (some ⟨g8, 0, none⟩) (l.length + 1) cap8)) := by
 have hge := yN hys
 have hlt := h.lt
 have hlow := h.low
 have hbk : w'.heap[bc]? = w.heap[bc]? := grown_alloc hg hlt (fun e => by have := hge bc e.symm; omega)
 have hb2 : w'.heap[b]? = w.heap[b]? := grown_alloc hg (by omega) (fun e => by have := hge b e.symm; omega)
 have hal : Below w.heap.size w (w.alloc ob) := (Below.refl _ _).alloc (Nat.le_refl _) _
 have hyA := zE hys (fun k hk _ => hal.block k hk)
 have hR : Rdr w' bc b o cap st pt L := h.rdr.keep hbk hb2
 have hP : yx w' (bc + 1) (.slice (some ⟨g8, 0, none⟩) (l.length + 1) cap8) (l ++ [s]) := yx.more hyA (fun i hi => by
  obtain ⟨y, h1, h2⟩ := hall i hi
  exact ⟨y, h1, h2.kept (yT.below hal)⟩) (hE.kept (yT.below hal)) hO hg
 obtain ⟨zs, hzs, _⟩ := h.sts.ex
 have hS : yx w' (bc + 1) st A := (h.sts.below hal).same (yT.grown hg hyA) (fun k hk hv => hg.block k hk (fun e => h.ne k hv e.symm))
 have hbw : BK bc w w' := (BK.up hal (Nat.le_of_lt hlt)).trans (BK.grown hg hyA (Nat.le_trans (Nat.le_of_lt hlt) hal.size) (fun k e => by have := hge k e; omega))
 refine ⟨Cts.setP hR hS hP (fun k hk hk2 => ?_) hlow, by rw [zC hR.blk]; rfl, frozen_of_row _ _ _ _ _ hR.blk, hbw.trans (BK.mod (Mod.setCell w' bc 2 _) hR.blk)⟩
 have e : g8 = k := by simpa [Value.ownBlock] using hk2
 subst e
 rcases hat with e | e
 ·exact h.ne g8 hk e
 ·obtain ⟨cu, hcu⟩ := zD hzs hk
  have := (Array.getElem?_eq_some_iff.1 hcu).1
  omega
def PpPost (w : World) (bc b : Nat) (st : Value) (L : Str) (A : List Str) (e : Ending) (w' : World) : Prop :=
 (∃ (L' : Str) (o cap : Nat) (pt : Value) (l : List Str), e = .returned (.tuple #[]) /\ l.length <= 64 /\ Hid (∀ i, i < l.length -> (pat l i).length <= 1000) /\ Hid (Cts w' bc b o cap st pt L' A l) /\ Hid (BK bc w w') /\ Hid (∀ ps S, ym ps S -> A = S -> L = zN ps.length ++ patT ps S 0 -> l = ps))
 \/ (e = .panicked (faultP 10) /\ Hid (BK bc w w') /\ Hid (∀ ps S, ym ps S -> A = S -> L = zN ps.length ++ patT ps S 0 -> False))
set_option maxHeartbeats 8000000 in
set_option maxRecDepth 100000 in
theorem cpats_any (bc b o cap : Nat) (st : Value) (L : Str) (A : List Str) (w : World) (h : Cts w bc b o cap st (.slice none 0 0) L A []) (hA0 : 0 < A.length) (hA : A.length <= 600) (hAL : ∀ p, p < A.length -> (at' A p).length <= p) :
  Calls Tryz.prog 105 #[.pointer (some ⟨bc, 0, none⟩)] w (PpPost w bc b st L A) := by
 obtain ⟨i0, hi, hz0, hz1, hz2⟩ := info_parts Tryz.infoL
 have hlt := h.lt
 have HNU := zB (rnumber_any bc b o cap st _ L 64 w h.rdr)
 have HC0 := zB h
 have HAL := zB hAL
 clear h hAL
 go_enter Tryz.func105, Tryz.ntmps105
 go_wp2_with fail
 refine (zA HNU).mono ?_
 rintro e w1 (⟨n, r, o1, cap1, rfl, hn, hn2, H1, H2, H3⟩ | ⟨rfl, H1, H3⟩)
 ·have HC1 := zB ((zA HC0).num (zA H2) (zA H3))
  have HB1 := zB (BK.mod (zA H3) (zA HC0).rdr.blk)
  have HG1 : Hid (∀ ps S, ym ps S -> A = S -> L = zN ps.length ++ patT ps S 0 -> n = ps.length /\ 0 <= ps.length /\ [] = ps.take 0 /\ r = patT ps S 0) := zB (by
   intro ps S g eA e
   have hl := g.small
   have := zA H1
   rw [e, rd4 (by omega)] at this
   cases this
   exact ⟨rfl, by omega, rfl, rfl⟩)
  clear HNU HC0 H1 H2 H3
  go_wp2_with fail
  go_loopw [6] (fun v6 wr => ∃ (k : Nat) (L' : Str) (o cap : Nat) (pt : Value) (l : List Str), v6 = .int .i64 k /\ k <= 64 /\ l.length = k /\ Hid (∀ i, i < l.length -> (pat l i).length <= 1000) /\ Hid (Cts wr bc b o cap st pt L' A l) /\ Hid (BK bc w wr) /\ Hid (∀ ps S, ym ps S -> A = S -> L = zN ps.length ++ patT ps S 0 -> n = ps.length /\ k <= ps.length /\ l = ps.take k /\ L' = patT ps S k)) (fun v6 _ => 600 - (intOf v6).toNat)
  case atStart => exact ⟨0, r, o1, cap1, _, [], rfl, by omega, rfl, zB (fun i hi => by simp at hi), HC1, HB1, HG1⟩
  case round =>
   obtain ⟨k, L', o2, cap2, pt, l, rfl, hk, hl, HE, HC, HB, HG⟩ := hrel
   clear HC1 HB1 HG1
   by_cases hkn : k < n
   ·have k1 : (k : Int) < (n : Int) := by omega
    have hCt := zA HC
    by_cases hs1 : ∃ p L1, rdR 4 0 1 L' = some (p, L1) /\ p < A.length
    ·obtain ⟨p, L1, hp1, hp2⟩ := hs1
     have hpl := zA HAL p hp2
     have c2 : wr.cell? ⟨bc, 2, none⟩ = some pt := by rw [zC hCt.rdr.blk]; rfl
     have HSA : Hid (∀ q, Calls Tryz.prog 136 #[.pointer (some ⟨bc, 0, none⟩)] (wr.drewN q) fun e w' => ∃ (o cap : Nat) (ao : Option Addr) (cx : Nat), e = .returned (.slice ao (at' A p).length cx) /\ Hid (Ent8 w' (.slice ao (at' A p).length cx) (at' A p)) /\ Hid (Cts w' bc b o cap st pt L1 A l) /\ Hid (BK bc wr w') /\ w'.cell? ⟨bc, 2, none⟩ = some pt) := zB fun q => by
      refine (cstate_any bc b o2 cap2 st pt L' A l (wr.drewN q) (hCt.num ⟨hCt.rdr.blk, hCt.rdr.cel, hCt.rdr.ne, hCt.rdr.room, hCt.rdr.small⟩ (Mod.drewN wr q)) (by omega) (by omega)).mono ?_
      rintro e w' (⟨p', L1, o3, cap3, x, rfl, hp, K1, K2, K3, K4, K5⟩ | ⟨rfl, K1, K4⟩)
      ·have := zA K1
       rw [hp1] at this
       cases this
       obtain ⟨ao, cx, rfl, _, _⟩ := (zA K2).bytes
       exact ⟨o3, cap3, ao, cx, rfl, K2, K3, zB ((BK.drewN q (Nat.le_of_lt hCt.lt)).trans (zA K4)), by rw [zC (zA K3).rdr.blk]; rfl⟩
      ·have := zA K1 _ _ hp1; omega
     have HG5 : Hid (∀ ps S, ym ps S -> A = S -> L = zN ps.length ++ patT ps S 0 -> n = ps.length /\ k + 1 <= ps.length /\ l ++ [at' A p] = ps.take (k + 1) /\ L1 = patT ps S (k + 1)) := zB (by
      intro ps S g eA e
      obtain ⟨e1, e2, e3, e4⟩ := zA HG ps S g eA e
      obtain ⟨p', y1, y2, y3⟩ := g.pat (k := k) (by omega)
      have hlS := g.len
      rw [e4, y3, rd4 (by omega)] at hp1
      cases hp1
      subst eA
      refine ⟨e1, by omega, ?_, rfl⟩
      rw [List.take_add_one, ← e3, y2]
      simp [pat, List.getD, show k < ps.length by omega])
     have HMM : Hid (∀ (w7 : World) (x : Value) (o3 cap3 : Nat), Cts w7 bc b o3 cap3 st pt L1 A l -> Ent8 w7 x (at' A p) -> ∃ ys, Hid (w7.ownsRow (bc + 1) 27 1 pt k ys) /\ ∀ w8 g8 cap8, w8.ownsRow (bc + 1) 27 1 (.slice (some ⟨g8, 0, none⟩) (k + 1) cap8) (k + 1) (ys ++ [x]) -> (w7.alloc (.cells #[x] 27)).grownBy w8 pt.ownBlock -> (pt.ownBlock = some g8 \/ g8 = w7.heap.size + 1) ->
       Hid (Cts (w8.setCell ⟨bc, 2, none⟩ (.slice (some ⟨g8, 0, none⟩) (k + 1) cap8)) bc b o3 cap3 st (.slice (some ⟨g8, 0, none⟩) (k + 1) cap8) L1 A (l ++ [at' A p])) /\ w8.cell? ⟨bc, 2, none⟩ = some pt /\ w8.frozen? ⟨bc, 2, none⟩ = false /\ Hid (BK bc w7 (w8.setCell ⟨bc, 2, none⟩ (.slice (some ⟨g8, 0, none⟩) (k + 1) cap8)))) := zB (by
      intro w7 x o3 cap3 h1 h4
      obtain ⟨ys, hys, hall⟩ := h1.pts.ex
      rw [← hl]
      refine ⟨ys, zB hys, fun w8 g8 cap8 h5 h6 h7 => ?_⟩
      obtain ⟨r1, r2, r3, r4⟩ := Cts.moreP h1 hys hall h4 h5 h6 h7
      exact ⟨zB r1, r2, r3, zB r4⟩)
     clear hCt hp1 HC HG
     generalize hml : (at' A p).length = mp at *
     go_wp2_with fail
     go_region_law (first
      | (refine step_append_lies _ rfl (.tmp 12) (.tmp 15) 30 rfl (bc + 1) 27 i0 _ 1 24 Tryz.underlying30 hi hz0 hz1 hz2 rfl (by decide) _ k ys (by simp [Act.eval]) (zA HOW7) ⟨w7.heap.size, 0, none⟩ 1 1 [.slice ao mp cx] (by simp [Act.eval]) rfl (World.news_of_block (heap_alloc_new w7 _)) (by intro u hu; simp at hu; subst hu; rfl) (by omega) (by unfold maxLen; omega) (by omega) (by simp; omega) (w7.heap.size + 1) (by simp) ?_; intro g8 cap8 w8 hown' hgrow hat hlt'; obtain ⟨D1, d2, d3, D4⟩ := zA HMS _ _ _ hown' hgrow hat; clear hown' hgrow hat hlt')
      | (go_simp; go_at_call 136; refine (zA HSA 1).mono ?_; rintro e w7 ⟨o3, cap3, ao, cx, rfl, E7, C7, B7, z7⟩; have hlt7 := (zA C7).lt; obtain ⟨ys, HO7, hms⟩ := zA HMM w7 _ o3 cap3 (zA C7) (zA E7); have HOW7 : Hid ((w7.alloc (.cells #[.slice ao mp cx] 27)).ownsRow (bc + 1) 27 1 pt k ys) := zB ((zA HO7).alloc _); have HMS := zB hms; clear hms))
     all_goals go_wp2_with fail
     all_goals go_roundw
     all_goals try case measure => simp [intOf]; omega
     all_goals
      case rel =>
       refine ⟨k + 1, L1, o3, cap3, _, l ++ [at' A p], by go_num, by omega, by simp; omega, zB (fun q hq => ?_), D1, zB ((zA HB).trans ((zA B7).trans (zA D4))), HG5⟩
       by_cases hqi : q < l.length
       ·rw [yy hqi]; exact zA HE q hqi
       ·have hqe : q = l.length := by simp at hq; omega
        subst hqe
        rw [pat_append_new, hml]; omega
    ·have HSA := fun q => zB (cstate_any bc b o2 cap2 st pt L' A l (wr.drewN q) (hCt.num ⟨hCt.rdr.blk, hCt.rdr.cel, hCt.rdr.ne, hCt.rdr.room, hCt.rdr.small⟩ (Mod.drewN wr q)) (by omega) (by omega))
     have HNS := zB hs1
     have c2 : wr.cell? ⟨bc, 2, none⟩ = some pt := by rw [zC hCt.rdr.blk]; rfl
     clear hCt hs1
     go_wp2_with fail
     go_region_dies
     all_goals
      refine (zA (HSA 1)).mono ?_
      rintro e w' (⟨p, L1, o3, cap3, x, rfl, hp, K1, K2, K3, K4, K5⟩ | ⟨rfl, K1, K4⟩)
      ·exact absurd ⟨p, L1, zA K1, hp⟩ (zA HNS)
      ·refine ⟨rfl, Or.inr ⟨rfl, zB ((zA HB).trans ((BK.drewN 1 (Nat.le_of_lt (zA HC).lt)).trans (zA K4))), zB (fun ps S g eA e => ?_)⟩⟩
       obtain ⟨e1, e2, e3, e4⟩ := zA HG ps S g eA e
       obtain ⟨p', y1, y2, y3⟩ := g.pat (k := k) (by omega)
       have hlS := g.len
       exact zA HNS ⟨p', _, by rw [e4, y3, rd4 (by omega)], by rw [eA]; exact y1⟩
   ·have k1 : ¬ (k : Int) < (n : Int) := by omega
    go_wp2_with fail
    go_end0
    refine Or.inl ⟨L', o2, cap2, pt, l, rfl, by omega, HE, HC, HB, zB (fun ps S g eA e => ?_)⟩
    obtain ⟨e1, e2, e3, e4⟩ := zA HG ps S g eA e
    rw [e3, List.take_of_length_le (by omega)]
 ·have HB2 := zB (BK.mod (zA H3) (zA HC0).rdr.blk)
  go_wp2_with fail
  refine ⟨rfl, Or.inr ⟨rfl, HB2, zB (fun ps S g eA e => ?_)⟩⟩
  have hl := g.small
  have := zA H1 ps.length (patT ps S 0) (by rw [e, rd4 (by omega)])
  omega
end Go.Proofs.YtfpohfifdfbpkaaGreatDoor
namespace Go.Proofs.YtfpohfifdfbpkaaGreatDoor
open Go.RowKit Scour Go.Lib
def zh (w : World) (ao : Option Addr) (c : Nat) (x : Str) : Prop := (x = [] /\ (ao = none -> c = 0)) \/ ∃ b o, ao = some ⟨b, o, none⟩ /\ b < w.heap.size /\ ∀ j, j < x.length -> w.cell? ⟨b, o + j, none⟩ = some (.int .u8 (x.getD j 0).toNat)
theorem conv_nil (w : World) : (convert 27 9 (.slice none 0 0)).run Tryz.prog w = .ok (.string ⟨#[]⟩) w := by kernel_rfl
theorem conv_at {w : World} {ao : Option Addr} {c : Nat} {x : Str} (h : zh w ao c x) : (convert 27 9 (.slice ao x.length c)).run Tryz.prog w = .ok (.string ⟨x.toArray⟩) w := by
 rcases h with ⟨rfl, h0⟩ | ⟨b, o, rfl, _, hc⟩
 ·cases ao with
  | none => rw [h0 rfl]; exact conv_nil w
  | some a => exact run_convert_bytes_back w 27 9 5 a c [] Tryz.underlying27 Tryz.underlying5 Tryz.underlying9 (fun j hj => by simp at hj)
 ·exact conv_back hc
theorem zh.in {w : World} {ao : Option Addr} {c : Nat} {x : Str} (h : zh w ao c x) : jD w w.heap.size ao x := fun h0 => by
 rcases h with ⟨rfl, _⟩ | ⟨b, o, e, hl, hc⟩
 ·simp at h0
 ·exact ⟨b, o, hl, e, hc⟩
theorem zh.below {w w' : World} {ao : Option Addr} {c : Nat} {x : Str} (h : zh w ao c x) (hb : Below w.heap.size w w') : zh w' ao c x := by
 rcases h with h | ⟨b, o, e, hl, hc⟩
 ·exact Or.inl h
 ·exact Or.inr ⟨b, o, e, Nat.lt_of_lt_of_le hl hb.size, fun j hj => (hb.cell (p := ⟨b, o + j, none⟩) hl).trans (hc j hj)⟩
theorem owns_at {w : World} {base : Nat} {v : Value} {x : Str} (h : w.ownsRow base 5 1 v x.length (x.map zT)) : ∃ ao c, v = .slice ao x.length c /\ zh w ao c x := by
 rcases zV h with ⟨h1, h2⟩ | ⟨g, cc, h1, _⟩
 ·exact ⟨none, 0, by rw [h1, h2], Or.inl ⟨List.length_eq_zero_iff.1 h2, fun _ => rfl⟩⟩
 ·subst h1
  refine ⟨_, cc, rfl, Or.inr ⟨g, 0, rfl, ?_, fun j hj => ?_⟩⟩
  ·obtain ⟨cu, hcu⟩ := zK h
   exact (Array.getElem?_eq_some_iff.1 hcu).1
  ·rw [Nat.zero_add, h.cellAt j (by omega), List.getElem?_map, List.getElem?_eq_getElem hj, List.getD_eq_getElem?_getD, List.getElem?_eq_getElem hj]
   rfl
theorem same_str2 {a b : Str} : ((⟨a.toArray⟩ : ByteArray).toList == (⟨b.toArray⟩ : ByteArray).toList) = decide (a = b) := by
 rw [ByteArray.toList_eq, ByteArray.toList_eq]
 by_cases h : a = b
 ·subst h; simp
 ·simp [h]
theorem bequal_any (a1 a2 : Option Addr) (c1 c2 : Nat) (x y : Str) (w : World) (h1 : zh w a1 c1 x) (h2 : zh w a2 c2 y) :
  Calls Tryz.prog 37 #[.slice a1 x.length c1, .slice a2 y.length c2] w fun e w' => e = .returned (.bool (decide (x = y))) /\ w' = w := by
 have k1 := conv_at h1
 have k2 := conv_at h2
 have HS := zB (same_str2 (a := x) (b := y))
 clear h1 h2
 generalize (⟨x.toArray⟩ : ByteArray) = tx at *
 generalize (⟨y.toArray⟩ : ByteArray) = ty at *
 generalize hlx : x.length = lx at *
 generalize hly : y.length = ly at *
 clear hlx hly
 go_enter Tryz.func37, Tryz.ntmps37
 go_wp2
 go_ret
 exact ⟨by rw [← zA HS]; rfl, rfl⟩
theorem hasPrefix_any (b o b2 cap : Nat) (x : Str) (w : World) (hx : 3 <= x.length) (hcap : x.length <= cap) (hc2 : cap <= 9223372036854775807) (h1 : zh w (some ⟨b, o, none⟩) cap x) (h2 : zh w (some ⟨b2, 0, none⟩) 3 [83, 67, 82]) :
  Calls Tryz.prog 133 #[.slice (some ⟨b, o, none⟩) x.length cap, .slice (some ⟨b2, 0, none⟩) 3 3] w fun e w' => e = .returned (.bool (decide (x.take 3 = [83, 67, 82]))) /\ w' = w := by
 have hl3 : (x.take 3).length = 3 := by rw [List.length_take]; omega
 have h3 : zh w (some ⟨b, o, none⟩) cap (x.take 3) := by
  rcases h1 with ⟨e, _⟩ | ⟨b', o', e, hl, hc⟩
  ·rw [e] at hx; simp at hx
  ·refine Or.inr ⟨b', o', e, hl, fun j hj => ?_⟩
   rw [hc j (by omega)]
   rw [List.getD_eq_getElem?_getD, List.getD_eq_getElem?_getD, List.getElem?_take_of_lt (by omega)]
 have HE := zB (bequal_any (some ⟨b, o, none⟩) (some ⟨b2, 0, none⟩) cap 3 (x.take 3) [83, 67, 82] w h3 h2)
 rw [hl3] at HE
 clear h1 h2 h3 hl3
 generalize hd : decide (x.take 3 = [83, 67, 82]) = d at *
 clear hd
 have i1 : (3 : Int) <= (x.length : Int) := by omega
 generalize x.length = n at *
 go_enter Tryz.func133, Tryz.ntmps133
 go_wp2_with (go_at_call 37; refine (zA HE).mono ?_; rintro e w' ⟨rfl, hw'⟩; obtain rfl := hw'.symm)
 go_ret
 exact ⟨rfl, rfl⟩
theorem cends_short (bc n cap : Nat) (ao : Option Addr) (st pt : Value) (w : World) (hb : w.heap[bc]? = some (.cells #[.slice ao n cap, st, pt] 128 (0, 0))) (hn : n < 8) :
  Calls Tryz.prog 102 #[.pointer (some ⟨bc, 0, none⟩)] w fun e w' => e = .panicked (faultP 6) /\ w' = w := by
 have c0 : w.cell? ⟨bc, 0, none⟩ = some (.slice ao n cap) := by rw [zC hb]; rfl
 have n8 : (n : Int) < 8 := by omega
 clear hb
 go_enter Tryz.func102, Tryz.ntmps102
 go_wp2
 exact ⟨rfl, rfl, rfl⟩
def EnPost (w : World) (bc b : Nat) (s : Str) (e : Ending) (w' : World) : Prop :=
 (∃ (o cap : Nat), e = .returned (.tuple #[]) /\ Hid (Cts w' bc b o cap (.slice none 0 0) (.slice none 0 0) ((s.take (s.length - 4)).drop 4) [] []) /\ Hid (BK bc w w') /\ Hid (s.take 3 = [83, 67, 82] /\ s.getD 3 0 = 1 /\ yK (s.take (s.length - 4)) = s.drop (s.length - 4)))
 \/ (∃ k : Int, e = .panicked (faultP k) /\ Hid (BK bc w w') /\ Hid ((k = 7 /\ s.take 3 ≠ [83, 67, 82]) \/ (k = 8 /\ s.take 3 = [83, 67, 82] /\ s.getD 3 0 ≠ 1) \/ (k = 9 /\ s.take 3 = [83, 67, 82] /\ s.getD 3 0 = 1 /\ yK (s.take (s.length - 4)) ≠ s.drop (s.length - 4))))
set_option maxHeartbeats 4000000 in
set_option maxRecDepth 100000 in
theorem cends_any (bc b o cap : Nat) (s : Str) (w : World) (hb : w.heap[bc]? = some (.cells #[.slice (some ⟨b, o, none⟩) s.length cap, .slice none 0 0, .slice none 0 0] 128 (0, 0))) (hc : ∀ j, j < s.length -> w.cell? ⟨b, o + j, none⟩ = some (.int .u8 (s.getD j 0).toNat)) (hbc : b < bc) (h8 : 8 <= s.length) (hcap : s.length <= cap) (hc2 : cap <= 9223372036854775807) (hs8 : s.length <= 9223372036854775807) :
  Calls Tryz.prog 102 #[.pointer (some ⟨bc, 0, none⟩)] w (EnPost w bc b s) := by
 have hlt : bc < w.heap.size := (Array.getElem?_eq_some_iff.1 hb).1
 obtain ⟨W, hW⟩ : ∃ W, W = w.alloc (.cells #[.int .u8 83, .int .u8 67, .int .u8 82] 5 (3, 4)) := ⟨_, rfl⟩
 have hbW : Below w.heap.size w W := by rw [hW]; exact (Below.refl _ _).alloc (Nat.le_refl _) _
 have h1 : zh w (some ⟨b, o, none⟩) cap s := Or.inr ⟨b, o, rfl, by omega, hc⟩
 have h2 : zh W (some ⟨w.heap.size, 0, none⟩) 3 [83, 67, 82] := Or.inr ⟨w.heap.size, 0, rfl, by rw [hW]; simp, fun j hj => by
  have hn : W.heap[w.heap.size]? = some (.cells #[.int .u8 83, .int .u8 67, .int .u8 82] 5 (3, 4)) := by rw [hW]; exact heap_alloc_new w _
  rw [Nat.zero_add, zC hn j]
  have : j = 0 \/ j = 1 \/ j = 2 := by simp at hj; omega
  rcases this with rfl | rfl | rfl <;> rfl⟩
 have HHP := zB (hasPrefix_any b o w.heap.size cap s W (by omega) hcap (by omega) (h1.below hbW) h2)
 have hbW2 := (hbW.block bc hlt).trans hb
 have c0 : w.cell? ⟨bc, 0, none⟩ = some (.slice (some ⟨b, o, none⟩) s.length cap) := by rw [zC hb]; rfl
 have c0W : W.cell? ⟨bc, 0, none⟩ = some (.slice (some ⟨b, o, none⟩) s.length cap) := by rw [zC hbW2]; rfl
 have f0W : W.frozen? ⟨bc, 0, none⟩ = false := frozen_of_row _ _ _ _ _ hbW2
 have c3W : W.cell? ⟨b, o + 3, none⟩ = some (.int .u8 (s.getD 3 0).toNat) := (hbW.cell (p := ⟨b, o + 3, none⟩) (by show b < w.heap.size; omega)).trans (hc 3 (by omega))
 have HBW : Hid (BK bc w W) := zB (BK.up hbW (Nat.le_of_lt hlt))
 have hcv := fun (w : World) (C : Array Value) (n c : Nat) => Lib.run_convert_bytes_const (P := Tryz.prog) w 27 5 C n c Tryz.underlying27 Tryz.underlying5
 have n8 : ¬ (s.length : Int) < 8 := by omega
 rw [hW] at HHP
 have HW := zB hW
 clear hW
 by_cases hm : s.take 3 = [83, 67, 82]
 ·rw [decide_eq_true hm] at HHP
  obtain ⟨k, hk⟩ : ∃ k, s.length = k + 8 := ⟨s.length - 8, by omega⟩
  have e4 : s.length - 4 = k + 4 := by omega
  have hlt' : (s.take (k + 4)).length = k + 4 := by rw [List.length_take]; omega
  have hld : (s.drop (k + 4)).length = 4 := by rw [List.length_drop]; omega
  have hdt : ((s.take (k + 4)).drop 4).length = k := by rw [List.length_drop, hlt']; omega
  have hsz := hbW.size
  have HSE : Hid (∀ q, Calls Tryz.prog 60 #[.slice (some ⟨b, o, none⟩) (k + 4) cap] (W.drewN q) fun e w' => e = .returned (.slice (some ⟨W.heap.size, 0, none⟩) 4 4) /\ Hid (Below W.heap.size W w') /\ w'.cell? ⟨bc, 0, none⟩ = some (.slice (some ⟨b, o, none⟩) (k + 8) cap) /\ w'.frozen? ⟨bc, 0, none⟩ = false /\ Calls Tryz.prog 37 #[.slice (some ⟨b, o + (k + 4), none⟩) 4 (cap - (k + 4)), .slice (some ⟨W.heap.size, 0, none⟩) 4 4] w' fun e w'' => e = .returned (.bool (decide (s.drop (k + 4) = yK (s.take (k + 4))))) /\ w'' = w') := zB fun q => by
   have hq : Below W.heap.size W (W.drewN q) := below_drewN (Below.refl _ _) q
   have hin : zh (W.drewN q) (some ⟨b, o, none⟩) cap (s.take (k + 4)) := Or.inr ⟨b, o, rfl, by show b < W.heap.size; omega, fun j hj => by
    have := (hbW.cell (p := ⟨b, o + j, none⟩) (by show b < w.heap.size; omega)).trans (hc j (by omega))
    refine Eq.trans (show (W.drewN q).cell? ⟨b, o + j, none⟩ = W.cell? ⟨b, o + j, none⟩ from hq.cell (p := ⟨b, o + j, none⟩) (by show b < W.heap.size; omega)) (this.trans ?_)
    rw [List.getD_eq_getElem?_getD, List.getD_eq_getElem?_getD, List.getElem?_take_of_lt (by omega)]⟩
   have h := fseal_any (some ⟨b, o, none⟩) cap (s.take (k + 4)) (W.drewN q) hin.in (by omega)
   rw [hlt'] at h
   refine h.mono ?_
   rintro e w' ⟨rfl, hO, hB⟩
   have hB' : Below W.heap.size W w' := hq.trans hB
   have hbk := (hB'.block bc (by omega)).trans hbW2
   refine ⟨rfl, zB hB', by rw [zC hbk, ← hk]; rfl, frozen_of_row _ _ _ _ _ hbk, ?_⟩
   have hs4 : (yK (s.take (k + 4))).length = 4 := sumS_len _
   rw [← hs4] at hO
   obtain ⟨ao, c, e, hat⟩ := owns_at hO
   rw [hs4] at e
   cases e
   have hy : zh w' (some ⟨b, o + (k + 4), none⟩) (cap - (k + 4)) (s.drop (k + 4)) := Or.inr ⟨b, o + (k + 4), rfl, by have := hB'.size; omega, fun j hj => by
    have h0 : j < 4 := by omega
    have := (hB'.cell (p := ⟨b, o + (k + 4 + j), none⟩) (by show b < W.heap.size; omega)).trans ((hbW.cell (p := ⟨b, o + (k + 4 + j), none⟩) (by show b < w.heap.size; omega)).trans (hc (k + 4 + j) (by omega)))
    rw [show o + (k + 4) + j = o + (k + 4 + j) by omega, this, List.getD_eq_getElem?_getD, List.getD_eq_getElem?_getD, List.getElem?_drop]⟩
   have h9 := bequal_any _ _ _ _ _ _ w' hy hat
   rw [hld, hs4] at h9
   exact h9
  have HFN : Hid (∀ w', Below W.heap.size W w' -> Cts (w'.setCell ⟨bc, 0, none⟩ (.slice (some ⟨b, o + 4, none⟩) k (cap - 4))) bc b (o + 4) (cap - 4) (.slice none 0 0) (.slice none 0 0) ((s.take (k + 4)).drop 4) [] [] /\ BK bc w (w'.setCell ⟨bc, 0, none⟩ (.slice (some ⟨b, o + 4, none⟩) k (cap - 4)))) := zB fun w' hB' => by
   have hbk := (hB'.block bc (by omega)).trans hbW2
   have hbl : bc < w'.heap.size := (Array.getElem?_eq_some_iff.1 hbk).1
   have hnb : b ≠ bc := by omega
   refine ⟨⟨⟨?_, fun j hj => ?_, hnb, by rw [hdt]; omega, by omega⟩, yx.nil _ _, yx.nil _ _, fun k hk => by simp [Value.ownBlock] at hk, hbc⟩, ?_⟩
   ·rw [hdt]; exact heap_setCell_same w' _ _ _ _ _ hbk
   ·rw [hdt] at hj
    rw [cell_setC hnb, show o + 4 + j = o + (4 + j) by omega, (hB'.cell (p := ⟨b, o + (4 + j), none⟩) (by show b < W.heap.size; omega)).trans ((hbW.cell (p := ⟨b, o + (4 + j), none⟩) (by show b < w.heap.size; omega)).trans (hc (4 + j) (by omega)))]
    rw [List.getD_eq_getElem?_getD, List.getD_eq_getElem?_getD, List.getElem?_drop, List.getElem?_take_of_lt (by omega)]
   ·exact ((zA HBW).trans (BK.up hB' (by omega))).trans (BK.mod (Mod.setCell w' bc 0 _) hbk)
  have HM := zB hm
  rw [hk] at HHP c0 c0W
  clear h1 h2 hb hbW2 hc hm n8 hlt' hld hdt h8
  have n8 : ¬ ((k : Int) + 8) < 8 := by omega
  have hcap2 : k + 8 <= cap := by omega
  by_cases hv : s.getD 3 0 = 1
  ·have HV := zB hv
   rw [hv] at c3W
   have c3 : W.cell? ⟨b, o + 3, none⟩ = some (.int .u8 1) := c3W
   clear c3W
   have HE4 := zB e4
   by_cases hq : yK (s.take (k + 4)) = s.drop (k + 4)
   ·rw [decide_eq_true hq.symm] at HSE
    have HQ := zB hq
    clear hv hq hk e4 hcap
    go_enter Tryz.func102, Tryz.ntmps102
    go_wp2_with (go_at_call 133; refine (zA HHP).mono ?_; rintro e w' ⟨rfl, hw'⟩; rw [← zA HW] at hw'; subst hw')
    rw [show (k : Int) + 8 - 4 = (k : Int) + 4 by omega]
    have u1 : (0 : Int) <= (k : Int) + 4 := by omega
    have u2 : (k : Int) + 4 <= (k : Int) + 8 := by omega
    have u3 : (k : Int) + 4 <= (cap : Int) := by omega
    have u4 : ((k : Int) + 4).toNat = k + 4 := by omega
    have u5 : (k : Int) + 8 <= (cap : Int) := by omega
    have u6 : k + 8 - (k + 4) = 4 := by omega
    go_region_held3 (fun w' => w'.cell? ⟨bc, 0, none⟩ = some (.slice (some ⟨b, o, none⟩) (k + 8) cap)) (go_keep)
     (first | (go_at_call 60; refine (zA HSE 1).mono ?_; rintro e w5 ⟨rfl, B5, z5, f5, hEq⟩; have HEQ := zB hEq; clear hEq) | (go_at_call 37; refine (zA HEQ).mono ?_; rintro e w6 ⟨rfl, hw6⟩; obtain rfl := hw6.symm))
    all_goals obtain ⟨D1, D2⟩ := zA HFN w5 (zA B5)
    all_goals have HD1 := zB D1
    all_goals have HD2 := zB D2
    all_goals clear D1 D2
    all_goals go_wp2_with fail
    all_goals go_end0
    all_goals exact Or.inl ⟨_, _, rfl, zB (by rw [zA HE4]; exact zA HD1), HD2, zB ⟨zA HM, zA HV, by rw [zA HE4]; exact zA HQ⟩⟩
   ·rw [decide_eq_false (fun e => hq e.symm)] at HSE
    have HQ := zB hq
    clear hv hq hk e4 hcap
    go_enter Tryz.func102, Tryz.ntmps102
    go_wp2_with (go_at_call 133; refine (zA HHP).mono ?_; rintro e w' ⟨rfl, hw'⟩; rw [← zA HW] at hw'; subst hw')
    rw [show (k : Int) + 8 - 4 = (k : Int) + 4 by omega]
    have u1 : (0 : Int) <= (k : Int) + 4 := by omega
    have u2 : (k : Int) + 4 <= (k : Int) + 8 := by omega
    have u3 : (k : Int) + 4 <= (cap : Int) := by omega
    have u4 : ((k : Int) + 4).toNat = k + 4 := by omega
    have u5 : (k : Int) + 8 <= (cap : Int) := by omega
    have u6 : k + 8 - (k + 4) = 4 := by omega
    go_region_held3 (fun w' => w'.cell? ⟨bc, 0, none⟩ = some (.slice (some ⟨b, o, none⟩) (k + 8) cap)) (go_keep)
     (first | (go_at_call 60; refine (zA HSE 1).mono ?_; rintro e w5 ⟨rfl, B5, z5, f5, hEq⟩; have HEQ := zB hEq; clear hEq) | (go_at_call 37; refine (zA HEQ).mono ?_; rintro e w6 ⟨rfl, hw6⟩; obtain rfl := hw6.symm))
    all_goals go_wp2_with fail
    all_goals exact ⟨rfl, Or.inr ⟨9, rfl, zB ((zA HBW).trans (BK.up (zA B5) (by omega))), zB (Or.inr (Or.inr ⟨rfl, zA HM, zA HV, by rw [zA HE4]; exact zA HQ⟩))⟩⟩
  ·have hv2 : (s.getD 3 0).toNat ≠ 1 := fun e => hv (UInt8.toNat_inj.1 (by rw [e]; rfl))
   have v1 : (((s.getD 3 0).toNat : Int) != 1) = true := by rw [bne_iff_ne]; omega
   have HV := zB hv
   clear hv hv2 HSE HFN
   generalize (s.getD 3 0).toNat = u at *
   go_enter Tryz.func102, Tryz.ntmps102
   go_wp2_with (go_at_call 133; refine (zA HHP).mono ?_; rintro e w' ⟨rfl, hw'⟩; rw [← zA HW] at hw'; subst hw')
   exact ⟨rfl, Or.inr ⟨8, rfl, HBW, zB (Or.inr (Or.inl ⟨rfl, zA HM, zA HV⟩))⟩⟩
 ·rw [decide_eq_false hm] at HHP
  have HM := zB hm
  clear h1 h2 hb hbW2 hc hm
  generalize hsl : s.length = n at *
  go_enter Tryz.func102, Tryz.ntmps102
  go_wp2_with (go_at_call 133; refine (zA HHP).mono ?_; rintro e w' ⟨rfl, rfl⟩)
  rw [← zA HW]
  exact ⟨rfl, Or.inr ⟨7, rfl, HBW, zB (Or.inl ⟨rfl, zA HM⟩)⟩⟩
end Go.Proofs.YtfpohfifdfbpkaaGreatDoor
