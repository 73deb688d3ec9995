import Derived.Test.YtfpohfifdfbpkaaGreatDoorPackDef
import Derived.Test.YtfpohfifdfbpkaaGreatDoorPkF
import Derived.Laws.BitsLemmas
import Derived.Laws.BitsAllLaws
import Derived.Test.YtfpohfifdfbpkaaGreatDoorFlS
import Derived.Lib.AppendZerosOnto
import Derived.Lib.SliceRun
namespace Go.Proofs.YtfpohfifdfbpkaaGreatDoor
open Go.RowKit Scour Go.Lib
def rdR : Nat -> Nat -> Nat -> Str -> Option (Nat × Str)
 | 0, _, _, _ => none
 | _ + 1, _, _, [] => none
 | k + 1, n, p, b :: r => if b.toNat < 128 then some (n + b.toNat % 128 * p, r) else rdR k (n + b.toNat % 128 * p) (p * 128) r
theorem rdR_bound : ∀ (k n p : Nat) (l : Str) (v : Nat) (r : Str), rdR k n p l = some (v, r) -> n < p -> v < p * 128 ^ k
 | 0, _, _, _, _, _, h, _ => by cases h
 | k + 1, n, p, [], _, _, h, _ => by cases h
 | k + 1, n, p, b :: l, v, r, h, hn => by
   have hb : b.toNat % 128 * p <= 127 * p := Nat.mul_le_mul_right p (by omega)
   rw [rdR] at h
   split at h
   ·cases h
    have h1 : p * 128 <= p * 128 ^ (k + 1) := Nat.mul_le_mul_left p (by rw [Nat.pow_succ]; have := Nat.pow_pos (n := k) (show 0 < 128 by omega); omega)
    omega
   ·have := rdR_bound k _ (p * 128) l v r h (by omega)
    rwa [Nat.mul_assoc, ← Nat.pow_succ'] at this
theorem rdR_tail : ∀ (k n p : Nat) (l : Str) (v : Nat) (r : Str), rdR k n p l = some (v, r) -> ∃ m, 1 <= m /\ m <= l.length /\ r = l.drop m
 | 0, _, _, _, _, _, h => by cases h
 | k + 1, n, p, [], _, _, h => by cases h
 | k + 1, n, p, b :: l, v, r, h => by
   rw [rdR] at h
   split at h
   ·cases h
    exact ⟨1, by omega, by simp, rfl⟩
   ·obtain ⟨m, h1, h2, h3⟩ := rdR_tail k _ _ l v r h
    exact ⟨m + 1, by omega, by simp; omega, by rw [h3]; rfl⟩
end Go.Proofs.YtfpohfifdfbpkaaGreatDoor
namespace Go.Proofs.YtfpohfifdfbpkaaGreatDoor
open Go.RowKit Scour Go.Lib
def faultP (n : Int) : List PanicEntry := [{ v := .iface 85 (.agg #[.int .i64 n]), recovered := false }]
structure Rdr (w : World) (bc b o cap : Nat) (st pt : Value) (L : Str) : Prop where
 blk : w.heap[bc]? = some (.cells #[.slice (some ⟨b, o, none⟩) L.length cap, st, pt] 128 (0, 0))
 cel : ∀ j, j < L.length -> w.cell? ⟨b, o + j, none⟩ = some (.int .u8 (L.getD j 0).toNat)
 ne : b ≠ bc
 room : L.length < cap
 small : cap <= 9223372036854775807
theorem Rdr.step {w : World} {bc b o cap : Nat} {st pt : Value} {c : UInt8} {L : Str} (h : Rdr w bc b o cap st pt (c :: L)) : Rdr (w.setCell ⟨bc, 0, none⟩ (.slice (some ⟨b, o + 1, none⟩) L.length (cap - 1))) bc b (o + 1) (cap - 1) st pt L := by
 refine ⟨heap_setCell_same w _ _ _ _ _ h.blk, fun j hj => ?_, h.ne, by have := h.room; simp at this; omega, by have := h.small; omega⟩
 have h1 := h.cel (j + 1) (by simp; omega)
 have e : (w.setCell ⟨bc, 0, none⟩ (.slice (some ⟨b, o + 1, none⟩) L.length (cap - 1))).heap[b]? = w.heap[b]? := Below.heap_setCell w ⟨bc, 0, none⟩ _ b h.ne
 have e2 : (w.setCell ⟨bc, 0, none⟩ (.slice (some ⟨b, o + 1, none⟩) L.length (cap - 1))).cell? ⟨b, o + 1 + j, none⟩ = w.cell? ⟨b, o + (j + 1), none⟩ := by
  unfold World.cell?
  simp only [e]
  rw [show o + 1 + j = o + (j + 1) by omega]
 rw [e2, h1]
 rfl
set_option maxHeartbeats 1000000 in
theorem rnext_none (bc b o cap : Nat) (st pt : Value) (w : World) (h : Rdr w bc b o cap st pt []) :
  Calls Tryz.prog 135 #[.pointer (some ⟨bc, 0, none⟩)] w fun e w' => e = .panicked (faultP 10) /\ w' = w := by
 have c0 : w.cell? ⟨bc, 0, none⟩ = some (.slice (some ⟨b, o, none⟩) 0 cap) := by rw [zC h.blk]; rfl
 clear h
 go_enter Tryz.func135, Tryz.ntmps135
 go_wp2
 exact ⟨rfl, rfl, rfl⟩
set_option maxHeartbeats 1000000 in
theorem rnext_some (bc b o cap : Nat) (st pt : Value) (c : UInt8) (L : Str) (w : World) (h : Rdr w bc b o cap st pt (c :: L)) :
  Calls Tryz.prog 135 #[.pointer (some ⟨bc, 0, none⟩)] w fun e w' => e = .returned (.int .u8 c.toNat) /\ w' = w.setCell ⟨bc, 0, none⟩ (.slice (some ⟨b, o + 1, none⟩) L.length (cap - 1)) := by
 have c0 : w.cell? ⟨bc, 0, none⟩ = some (.slice (some ⟨b, o, none⟩) (L.length + 1) cap) := by rw [zC h.blk]; rfl
 have f0 : w.frozen? ⟨bc, 0, none⟩ = false := frozen_of_row w _ _ _ _ h.blk
 have c1 : w.cell? ⟨b, o, none⟩ = some (.int .u8 (c.toNat : Int)) := by have := h.cel 0 (by simp); simpa using this
 have h1 : L.length + 1 < cap := by have := h.room; simpa using this
 have h2 := h.small
 clear h
 generalize L.length = n at *
 go_enter Tryz.func135, Tryz.ntmps135
 go_wp2
 go_ret
 exact ⟨rfl, rfl⟩
theorem and127 : ∀ x : Fin 256, bits .and .u8 (x.val : Int) 127 = ((x.val % 128 : Nat) : Int) := by decide +kernel
theorem wraps_i64 (n : Int) (h₀ : 0 <= n) (h₁ : n < 2 ^ 63) : IntKind.i64.wrap n = n := by rw [IntKind.wrap_i64]; omega
theorem or_high (i n a : Nat) (hn : n < 2 ^ i) (h : n + a * 2 ^ i < 2 ^ 60) : bits .or .i64 (n : Int) ((a * 2 ^ i : Nat) : Int) = ((n + a * 2 ^ i : Nat) : Int) := by
 have h0 := (bits_nat .i64 63 (by decide) wraps_i64 n (a * 2 ^ i) (by omega) (by omega)).2
 rw [h0, Nat.or_comm, nat_join i (a * 2 ^ i) n (Nat.mul_mod_left _ _) hn, Nat.add_comm]
def NumPost (w : World) (bc b : Nat) (st pt : Value) (L : Str) (most : Int) (e : Ending) (w' : World) : Prop :=
 (∃ (v : Nat) (r : Str) (o cap : Nat), e = .returned (.int .i64 v) /\ v < 268435456 /\ (v : Int) <= most /\ Hid (rdR 4 0 1 L = some (v, r)) /\ Hid (Rdr w' bc b o cap st pt r) /\ Hid (Mod (fun k => k = bc) w w'))
 \/ (e = .panicked (faultP 10) /\ Hid (∀ v r, rdR 4 0 1 L = some (v, r) -> most < (v : Int)) /\ Hid (Mod (fun k => k = bc) w w'))
set_option maxHeartbeats 4000000 in
set_option maxRecDepth 100000 in
theorem rnumber_any (bc b o cap : Nat) (st pt : Value) (L : Str) (most : Int) (w : World) (h : Rdr w bc b o cap st pt L) :
  Calls Tryz.prog 134 #[.pointer (some ⟨bc, 0, none⟩), .int .i64 most] w (NumPost w bc b st pt L most) := by
 obtain ⟨R, hR⟩ : ∃ R, R = rdR 4 0 1 L := ⟨_, rfl⟩
 unfold NumPost
 rw [← hR]
 have HH := zB h
 have HR := zB hR
 clear h hR
 go_enter Tryz.func134, Tryz.ntmps134
 go_wp2
 go_loopw [5, 8] (fun v5 v8 wr => ∃ (k n o cap : Nat) (l : Str), v8 = .int .i64 k /\ v5 = .int .i64 n /\ k <= 4 /\ n < 2 ^ (7 * k) /\ n < 268435456 /\ Hid (rdR (4 - k) n (2 ^ (7 * k)) l = R) /\ Hid (Rdr wr bc b o cap st pt l) /\ Hid (Mod (fun k => k = bc) w wr)) (fun _ v8 _ => 4 - (intOf v8).toNat)
 case atStart => exact ⟨0, 0, o, cap, L, rfl, rfl, by omega, by decide, by decide, zB (zA HR).symm, HH, zB (Mod.refl _ _)⟩
 case round =>
  obtain ⟨k, n, o', cap', l, rfl, rfl, hk4, hn, hnb, HN, HRd, HMd⟩ := hrel
  by_cases hk : k < 4
  ·have k1 : (k : Int) < 4 := by omega
   cases l with
   | nil =>
     have HNX := zB (rnext_none bc b o' cap' st pt wr (zA HRd))
     have HE : Hid (R = none) := zB (by rw [← zA HN, show 4 - k = (3 - k) + 1 by omega]; rfl)
     go_wp2_with (go_at_call 135; refine (zA HNX).mono ?_; rintro e w' ⟨rfl, hw'⟩; obtain rfl := hw'.symm)
     exact ⟨rfl, Or.inr ⟨rfl, zB (fun v r e => by rw [zA HE] at e; cases e), HMd⟩⟩
   | cons c l =>
     have HNX := zB (rnext_some bc b o' cap' st pt c l wr (zA HRd))
     have HR2 := zB (zA HRd).step
     have HM2 : Hid (Mod (fun k => k = bc) w (wr.setCell ⟨bc, 0, none⟩ (.slice (some ⟨b, o' + 1, none⟩) l.length (cap' - 1)))) := zB ((zA HMd).trans (Mod.setCell wr bc 0 _) (fun _ _ e => e))
     have hst : rdR (4 - k) n (2 ^ (7 * k)) (c :: l) = if c.toNat < 128 then some (n + c.toNat % 128 * 2 ^ (7 * k), l) else rdR (4 - (k + 1)) (n + c.toNat % 128 * 2 ^ (7 * k)) (2 ^ (7 * (k + 1))) l := by
      rw [show 4 - k = (4 - (k + 1)) + 1 by omega, rdR, show 7 * (k + 1) = 7 * k + 7 by omega, Nat.pow_add]
     have hc := c.toNat_lt
     have hand : bits .and .u8 (c.toNat : Int) 127 = ((c.toNat % 128 : Nat) : Int) := and127 ⟨c.toNat, hc⟩
     have hpk : 2 ^ (7 * k) <= 2097152 := by
      have : k = 0 \/ k = 1 \/ k = 2 \/ k = 3 := by omega
      rcases this with rfl | rfl | rfl | rfl <;> decide
     have hxb : c.toNat % 128 * 2 ^ (7 * k) <= 127 * 2 ^ (7 * k) := Nat.mul_le_mul_right _ (by omega)
     have hor := or_high (7 * k) n (c.toNat % 128) hn (by omega)
     have hn2 : n + c.toNat % 128 * 2 ^ (7 * k) < 2 ^ (7 * (k + 1)) := by rw [show 7 * (k + 1) = 7 * k + 7 by omega, Nat.pow_add]; omega
     have hnb2 : n + c.toNat % 128 * 2 ^ (7 * k) < 268435456 := by omega
     have hor2 : bits .or .i64 (n : Int) (wrap64 ((c.toNat : Int) % 128 * 2 ^ (7 * k))) = ((n + c.toNat % 128 * 2 ^ (7 * k) : Nat) : Int) := by
      rw [← hor]
      congr 1
      have e1 : (c.toNat : Int) % 128 * 2 ^ (7 * k) = ((c.toNat % 128 * 2 ^ (7 * k) : Nat) : Int) := by simp
      rw [e1]
      unfold wrap64
      omega
     obtain ⟨m, hm⟩ : ∃ m, m = n + c.toNat % 128 * 2 ^ (7 * k) := ⟨_, rfl⟩
     rw [← hm] at hn2 hnb2 hor2 hst
     have HST := zB hst
     clear hst hor hxb hn hm HRd
     by_cases hb : c.toNat < 128
     ·have b1 : (c.toNat : Int) < 128 := by omega
      have HE : Hid (R = some (m, l)) := zB (by rw [← zA HN, zA HST, if_pos hb])
      by_cases hmo : most < (m : Int)
      ·go_wp2_with (go_at_call 135; refine (zA HNX).mono ?_; rintro e w' ⟨rfl, rfl⟩)
       exact ⟨rfl, Or.inr ⟨rfl, zB (fun v r e => by rw [zA HE] at e; cases e; exact hmo), HM2⟩⟩
      ·go_wp2_with (go_at_call 135; refine (zA HNX).mono ?_; rintro e w' ⟨rfl, rfl⟩)
       go_ret
       exact Or.inl ⟨m, l, _, _, rfl, hnb2, by omega, HE, HR2, HM2⟩
     ·have b1 : ¬ (c.toNat : Int) < 128 := by omega
      have HN2 : Hid (rdR (4 - (k + 1)) m (2 ^ (7 * (k + 1))) l = R) := zB (by rw [← zA HN, zA HST, if_neg hb])
      go_wp2_with (go_at_call 135; refine (zA HNX).mono ?_; rintro e w' ⟨rfl, rfl⟩)
      go_roundw
      case rel => exact ⟨k + 1, m, _, _, l, by go_num, rfl, by omega, hn2, hnb2, HN2, HR2, HM2⟩
      case measure => simp [intOf]; omega
  ·obtain rfl : k = 4 := by omega
   have HE : Hid (R = none) := zB (by rw [← zA HN]; rfl)
   go_wp2_with fail
   exact ⟨rfl, Or.inr ⟨rfl, zB (fun v r e => by rw [zA HE] at e; cases e), HMd⟩⟩
end Go.Proofs.YtfpohfifdfbpkaaGreatDoor
namespace Go.Proofs.YtfpohfifdfbpkaaGreatDoor
open Go.RowKit Scour Go.Lib
set_option maxHeartbeats 4000000 in
set_option maxRecDepth 100000 in
theorem grow_any (n : Nat) (w : World) (h0 : 0 < n) (hn : n < 1000000) :
  Calls Tryz.prog 153 #[.slice none 0 0, .int .i64 n] w fun e w' => ∃ G, e = .returned (.slice (some ⟨w.heap.size, 0, none⟩) 0 G) /\ Hid (w'.ownsRow w.heap.size 5 1 (.slice (some ⟨w.heap.size, 0, none⟩) 0 G) 0 []) /\ Hid (Below w.heap.size w w') := by
 obtain ⟨i0, hi, hz0, hz1, hz2⟩ := info_parts Tryz.infoB
 have hold : (Builtin.firstCells i0.size 0 (.slice none 0 0)).run Tryz.prog w.drew = .ok ([] : List Value).toArray w.drew := run_firstCells_none w.drew i0.size 0 0 0
 have hr := fun ty => Lib.run_append_grow_zeros w 27 3 ty 5 i0 (.int .u8 0) .i64 .i64 Tryz.underlying27 Tryz.underlying3 hi hz0 none 0 0 [] hold n h0 (by rw [hz1]; decide) (by omega) (by omega) (by rw [hz2]; omega) (growslice_fits (by omega) (by rw [hz2]; omega))
 have hGn : 0 + n <= grownCap w (0 + n) 0 5 := grownCap_ge w _ _ _
 have hGm : grownCap w (0 + n) 0 5 <= maxLen := grownCap_le_maxLen w (0 + n) 0 5 (by unfold maxLen; omega)
 generalize grownCap w (0 + n) 0 5 = G at *
 obtain ⟨ob, hob⟩ : ∃ ob, ob = Obj.cells (([] : List Value).toArray ++ Builtin.zeroCells (Value.int .u8 0).cells n ++ Builtin.zeroCells (Value.int .u8 0).cells (G - (0 + n))) 5 := ⟨_, rfl⟩
 rw [← hob] at hr
 have HO : Hid ((w.drew.alloc ob).ownsRow w.heap.size 5 1 (.slice (some ⟨w.heap.size, 0, none⟩) 0 G) 0 []) := zB (by
  subst hob
  refine ⟨by simp, Or.inr ⟨w.heap.size, G, _, rfl, Nat.le_refl _, heap_alloc_new w.drew _, Nat.zero_le _, hGm, ?_, by simp⟩⟩
  simp only [Array.size_append, size_zeroCells]
  simp [Value.cells]
  omega)
 have HB : Hid (Below w.heap.size w (w.drew.alloc ob)) := zB ((below_drewN (Below.refl _ _) 1).alloc (Nat.le_refl _) _)
 rw [show 0 + n = n by omega] at hr
 clear hob hold
 unfold maxLen at hGm
 go_enter Tryz.func153, Tryz.ntmps153
 go_wp2_with (at_builtin; refine Lib.wpList_append_run _ rfl _ _ _ _ rfl _ _ rfl rfl _ _ (hr _) ?_)
 go_ret
 exact ⟨G, rfl, HO, HB⟩
def pieces (x : Str) (c : UInt8) : Nat -> Str
 | 0 => []
 | 1 => x
 | _ => x ++ [c]
theorem bytes_src {W : World} {B : Nat} {ao : Option Addr} {s : Str} (h : jD W B ao s) : ∀ ad, ao = some ad -> 0 < s.length -> ∀ j u, (s.map zT)[j]? = some u -> W.cell? (ad.add j) = some u := by
 intro ad e h0 j u hu
 obtain ⟨b, o, _, e1, hc⟩ := h h0
 rw [e1] at e
 obtain rfl := Option.some.inj e
 have hj : j < s.length := by
  have := (List.getElem?_eq_some_iff.1 hu).1
  simpa using this
 rw [zg, hc j hj]
 rw [← hu]
 simp [zT, List.getD, hj]
set_option maxHeartbeats 8000000 in
set_option maxRecDepth 100000 in
theorem concat_any (bb a2 : Nat) (ao : Option Addr) (c1 : Nat) (x : Str) (c : UInt8) (w : World) (hx : x.length < 100000)
  (h0 : w.cell? ⟨bb, 0, none⟩ = some (.slice ao x.length c1)) (h1 : w.cell? ⟨bb, 1, none⟩ = some (.slice (some ⟨a2, 0, none⟩) 1 1)) (hB : jD w w.heap.size ao x) (hn : ao = none -> c1 = 0) (hc : w.cell? ⟨a2, 0, none⟩ = some (.int .u8 c.toNat)) (hbb : bb < w.heap.size) (ha2 : a2 < w.heap.size) :
  Calls Tryz.prog 137 #[.slice (some ⟨bb, 0, none⟩) 2 2] w fun e w' => ∃ g cap, e = .returned (.slice (some ⟨g, 0, none⟩) (x.length + 1) cap) /\ Hid (w'.ownsRow w.heap.size 5 1 (.slice (some ⟨g, 0, none⟩) (x.length + 1) cap) (x.length + 1) ((x ++ [c]).map zT)) /\ Hid (Below w.heap.size w w') := by
 obtain ⟨i0, hi, hz0, hz1, hz2⟩ := info_parts Tryz.infoB
 have HB := zB hB
 have HN := zB hn
 have HCE : Hid (∀ W, Below w.heap.size w W -> W.cell? ⟨bb, 0, none⟩ = some (.slice ao x.length c1) /\ W.cell? ⟨bb, 1, none⟩ = some (.slice (some ⟨a2, 0, none⟩) 1 1) /\ W.cell? ⟨a2, 0, none⟩ = some (.int .u8 c.toNat)) := zB fun W hb =>
  ⟨(hb.cell (p := ⟨bb, 0, none⟩) hbb).trans h0, (hb.cell (p := ⟨bb, 1, none⟩) hbb).trans h1, (hb.cell (p := ⟨a2, 0, none⟩) ha2).trans hc⟩
 have HSX : Hid (∀ W, Below w.heap.size w W -> ∀ ad, ao = some ad -> ∀ j u, (x.map zT)[j]? = some u -> W.cell? (ad.add j) = some u) := zB fun W hb ad e j u hu => bytes_src (hB.below hb (Nat.le_refl _)) ad e (by
  have := (List.getElem?_eq_some_iff.1 hu).1
  simp at this; omega) j u hu
 have HXN : Hid (ao = none -> c1 = 0 /\ x.map zT = []) := zB fun e => ⟨hn e, by
  by_cases h : 0 < x.length
  ·obtain ⟨b, o, _, e1, _⟩ := hB h
   rw [e1] at e; cases e
  ·obtain rfl : x = [] := List.length_eq_zero_iff.1 (by omega)
   rfl⟩
 have HGR := fun W => zB (grow_any (x.length + 1) W (by omega) (by omega))
 clear hB hn
 go_enter Tryz.func137, Tryz.ntmps137
 go_wp2
 go_loop [3, 11] (fun v3 v11 => ∃ k : Nat, v11 = .int .i64 k /\ k <= 2 /\ v3 = .int .i64 ((pieces x c k).length : Nat)) (fun _ v11 => 3 - (intOf v11).toNat)
 case atStart => exact ⟨0, rfl, by omega, rfl⟩
 case round =>
  obtain ⟨k, rfl, hk, rfl⟩ := hrel
  have hk3 : k = 0 \/ k = 1 \/ k = 2 := by omega
  rcases hk3 with rfl | rfl | rfl
  ·have e0 : (pieces x c 0).length = 0 := rfl
   have e1 : (pieces x c 1).length = x.length := rfl
   rw [e0]
   go_wp2
   go_round
   case rel => exact ⟨1, by go_num, by omega, by first | (rw [e1]; done) | (rw [e1]; go_num)⟩
   case measure => simp [intOf]
  ·have e0 : (pieces x c 1).length = x.length := rfl
   have e1 : (pieces x c 2).length = x.length + 1 := by simp [pieces]
   rw [e0]
   go_wp2
   go_round
   case rel => exact ⟨2, by go_num, by omega, by first | (rw [e1]; done) | (rw [e1]; go_num)⟩
   case measure => simp [intOf]
  ·have e0 : (pieces x c 2).length = x.length + 1 := by simp [pieces]
   rw [e0]
   go_wp2_with (go_at_call 153; refine (zA (HGR _)).mono ?_; rintro e w1 ⟨G, rfl, HO1, HB1⟩)
   go_loopw [6, 27] (fun v6 v27 wr => ∃ (k : Nat) (v : Value), v27 = .int .i64 k /\ k <= 2 /\ v6 = v /\ Hid (wr.ownsRow w.heap.size 5 1 v (pieces x c k).length ((pieces x c k).map zT)) /\ Hid (Below w.heap.size w wr)) (fun _ v27 _ => 3 - (intOf v27).toNat)
   case atStart => exact ⟨0, _, rfl, by omega, rfl, HO1, HB1⟩
   case round =>
    obtain ⟨k, v, rfl, hk, rfl, HO, HBw⟩ := hrel
    have hk3 : k = 0 \/ k = 1 \/ k = 2 := by omega
    have hsz := (zA HBw).size
    obtain ⟨y0, y1, y2⟩ := zA HCE wr (zA HBw)
    rcases hk3 with rfl | rfl | rfl
    ·have HA : Hid (wr.ownsRow w.heap.size 5 1 u6 0 []) := HO
     go_wp2_with (at_builtin; go_loud (refine yz rfl (.tmp 31) (.tmp 32) 27 rfl w.heap.size 5 i0 _ 1 1 Tryz.underlying27 hi hz0 hz1 hz2 rfl (by decide) u6 0 [] rfl (zA HA) ao x.length c1 (x.map zT) rfl (zA HXN) (by simp) (zA HSX _ (zA HBw)) (one_cells x) (by unfold maxLen; omega) (by omega) hsz ?_); intro v' w2 ho hg; have HO2 : Hid (w2.ownsRow w.heap.size 5 1 v' x.length (x.map zT)) := zB (by simpa using ho); have HB2 := zB ((zA HBw).trans (zG hg hsz (yN (zA HA)))); clear ho hg)
     go_roundw
     case rel => exact ⟨1, v', by go_num, by omega, rfl, HO2, HB2⟩
     case measure => simp [intOf]
    ·have HA : Hid (wr.ownsRow w.heap.size 5 1 u6 x.length (x.map zT)) := HO
     have HS1 : Hid (∀ ad, some (⟨a2, 0, none⟩ : Addr) = some ad -> ∀ j u, [Value.int .u8 (c.toNat : Int)][j]? = some u -> wr.cell? (ad.add j) = some u) := zB (by
      intro ad e j u hu
      obtain rfl := Option.some.inj e
      have hj : j = 0 := by have := (List.getElem?_eq_some_iff.1 hu).1; simp at this; exact this
      subst hj
      rw [zg]
      simp at hu
      rw [← hu]; exact y2)
     go_wp2_with (at_builtin; go_loud (refine yz rfl (.tmp 31) (.tmp 32) 27 rfl w.heap.size 5 i0 _ 1 1 Tryz.underlying27 hi hz0 hz1 hz2 rfl (by decide) u6 x.length (x.map zT) rfl (zA HA) (some ⟨a2, 0, none⟩) 1 1 [.int .u8 (c.toNat : Int)] rfl (fun e => by cases e) rfl (zA HS1) (by intro u hu; simp at hu; subst hu; rfl) (by unfold maxLen; omega) (by omega) hsz ?_); intro v' w2 ho hg; have HO2 : Hid (w2.ownsRow w.heap.size 5 1 v' (pieces x c 2).length ((pieces x c 2).map zT)) := zB (by simpa [pieces, zT] using ho); have HB2 := zB ((zA HBw).trans (zG hg hsz (yN (zA HA)))); clear ho hg)
     go_roundw
     case rel => exact ⟨2, v', by go_num, by omega, rfl, HO2, HB2⟩
     case measure => simp [intOf]
    ·have HA : Hid (wr.ownsRow w.heap.size 5 1 u6 (x.length + 1) ((x ++ [c]).map zT)) := zB (by
      have := zA HO
      have e0 : (pieces x c 2).length = x.length + 1 := by simp [pieces]
      rw [e0] at this
      exact this)
     obtain ⟨g, cap, rfl⟩ := owns_some (zA HA) (by omega)
     go_wp2_with fail
     go_ret
     exact ⟨g, cap, rfl, HA, HBw⟩
end Go.Proofs.YtfpohfifdfbpkaaGreatDoor
