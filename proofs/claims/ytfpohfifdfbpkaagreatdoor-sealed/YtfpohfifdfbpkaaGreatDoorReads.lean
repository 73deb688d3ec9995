import Derived.Test.YtfpohfifdfbpkaaGreatDoorRdM
import Derived.Test.YtfpohfifdfbpkaaGreatDoorRef
import Derived.Laws.BitsLemmas
import Derived.Test.YtfpohfifdfbpkaaGreatDoorFileM
namespace Go.Proofs.YtfpohfifdfbpkaaGreatDoor
open Go.RowKit Scour Go.Lib
def Rd (w : World) (rd : Nat) (sx : ByteArray) (i : Nat) (bad : Bool) : Prop := w.heap[rd]? = some (.cells #[.string sx, .int .i64 i, .bool bad] 252 (0, 0))
def rdN (s : Str) (most : Int) : Nat -> Nat -> Nat -> Nat -> Nat × Nat × Bool
 | 0, i, _, _ => (0, i, true)
 | k + 1, i, n, p => if i < s.length then (if (s.getD i 0).toNat < 128 then (n + (s.getD i 0).toNat % 128 * p, i + 1, decide (most < ((n + (s.getD i 0).toNat % 128 * p : Nat) : Int))) else rdN s most k (i + 1) (n + (s.getD i 0).toNat % 128 * p) (p * 128)) else (0, i, true)
theorem Rd.cells {w : World} {rd i : Nat} {sx : ByteArray} {bad : Bool} (h : Rd w rd sx i bad) : w.cell? ⟨rd, 0, none⟩ = some (.string sx) /\ w.cell? ⟨rd, 1, none⟩ = some (.int .i64 i) /\ w.cell? ⟨rd, 2, none⟩ = some (.bool bad) /\ w.frozen? ⟨rd, 1, none⟩ = false /\ w.frozen? ⟨rd, 2, none⟩ = false :=
 ⟨by rw [zC h]; rfl, by rw [zC h]; rfl, by rw [zC h]; rfl, frozen_of_row w _ _ _ _ h, frozen_of_row w _ _ _ _ h⟩
theorem Rd.move {w : World} {rd i : Nat} {sx : ByteArray} {bad : Bool} (h : Rd w rd sx i bad) (j : Nat) : Rd (w.setCell ⟨rd, 1, none⟩ (.int .i64 j)) rd sx j bad := heap_setCell_same w _ _ _ _ _ h
theorem Rd.wrong {w : World} {rd i : Nat} {sx : ByteArray} {bad : Bool} (h : Rd w rd sx i bad) (b : Bool) : Rd (w.setCell ⟨rd, 2, none⟩ (.bool b)) rd sx i b := heap_setCell_same w _ _ _ _ _ h
theorem only_set {w0 w : World} {rd o : Nat} {v : Value} (h : Mod (fun k => k = rd) w0 w) : Mod (fun k => k = rd) w0 (w.setCell ⟨rd, o, none⟩ v) := h.trans (Mod.setCell w rd o v) (fun _ _ e => e)
theorem pow_le4 {k : Nat} (h : k <= 4) : 128 ^ k <= 268435456 := by
 have : k = 0 \/ k = 1 \/ k = 2 \/ k = 3 \/ k = 4 := by omega
 rcases this with rfl | rfl | rfl | rfl | rfl <;> decide
set_option maxHeartbeats 4000000 in
set_option maxRecDepth 100000 in
theorem rdNumber_any (rd i0 : Nat) (s : Str) (bad : Bool) (most : Int) (w : World) (hR : Rd w rd ⟨s.toArray⟩ i0 bad) (hs : s.length < 1000000000000) (hi0 : i0 < 1000000000000) :
  Calls Tryz.prog 148 #[.pointer (some ⟨rd, 0, none⟩), .int .i64 most] w fun e w' => e = .returned (.int .i64 (rdN s most 4 i0 0 1).1) /\ Rd w' rd ⟨s.toArray⟩ (rdN s most 4 i0 0 1).2.1 (bad || (rdN s most 4 i0 0 1).2.2) /\ Mod (fun k => k = rd) w w' := by
 obtain ⟨R, hRR⟩ : ∃ R, R = rdN s most 4 i0 0 1 := ⟨_, rfl⟩
 rw [← hRR]
 have HRR := zB hRR
 clear hRR
 have hsz : (⟨s.toArray⟩ : ByteArray).size = s.length := by simp [ByteArray.size]
 have HG : Hid (∀ k (hk : k < (⟨s.toArray⟩ : ByteArray).size), (⟨s.toArray⟩ : ByteArray)[k] = s.getD k 0) := zB (fun k hk => by
  simp only [ByteArray.getElem_eq_getElem_data, List.getElem_toArray]
  simp [List.getD, show k < s.length by omega])
 have HR := zB hR
 clear hR
 obtain ⟨tx, htx⟩ : ∃ tx, tx = (⟨s.toArray⟩ : ByteArray) := ⟨_, rfl⟩
 rw [← htx] at hsz HR ⊢
 have HG2 : Hid (∀ k (hk : k < tx.size), tx[k] = s.getD k 0) := zB (fun k hk => by subst htx; exact zA HG k hk)
 have HSZ := zB hsz
 have hts : tx.size < 1000000000000 := by omega
 clear htx HG hsz
 go_enter Tryz.func148, Tryz.ntmps148
 go_wp2
 go_loopw [5, 6, 7] (fun v5 v6 v7 wr => ∃ (k i n p : Nat), v7 = .int .i64 k /\ v5 = .int .i64 n /\ v6 = .int .i64 p /\ k <= 4 /\ i <= i0 + k /\ Hid (p = 128 ^ k) /\ n < p /\ p <= 268435456 /\ Hid (rdN s most (4 - k) i n p = R) /\ Hid (Rd wr rd tx i bad) /\ Hid (Mod (fun k => k = rd) w wr)) (fun _ _ v7 _ => 4 - (intOf v7).toNat)
 case atStart => exact ⟨0, i0, 0, 1, rfl, rfl, rfl, Nat.zero_le _, Nat.le_refl _, zB rfl, by decide, by decide, zB (zA HRR).symm, HR, zB (Mod.refl _ _)⟩
 case round =>
  obtain ⟨k, i, n, p, rfl, rfl, rfl, hk4, hi, HP, hn, hp, HN, HRd, HMd⟩ := hrel
  obtain ⟨z0, z1, z2, f1, f2⟩ := (zA HRd).cells
  have hib : i < 2000000000000 := by omega
  by_cases hgo : k < 4 /\ i < tx.size
  ·obtain ⟨hk, hil⟩ := hgo
   have k1 : (k : Int) < 4 := by omega
   have k2 : (i : Int) < (tx.size : Int) := by omega
   have k3 : (0 : Int) <= (i : Int) := by omega
   have hu : tx[i].toNat < 256 := tx[i].toNat_lt
   go_wp2_with fail
   go_quiet (fail)
   have HRa : Hid (Rd (wr.drewN nq) rd tx i bad) := HRd
   have HMa : Hid (Mod (fun k => k = rd) w (wr.drewN nq)) := zB ((zA HMd).trans (Mod.drewN (P := fun _ => False) wr nq) (fun _ _ h => h.elim))
   clear HRd HMd z0 z1 z2 f1 f2
   generalize wr.drewN nq = wa at *
   obtain ⟨z0, z1, z2, f1, f2⟩ := (zA HRa).cells
   go_wp2_with fail
   go_quiet (fail)
   have HRb : Hid (Rd (wa.drewN nq) rd tx i bad) := HRa
   have HMb : Hid (Mod (fun k => k = rd) w (wa.drewN nq)) := zB ((zA HMa).trans (Mod.drewN (P := fun _ => False) wa nq) (fun _ _ h => h.elim))
   clear HRa HMa z0 z1 z2 f1 f2
   generalize wa.drewN nq = wb at *
   obtain ⟨z0, z1, z2, f1, f2⟩ := (zA HRb).cells
   have HST : Hid (rdN s most (4 - k) i n p = if tx[i].toNat < 128 then (n + tx[i].toNat % 128 * p, i + 1, decide (most < ((n + tx[i].toNat % 128 * p : Nat) : Int))) else rdN s most (4 - (k + 1)) (i + 1) (n + tx[i].toNat % 128 * p) (p * 128)) := zB (by
    have e4 : 4 - k = (4 - (k + 1)) + 1 := by omega
    rw [e4, rdN, if_pos (by have := zA HSZ; omega), ← zA HG2 i hil])
   have hxb : tx[i].toNat % 128 * p <= 127 * p := Nat.mul_le_mul_right p (by omega)
   have e1 : ((tx[i].toNat : Int) % 128) * (p : Int) = ((tx[i].toNat % 128 * p : Nat) : Int) := by rw [Int.natCast_mul, Int.natCast_emod]; rfl
   have HP2 : Hid (p * 128 = 128 ^ (k + 1)) := zB (by rw [zA HP, Nat.pow_succ])
   have hp2 : p * 128 <= 268435456 := by rw [zA HP2]; exact pow_le4 (by omega)
   generalize tx[i].toNat % 128 * p = x at *
   generalize tx[i].toNat = b at *
   have HR1 : Hid (Rd (wb.setCell ⟨rd, 1, none⟩ (.int .i64 ((i : Int) + 1))) rd tx (i + 1) bad) := zB ((zA HRb).move (i + 1))
   have HM1 : Hid (Mod (fun k => k = rd) w (wb.setCell ⟨rd, 1, none⟩ (.int .i64 ((i : Int) + 1)))) := zB (only_set (zA HMb))
   obtain ⟨_, _, y2, _, g2⟩ := (zA HR1).cells
   have hx2 : n + x < p * 128 := by omega
   by_cases hb : b < 128
   ·have b1 : (b : Int) < 128 := by omega
    have HRE : Hid (R = (n + x, i + 1, decide (most < ((n + x : Nat) : Int)))) := zB (by rw [← zA HN, zA HST, if_pos hb])
    clear HST HN
    cases bad with
    | true =>
      have HR2 := zB ((zA HR1).wrong true)
      have HM2 := zB (only_set (o := 2) (v := .bool true) (zA HM1))
      go_wp2_with fail
      go_ret
      rw [zA HRE]
      exact ⟨by simp, by simpa using zA HR2, zA HM2⟩
    | false =>
      have HR2 := zB ((zA HR1).wrong (decide (most < (n : Int) + (x : Int))))
      have HM2 := zB (only_set (o := 2) (v := .bool (decide (most < (n : Int) + (x : Int)))) (zA HM1))
      go_wp2_with fail
      go_ret
      rw [zA HRE]
      exact ⟨by simp, by simpa using zA HR2, zA HM2⟩
   ·have b1 : ¬ (b : Int) < 128 := by omega
    have HN2 : Hid (rdN s most (4 - (k + 1)) (i + 1) (n + x) (p * 128) = R) := zB (by rw [← zA HN, zA HST, if_neg hb])
    clear HST HN
    go_wp2_with fail
    go_roundw
    case rel => exact ⟨k + 1, i + 1, n + x, p * 128, by go_num, by go_num, by go_num, hk, by omega, HP2, hx2, hp2, HN2, HR1, HM1⟩
    case measure => simp [intOf]; omega
  ·have HRE : Hid (R = (0, i, true)) := zB (by
    rw [← zA HN]
    by_cases h4 : k < 4
    ·rw [show 4 - k = (4 - (k + 1)) + 1 by omega, rdN, if_neg (by have := zA HSZ; omega)]
    ·rw [show 4 - k = 0 by omega, rdN])
   clear HN
   by_cases h4 : k < 4
   ·have k1 : (k : Int) < 4 := by omega
    have k2 : ¬ (i : Int) < (tx.size : Int) := by omega
    go_wp2_with fail
    go_quiet (fail)
    have HRa : Hid (Rd (wr.drewN nq) rd tx i bad) := HRd
    have HMa : Hid (Mod (fun k => k = rd) w (wr.drewN nq)) := zB ((zA HMd).trans (Mod.drewN (P := fun _ => False) wr nq) (fun _ _ h => h.elim))
    clear HRd HMd z0 z1 z2 f1 f2
    generalize wr.drewN nq = wa at *
    obtain ⟨z0, z1, z2, f1, f2⟩ := (zA HRa).cells
    have HR2 := zB ((zA HRa).wrong true)
    have HM2 := zB (only_set (o := 2) (v := .bool true) (zA HMa))
    go_wp2_with fail
    go_ret
    rw [zA HRE]
    exact ⟨by simp, by simpa using zA HR2, zA HM2⟩
   ·obtain rfl : k = 4 := by omega
    go_wp2_with fail
    go_quiet (fail)
    have HRa : Hid (Rd (wr.drewN nq) rd tx i bad) := HRd
    have HMa : Hid (Mod (fun k => k = rd) w (wr.drewN nq)) := zB ((zA HMd).trans (Mod.drewN (P := fun _ => False) wr nq) (fun _ _ h => h.elim))
    clear HRd HMd z0 z1 z2 f1 f2
    generalize wr.drewN nq = wa at *
    obtain ⟨z0, z1, z2, f1, f2⟩ := (zA HRa).cells
    have HR2 := zB ((zA HRa).wrong true)
    have HM2 := zB (only_set (o := 2) (v := .bool true) (zA HMa))
    go_wp2_with fail
    go_ret
    rw [zA HRE]
    exact ⟨by simp, by simpa using zA HR2, zA HM2⟩
end Go.Proofs.YtfpohfifdfbpkaaGreatDoor
namespace Go.Proofs.YtfpohfifdfbpkaaGreatDoor
open Go.RowKit Scour Go.Lib
theorem drop_cons {s : Str} {i : Nat} {c : UInt8} {t : Str} (h : s.drop i = c :: t) : i < s.length /\ s.getD i 0 = c /\ s.drop (i + 1) = t := by
 have hl : i < s.length := by
  rcases Nat.lt_or_ge i s.length with h1 | h1
  ·exact h1
  ·rw [List.drop_eq_nil_of_le h1] at h; cases h
 rw [List.drop_eq_getElem_cons hl] at h
 obtain ⟨h1, h2⟩ := List.cons.inj h
 exact ⟨hl, by rw [← h1]; simp [List.getD, hl], h2⟩
theorem rdN_num (s : Str) (most : Int) : ∀ (k x i n p : Nat) (r : Str), x < 128 ^ (k + 1) -> s.drop i = zN x ++ r -> rdN s most (k + 1) i n p = (n + x * p, i + (zN x).length, decide (most < ((n + x * p : Nat) : Int))) /\ s.drop (i + (zN x).length) = r := by
 intro k
 induction k with
 | zero =>
   intro x i n p r hx h
   have hx : x < 128 := by simpa using hx
   rw [yH hx] at h ⊢
   obtain ⟨h1, h2, h3⟩ := drop_cons h
   have e : (UInt8.ofNat x).toNat = x := by rw [UInt8.toNat_ofNat']; omega
   rw [rdN, if_pos h1, h2, e, if_pos hx, Nat.mod_eq_of_lt hx]
   exact ⟨rfl, h3⟩
 | succ k ih =>
   intro x i n p r hx h
   by_cases hx1 : x < 128
   ·rw [yH hx1] at h ⊢
    obtain ⟨h1, h2, h3⟩ := drop_cons h
    have e : (UInt8.ofNat x).toNat = x := by rw [UInt8.toNat_ofNat']; omega
    rw [rdN, if_pos h1, h2, e, if_pos hx1, Nat.mod_eq_of_lt hx1]
    exact ⟨rfl, h3⟩
   ·rw [numS_big hx1] at h ⊢
    obtain ⟨h1, h2, h3⟩ := drop_cons h
    have e : (UInt8.ofNat (x % 128 + 128)).toNat = x % 128 + 128 := by rw [UInt8.toNat_ofNat']; omega
    rw [rdN, if_pos h1, h2, e, if_neg (by omega)]
    obtain ⟨g1, g2⟩ := ih (x / 128) (i + 1) (n + (x % 128 + 128) % 128 * p) (p * 128) r (by rw [Nat.pow_succ] at hx; omega) h3
    have e2 : n + (x % 128 + 128) % 128 * p + x / 128 * (p * 128) = n + x * p := by
     rw [show (x % 128 + 128) % 128 = x % 128 by omega]
     have h1 : x / 128 * (p * 128) = 128 * (x / 128) * p := by rw [Nat.mul_comm p 128, ← Nat.mul_assoc, Nat.mul_comm (x / 128) 128]
     have h2 : x * p = (x % 128 + 128 * (x / 128)) * p := by rw [Nat.mod_add_div]
     rw [h1, h2, Nat.add_mul]; omega
    rw [g1, e2]
    refine ⟨by simp only [List.length_cons]; congr 2; omega, ?_⟩
    rw [← g2]
    simp only [List.length_cons]; congr 1; omega
theorem rdN_bound (s : Str) (most : Int) : ∀ (k i n p : Nat), n < p -> (rdN s most k i n p).1 < p * 128 ^ k /\ (rdN s most k i n p).2.1 <= i + k /\ i <= (rdN s most k i n p).2.1 /\ ((rdN s most k i n p).2.2 = false -> ((rdN s most k i n p).1 : Int) <= most)
 | 0, i, n, p, h => by
   rw [rdN]
   exact ⟨by simp only [Nat.pow_zero, Nat.mul_one]; omega, Nat.le_refl _, Nat.le_refl _, fun h => by cases h⟩
 | k + 1, i, n, p, h => by
   have hb : (s.getD i 0).toNat % 128 * p <= 127 * p := Nat.mul_le_mul_right p (by omega)
   have hp : p * 128 <= p * 128 ^ (k + 1) := Nat.mul_le_mul_left p (by rw [Nat.pow_succ]; have := Nat.pow_pos (n := k) (show 0 < 128 by omega); omega)
   rw [rdN]
   split
   ·split
    ·refine ⟨by simp only []; omega, by simp only []; omega, by simp only []; omega, fun h => ?_⟩
     simp only [decide_eq_false_iff_not] at h ⊢
     omega
    ·obtain ⟨h1, h2, h3, h4⟩ := rdN_bound s most k (i + 1) (n + (s.getD i 0).toNat % 128 * p) (p * 128) (by omega)
     refine ⟨?_, by omega, by omega, h4⟩
     rwa [Nat.mul_assoc, ← Nat.pow_succ'] at h1
   ·exact ⟨by simp only []; omega, by simp only []; omega, Nat.le_refl _, fun h => by cases h⟩
theorem rdNum_ok (rd i0 : Nat) (s : Str) (bad : Bool) (most : Int) (w : World) (hR : Rd w rd ⟨s.toArray⟩ i0 bad) (hs : s.length < 1000000000000) (hi0 : i0 < 1000000000000) :
  Calls Tryz.prog 148 #[.pointer (some ⟨rd, 0, none⟩), .int .i64 most] w fun e w' => ∃ (v j : Nat) (b : Bool), e = .returned (.int .i64 v) /\ v < 268435456 /\ i0 <= j /\ j <= i0 + 4 /\ Hid (Rd w' rd ⟨s.toArray⟩ j (bad || b)) /\ Hid (b = false -> (v : Int) <= most) /\ Hid (∀ x r, x < 268435456 -> s.drop i0 = zN x ++ r -> v = x /\ s.drop j = r /\ b = decide (most < (x : Int))) /\ Hid (Mod (fun k => k = rd) w w') := by
 refine (rdNumber_any rd i0 s bad most w hR hs hi0).mono ?_
 rintro e w' ⟨rfl, h1, h2⟩
 obtain ⟨b1, b2, b3, b4⟩ := rdN_bound s most 4 i0 0 1 (by omega)
 refine ⟨_, _, _, rfl, by simpa using b1, b3, b2, zB h1, zB b4, zB fun x r hx hd => ?_, zB h2⟩
 obtain ⟨g1, g2⟩ := rdN_num s most 3 x i0 0 1 r (by simpa using hx) hd
 rw [g1]
 refine ⟨by simp, g2, by simp⟩
structure PatRes (w w' : World) (s : Str) (v : Value) (l : List Str) (ok : Bool) : Prop where
 row : w'.ownsRow w.heap.size 9 1 v l.length (l.map yC)
 len : l.length <= 64
 each : ∀ i, i < l.length -> (pat l i).length <= 1000
 good : ∀ ps S, ym ps S -> s = zS ps S -> ok = true /\ l = ps
 bel : Below w.heap.size w w'
theorem PatRes.none {w w' : World} {s : Str} (hb : Below w.heap.size w w') (h : ∀ ps S, ym ps S -> s = zS ps S -> False) : PatRes w w' s (.slice none 0 0) [] false :=
 ⟨World.ownsRow_nil _ _ _ _, by simp, fun i hi => by simp at hi, fun ps S g e => (h ps S g e).elim, hb⟩
structure PaSt (w wr : World) (s : Str) (I : Nat) (b : Bool) (g cap : Nat) (A : List Str) : Prop where
 rdr : Rd wr w.heap.size ⟨s.toArray⟩ I b
 row : wr.ownsRow (w.heap.size + 1) 9 1 (.slice (some ⟨g, 0, none⟩) A.length cap) A.length (A.map yC)
 bel : Below w.heap.size w wr
theorem PaSt.num {w wr w2 : World} {s : Str} {I J : Nat} {b b2 : Bool} {g cap : Nat} {A : List Str} (h : PaSt w wr s I b g cap A) (hR : Rd w2 w.heap.size ⟨s.toArray⟩ J b2) (hm : Mod (fun k => k = w.heap.size) wr w2) : PaSt w w2 s J b2 g cap A :=
 ⟨hR, zE h.row (fun k hk hv => hm.out k hk (fun e2 => by
  have h1 := yQ h.row
  have e : g = k := by simpa [Value.ownBlock] using hv
  omega)), h.bel.trans (hm.below h.bel.size (fun k e => by omega))⟩
theorem PaSt.drewN {w wr : World} {s : Str} {I : Nat} {b : Bool} {g cap : Nat} {A : List Str} (h : PaSt w wr s I b g cap A) (n : Nat) : PaSt w (wr.drewN n) s I b g cap A := h.num h.rdr (Mod.drewN wr n)
theorem PaSt.alloc {w wr : World} {s : Str} {I : Nat} {b : Bool} {g cap : Nat} {A : List Str} (h : PaSt w wr s I b g cap A) (o : Obj) : PaSt w (wr.alloc o).drew s I b g cap A := by
 have hl := (Array.getElem?_eq_some_iff.1 h.rdr).1
 exact ⟨(heap_alloc_old wr o hl).trans h.rdr, h.row.alloc _, (h.bel.alloc h.bel.size o).trans (below_drewN (Below.refl _ _) 1)⟩
theorem PaSt.cell {w wr : World} {s : Str} {I : Nat} {b : Bool} {g cap : Nat} {A : List Str} (h : PaSt w wr s I b g cap A) {p : Nat} (hp : p < A.length) : wr.cell? ⟨g, p, none⟩ = some (.string ⟨(at' A p).toArray⟩) := cellT h.row rfl p hp
theorem PaSt.more {w wr w2 : World} {s : Str} {I : Nat} {b : Bool} {g cap g2 cap2 : Nat} {A : List Str} {x : Str} (h : PaSt w wr s I b g cap A) (hO : w2.ownsRow (w.heap.size + 1) 9 1 (.slice (some ⟨g2, 0, none⟩) (A.length + 1) cap2) (A.length + 1) (A.map yC ++ [yC x])) (hg : wr.grownBy w2 (some g)) : PaSt w w2 s I b g2 cap2 (A ++ [x]) := by
 have hge := yQ h.row
 have hlt := (Array.getElem?_eq_some_iff.1 h.rdr).1
 refine ⟨(hg.block _ hlt (by simp; omega)).trans h.rdr, ?_, h.bel.trans (zG hg h.bel.size (fun k e => by cases e; omega))⟩
 simpa using hO
theorem PaSt.allocP {w wr : World} {s : Str} {I : Nat} {b : Bool} {g cap : Nat} {A : List Str} (h : PaSt w wr s I b g cap A) (o : Obj) : PaSt w (wr.alloc o) s I b g cap A := by
 have hl := (Array.getElem?_eq_some_iff.1 h.rdr).1
 exact ⟨(heap_alloc_old wr o hl).trans h.rdr, h.row.alloc _, h.bel.alloc h.bel.size o⟩
theorem PaSt.grown {w wr w2 : World} {s : Str} {I : Nat} {b : Bool} {g cap : Nat} {A : List Str} {r : Option Nat} (h : PaSt w wr s I b g cap A) (hg : wr.grownBy w2 r) (hr : r ≠ some g) (hl : ∀ k, r = some k -> w.heap.size + 1 <= k) : PaSt w w2 s I b g cap A := by
 have hlt := (Array.getElem?_eq_some_iff.1 h.rdr).1
 refine ⟨(hg.block _ hlt (fun e => by have := hl _ e.symm; omega)).trans h.rdr, ?_, h.bel.trans (zG hg h.bel.size (fun k e => by have := hl k e; omega))⟩
 exact zE h.row (fun k hk hv => hg.block k hk (fun e => hr (by rw [← e, ← hv]; rfl)))
end Go.Proofs.YtfpohfifdfbpkaaGreatDoor
namespace Go.Proofs.YtfpohfifdfbpkaaGreatDoor
open Go.RowKit Scour Go.Lib
def AtG (s : Str) (F : List Str -> List Str -> Prop) : Prop := ∀ ps S, ym ps S -> s = zS ps S -> F ps S
theorem file_front {s : Str} : AtG s (fun ps S => s.drop 4 = zN (zL ps).length ++ (zL ps ++ (zN S.length ++ (stT ps S 1 ++ yK (yS ps S))))) := by
 intro ps S g e
 subst e
 unfold zS
 rw [body_read g.len.1]
 simp
theorem drop_app {s a b : Str} {i : Nat} (h : s.drop i = a ++ b) : s.drop (i + a.length) = b := by
 rw [← List.drop_drop, h, List.drop_left]
theorem PaSt.start {w w2 : World} {s : Str} {I : Nat} {b : Bool} (hR : Rd w2 w.heap.size ⟨s.toArray⟩ I b) (hb : Below w.heap.size w w2) : PaSt w (w2.alloc (.cells #[.string ⟨#[]⟩] 9)) s I b w2.heap.size 1 [[]] := by
 have hl := (Array.getElem?_eq_some_iff.1 hR).1
 refine ⟨(heap_alloc_old w2 _ hl).trans hR, ?_, hb.alloc hb.size _⟩
 refine ⟨by simp, Or.inr ⟨w2.heap.size, 1, _, rfl, by omega, heap_alloc_new w2 _, by simp, by decide, by simp, ?_⟩⟩
 simp [yC]
def LaS (w wr : World) (s : Str) (k i I g cap : Nat) (A : List Str) : Prop := ∃ b, PaSt w wr s I b g cap A /\ AtG s (fun ps S => b = false /\ k = S.length /\ i <= S.length /\ A = S.take i /\ s.drop I = stT ps S i ++ yK (yS ps S))
def LbS (w wr : World) (s : Str) (n q J g cap : Nat) (A : List Str) (vl : Value) (l : List Str) : Prop := ∃ b, PaSt w wr s J b g cap A /\ wr.ownsRow (w.heap.size + 1) 9 1 vl q (l.map yC) /\ vl.ownBlock ≠ some g /\ (b = false -> n <= 64) /\ AtG s (fun ps S => b = false /\ n = ps.length /\ q <= ps.length /\ A = S /\ l = ps.take q /\ s.drop J = patT ps S q ++ yK (yS ps S))
theorem owns_low {w : World} {base base' e sz n : Nat} {v : Value} {xs : List Value} (h : w.ownsRow base e sz v n xs) (hb : base' <= base) : w.ownsRow base' e sz v n xs := by
 refine ⟨h.1, ?_⟩
 rcases h.2 with h | ⟨g, cap, cur, h1, h2, h3⟩
 ·exact Or.inl h
 ·exact Or.inr ⟨g, cap, cur, h1, Nat.le_trans hb h2, h3⟩
theorem LbS.res {w wr : World} {s : Str} {n q J g cap : Nat} {A : List Str} {vl : Value} {l : List Str} {b : Bool} (hP : PaSt w wr s J b g cap A) (hO : wr.ownsRow (w.heap.size + 1) 9 1 vl q (l.map yC)) (hl : l.length = q) (hq : q <= 64) (hE : ∀ i, i < q -> (pat l i).length <= 1000) (hG : AtG s (fun ps _ => b = false /\ n = ps.length /\ q <= ps.length /\ l = ps.take q)) (hx : b = false -> n <= q) (m : Nat) : PatRes w (wr.drewN m) s vl l (!b) := by
 have hP2 := hP.drewN m
 subst hl
 refine ⟨owns_low (zE hO (fun k hk _ => (Mod.drewN (P := fun _ => False) wr m).out k hk (fun h => h))) (Nat.le_succ _), hq, hE, fun ps S g e => ?_, hP2.bel⟩
 obtain ⟨h1, h2, h3, h4⟩ := hG ps S g e
 subst h1
 refine ⟨rfl, ?_⟩
 have := hx rfl
 rw [h4, List.take_of_length_le (by omega)]
def RpPost (w : World) (s : Str) (e : Ending) (w' : World) : Prop := ∃ (v : Value) (l : List Str) (ok : Bool), e = .returned (.tuple #[v, .bool ok]) /\ PatRes w w' s v l ok
set_option maxHeartbeats 16000000 in
set_option maxRecDepth 100000 in
theorem rpatterns_any (s : Str) (w : World) (hs : s.length < 1000000000) :
  Calls Tryz.prog 125 #[.string ⟨s.toArray⟩] w (RpPost w s) := by
 obtain ⟨i0, hi, hz0, hz1, hz2⟩ := info_parts Tryz.infoT
 have HNU : Hid (∀ (W : World) (i : Nat) (b : Bool) (most : Int), Rd W w.heap.size ⟨s.toArray⟩ i b -> i < 1000000000000 -> Calls Tryz.prog 148 #[.pointer (some ⟨w.heap.size, 0, none⟩), .int .i64 most] W fun e w' => ∃ (v j : Nat) (c : Bool), e = .returned (.int .i64 v) /\ v < 268435456 /\ i <= j /\ j <= i + 4 /\ Hid (Rd w' w.heap.size ⟨s.toArray⟩ j (b || c)) /\ Hid (c = false -> (v : Int) <= most) /\ Hid (∀ x r, x < 268435456 -> s.drop i = zN x ++ r -> v = x /\ s.drop j = r /\ c = decide (most < (x : Int))) /\ Hid (Mod (fun k => k = w.heap.size) W w')) := zB fun W i b most h1 h2 => rdNum_ok w.heap.size i s b most W h1 (by omega) h2
 have HF := zB (file_front (s := s))
 obtain ⟨tx, htx⟩ : ∃ tx, tx = (⟨s.toArray⟩ : ByteArray) := ⟨_, rfl⟩
 have hsz : tx.size = s.length := by rw [htx]; simp [ByteArray.size]
 have HX := zB htx
 have HSZ := zB hsz
 have hts : tx.size < 1000000000 := by omega
 rw [← htx] at HNU ⊢
 clear htx hsz
 have HR0 : Hid (Rd (w.alloc (.cells #[.string tx, .int .i64 4, .bool false] 252)) w.heap.size tx 4 false) := zB (heap_alloc_new w _)
 have HB0 : Hid (Below w.heap.size w (w.alloc (.cells #[.string tx, .int .i64 4, .bool false] 252))) := zB ((Below.refl _ _).alloc (Nat.le_refl _) _)
 go_enter Tryz.func125, Tryz.ntmps125
 go_wp2_with ((go_at_call 148; refine (zA HNU _ _ _ _ (zA HR0) (by omega)).mono ?_; rintro e w1 ⟨n1, j1, c1, rfl, hn1, hj1, hj1', HR1, HM1, HG1, HO1⟩; have HB1 := zB ((zA HB0).trans ((zA HO1).below (by simp) (fun k e => by omega))); obtain ⟨z0, z1, z2, z3, z4⟩ := (zA HR1).cells; have HR1' : Hid (Rd (w1.setCell ⟨w.heap.size, 1, none⟩ (.int .i64 ((j1 : Int) + (n1 : Int)))) w.heap.size tx (j1 + n1) (false || c1)) := zB (by have := (zA HR1).move (j1 + n1); rw [Int.natCast_add] at this; exact this); have HB1' := zB ((zA HB1).trans ((Mod.setCell w1 w.heap.size 1 (.int .i64 ((j1 : Int) + (n1 : Int)))).below (zA HB1).size (fun k e => by omega))); clear HR0 HO1))
 refine (zA HNU _ _ _ _ (zA HR1') (by omega)).mono ?_
 rintro e w2 ⟨k, j2, c2, rfl, hk, hj2, hj2', HR2, HM2, HG2, HO2⟩
 have HB2 := zB ((zA HB1').trans ((zA HO2).below (zA HB1').size (fun k e => by omega)))
 obtain ⟨b, hb⟩ : ∃ b, b = (false || c1 || c2) := ⟨_, rfl⟩
 rw [← hb] at HR2
 have HBB := zB hb
 obtain ⟨y0, y1, y2, y3, y4⟩ := (zA HR2).cells
 clear HR1' HO2 hb
 have HG : Hid (AtG s (fun ps S => b = false /\ k = S.length /\ s.drop j2 = stT ps S 1 ++ yK (yS ps S))) := zB (by
  intro ps S g e
  have hf := zA HF ps S g e
  have hg := g.small
  have hl := g.len
  obtain ⟨e1, e2, e3⟩ := zA HG1 _ _ (by omega) hf
  have e4 := drop_app e2
  rw [e1] at HG2
  obtain ⟨e5, e6, e7⟩ := zA HG2 _ _ (by omega) e4
  refine ⟨?_, e5, e6⟩
  rw [zA HBB, e3, e7]
  simp; omega)
 have HKB : Hid (b = false -> k <= 513) := zB (fun e => by
  rw [zA HBB] at e
  have : c2 = false := by cases c1 <;> cases c2 <;> simp_all
  have := zA HM2 this
  omega)
 clear HG1 HG2 HM1 HM2 HBB HF
 cases b with
 | true =>
   go_wp2_with fail
   go_ret2
   exact ⟨_, [], false, rfl, PatRes.none (zA HB2) (fun ps S g e => by have := (zA HG ps S g e).1; cases this)⟩
 | false =>
   have hk513 := zA HKB rfl
   have HP0 := zB (PaSt.start (by rw [← zA HX]; exact zA HR2) (zA HB2))
   go_wp2_with fail
   go_loopw [7, 8] (fun v7 v8 wr => ∃ (i g cap I : Nat) (A : List Str), v8 = .int .i64 i /\ v7 = .slice (some ⟨g, 0, none⟩) i cap /\ 1 <= i /\ i <= 513 /\ A.length = i /\ I <= 268435500 + 9 * i /\ Hid (∀ p, p < i -> (at' A p).length <= p) /\ Hid (LaS w wr s k i I g cap A)) (fun _ v8 _ => 600 - (intOf v8).toNat)
   case atStart =>
    refine ⟨1, w2.heap.size, 1, j2, [[]], rfl, rfl, by omega, by omega, rfl, by omega, zB (fun p hp => ?_), zB ⟨false, zA HP0, fun ps S g e => ?_⟩⟩
    ·obtain rfl : p = 0 := by omega
     simp [at']
    ·obtain ⟨_, e2, e3⟩ := zA HG ps S g e
     have h1 := g.len
     refine ⟨rfl, e2, by omega, ?_, e3⟩
     have h2 := take_more (S := S) (i := 0) (by omega)
     rw [h2, g.head]
     rfl
   case round =>
    clear HP0 HG HKB HB2 HR2 y0 y1 y2 y3 y4
    obtain ⟨i, g, cap, I, A, rfl, rfl, hi1, hi2, hA, hI, HAL, HL⟩ := hrel
    obtain ⟨b, hP, hG⟩ := zA HL
    have hR := hP.rdr
    rw [← zA HX] at hR
    obtain ⟨z0, z1, z2, z3, z4⟩ := hR.cells
    have HP := zB hP
    have HG := zB hG
    have HR := zB hR
    clear hP hG hR HL
    by_cases hik : i < k
    ·have i1 : (i : Int) < (k : Int) := by omega
     cases b with
     | false =>
       go_wp2_with fail
       refine (zA HNU _ _ _ _ (zA HR) (by omega)).mono ?_
       rintro e w3 ⟨p, j, c, rfl, hp, hj, hj', HR2, HM2, HG2, HO2⟩
       rw [Bool.false_or] at HR2
       have HP2 := zB ((zA HP).num (by rw [← zA HX]; exact zA HR2) (zA HO2))
       have HG3 : Hid (AtG s (fun ps S => c = false /\ k = S.length /\ A = S.take i /\ ∃ u f, p < i /\ at' S i = at' S p ++ [u] /\ f < 513 /\ s.drop j = u :: (zN f ++ (stT ps S (i + 1) ++ yK (yS ps S))))) := zB (by
        intro ps S g e
        obtain ⟨_, h2, h3, h4, h5⟩ := zA HG ps S g e
        obtain ⟨p', u, f, q1, q2, q3, q4⟩ := g.state hi1 (by omega)
        have hl := g.len
        rw [q4, List.append_assoc] at h5
        obtain ⟨g1, g2, g3⟩ := zA HG2 _ _ (by omega) h5
        subst g1
        exact ⟨by rw [g3]; simp; omega, h2, h4, u, f, q1, q3, by omega, by rw [g2]; simp⟩)
       obtain ⟨y0, y1, y2, y3, y4⟩ := (zA HR2).cells
       clear HG HG2 HR HP z0 z1 z2 z3 z4
       cases c with
       | true =>
         go_wp2_with fail
         go_ret2
         exact ⟨_, [], false, rfl, PatRes.none (zA HP2).bel (fun ps S g e => by have := (zA HG3 ps S g e).1; cases this)⟩
       | false =>
         have hpi : p < i := by have := zA HM2 rfl; omega
         by_cases hjs : j < tx.size
         ·have js : (j : Int) < (tx.size : Int) := by omega
          have hlt3 : w.heap.size < w3.heap.size := (Array.getElem?_eq_some_iff.1 (zA HR2)).1
          have hcel := (zA HP2).cell (p := p) (by omega)
          have hpl := zA HAL p hpi
          obtain ⟨tp, htp⟩ : ∃ tp, tp = (⟨(at' A p).toArray⟩ : ByteArray) := ⟨_, rfl⟩
          have htz : tp.size <= 513 := by rw [htp]; simp [ByteArray.size]; omega
          rw [← htp] at hcel
          have HTP := zB htp
          have hex : (tx.extract j (j + 1)).size = 1 := by rw [ByteArray.size_extract]; omega
          have HEX : Hid (tp ++ tx.extract j (j + 1) = ⟨(at' A p ++ [s.getD j 0]).toArray⟩) := zB (by
           rw [htp, zA HX]
           apply ByteArray.ext
           have hj : j < s.length := by have := zA HSZ; omega
           simp [ByteArray.data_extract, List.getD, hj]
           rw [List.take_add_one]
           simp [hj])
          obtain ⟨ty, hty⟩ : ∃ ty, ty = tx.extract j (j + 1) := ⟨_, rfl⟩
          rw [← hty] at hex HEX
          have HTY := zB hty.symm
          have c1 : ¬ 9223372036854775807 < tp.size + 1 := by omega
          have hwj : IntKind.i64.wrap ((j : Int) + 1) = (j : Int) + 1 := by rw [IntKind.wrap_i64]; omega
          have hjn : ((j : Int) + 1).toNat = j + 1 := by omega
          have hty2 := zA HTY
          have j0 : (0 : Int) <= (j : Int) := by omega
          have j1' : (j : Int) <= (j : Int) + 1 := by omega
          have j2' : (j : Int) + 1 <= (tx.size : Int) := by omega
          have HOWN : Hid ((w3.alloc (.cells #[.string (tp ++ ty)] 9)).drew.ownsRow (w.heap.size + 1) 9 1 (.slice (some ⟨g, 0, none⟩) i cap) i (A.map yC)) := zB (by have := (zA HP2).row; rw [hA] at this; exact this.alloc _)
          have HNEW : Hid (∀ j u, [Value.string (tp ++ ty)][j]? = some u -> (w3.alloc (.cells #[.string (tp ++ ty)] 9)).drew.cell? ((⟨w3.heap.size, 0, none⟩ : Addr).add j) = some u) := zB (World.news_of_block (heap_alloc_new w3 _))
          have HPM : Hid (∀ w4 g' cap', w4.ownsRow (w.heap.size + 1) 9 1 (.slice (some ⟨g', 0, none⟩) (i + 1) cap') (i + 1) (A.map yC ++ [.string (tp ++ ty)]) -> (w3.alloc (.cells #[.string (tp ++ ty)] 9)).drew.grownBy w4 (some g) -> PaSt w w4 s j false g' cap' (A ++ [at' A p ++ [s.getD j 0]])) := zB (by
           intro w4 g' cap' h1 h2
           rw [zA HEX, ← hA] at h1
           exact ((zA HP2).alloc _).more h1 h2)
          clear hty htp
          go_wp2_with fail
          go_region_law (refine step_append_lies _ rfl (.tmp 63) (.tmp 80) 26 rfl (w.heap.size + 1) 9 i0 _ 1 16 Tryz.underlying26 hi hz0 hz1 hz2 rfl (by decide) _ i (A.map yC) (by simp [Act.eval]) (zA HOWN) ⟨w3.heap.size, 0, none⟩ 1 1 [.string (tp ++ ty)] (by simp [Act.eval]) rfl (zA HNEW) (by intro u hu; simp at hu; subst hu; rfl) (by omega) (by unfold maxLen; omega) (by omega) (by simp; omega) _ rfl ?_; intro g' cap' w4 hown' hgrow hat hlt'; have HP4 := zB (zA HPM w4 g' cap' hown' hgrow); have hR4 := (zA HP4).rdr; rw [← zA HX] at hR4; obtain ⟨x0, x1, x2, x3, x4⟩ := hR4.cells; have HR5 : Hid (Rd (w4.setCell ⟨w.heap.size, 1, none⟩ (.int .i64 ((j : Int) + 1))) w.heap.size tx (j + 1) false) := zB (hR4.move (j + 1)); clear hown' hgrow hat hlt' hR4)
          all_goals go_wp2_with fail
          all_goals refine (zA HNU _ _ _ _ (zA HR5) (by omega)).mono ?_
          all_goals rintro e w5 ⟨f, jf, c, rfl, hf, hjf, hjf', HR6, HM6, HG6, HO6⟩
          all_goals rw [Bool.false_or] at HR6
          all_goals go_wp2_with fail
          all_goals go_roundw
          all_goals try case measure => simp [intOf]; omega
          all_goals
           case rel =>
            refine ⟨i + 1, g', cap', jf, A ++ [at' A p ++ [s.getD j 0]], by go_num, rfl, by omega, by omega, by simp; omega, by omega, zB (fun q hq => ?_), zB ⟨c, ?_, fun ps S gd e => ?_⟩⟩
            ·by_cases hqi : q < i
             ·have : at' (A ++ [at' A p ++ [s.getD j 0]]) q = at' A q := by simp [at', List.getD, List.getElem?_append_left (show q < A.length by omega)]
              rw [this]; exact zA HAL q hqi
             ·obtain rfl : q = i := by omega
              have : at' (A ++ [at' A p ++ [s.getD j 0]]) q = at' A p ++ [s.getD j 0] := by simp [at', List.getD, ← hA]
              rw [this]; simp; omega
            ·have h5 := (zA HP4).num (J := j + 1) (b2 := false) (by rw [← zA HX]; exact zA HR5) (Mod.setCell _ _ _ _)
             exact h5.num (by rw [← zA HX]; exact zA HR6) (zA HO6)
            ·obtain ⟨_, h2, h3, u, f', h4, h5, h6, h7⟩ := zA HG3 ps S gd e
             obtain ⟨d1, d2, d3⟩ := drop_cons h7
             obtain ⟨g1, g2, g3⟩ := zA HG6 _ _ (by omega) d3
             refine ⟨by rw [g3]; simp; omega, h2, by omega, ?_, g2⟩
             rw [take_more (by omega), h5, d2, ← h3, ← at_take (S := S) h4, ← h3]
         ·have js : ¬ (j : Int) < (tx.size : Int) := by omega
          go_wp2_with fail
          go_ret2
          exact ⟨_, [], false, rfl, PatRes.none (zA HP2).bel (fun ps S g e => by
           obtain ⟨_, _, _, u, f, _, _, _, h5⟩ := zA HG3 ps S g e
           have := (drop_cons h5).1
           have := zA HSZ
           omega)⟩
     | true =>
       go_wp2_with fail
       refine (zA HNU _ _ _ _ (zA HR) (by omega)).mono ?_
       rintro e w3 ⟨n, j, c, rfl, hn, hj, hj', HR2, HM2, HG2, HO2⟩
       rw [Bool.true_or] at HR2
       have HP2 := zB ((zA HP).num (by rw [← zA HX]; exact zA HR2) (zA HO2))
       obtain ⟨y0, y1, y2, y3, y4⟩ := (zA HR2).cells
       clear HG2 HM2 HR z0 z1 z2 z3 z4
       go_wp2_with fail
       go_loopw [10, 11] (fun v10 v11 wq => v10 = .slice none 0 0 /\ v11 = .int .i64 0 /\ wq = w3) (fun _ _ _ => 0)
       case atStart => exact ⟨rfl, rfl, rfl⟩
       case round =>
        obtain ⟨rfl, rfl, rfl⟩ := hrel
        by_cases h0 : 0 < n
        ·have n1' : (0 : Int) < (n : Int) := by omega
         go_wp2_with fail
         go_quiet (fail)
         go_wp2_with fail
         go_ret2
         exact ⟨_, [], false, rfl, PatRes.none ((zA HP2).drewN _).bel (fun ps S g e => by have := (zA HG ps S g e).1; cases this)⟩
        ·have n1' : ¬ (0 : Int) < (n : Int) := by omega
         go_wp2_with fail
         go_quiet (fail)
         go_wp2_with fail
         go_ret2
         exact ⟨_, [], false, rfl, PatRes.none ((zA HP2).drewN _).bel (fun ps S g e => by have := (zA HG ps S g e).1; cases this)⟩
    ·have i1 : ¬ (i : Int) < (k : Int) := by omega
     go_wp2_with fail
     refine (zA HNU _ _ _ _ (zA HR) (by omega)).mono ?_
     rintro e w3 ⟨n, j, c, rfl, hn, hj, hj', HR2, HM2, HG2, HO2⟩
     obtain ⟨b2, hb2⟩ : ∃ b2, b2 = (b || c) := ⟨_, rfl⟩
     rw [← hb2] at HR2
     have HP2 := zB ((zA HP).num (by rw [← zA HX]; exact zA HR2) (zA HO2))
     have HLB : Hid (LbS w w3 s n 0 j g cap A (.slice none 0 0) []) := zB ⟨b2, zA HP2, World.ownsRow_nil _ _ _ _, (by simp [Value.ownBlock]), (fun e => by
      have hc : c = false := by cases b <;> cases c <;> simp_all
      have := zA HM2 hc
      omega), fun ps S gd e => by
      obtain ⟨h1, h2, h3, h4, h5⟩ := zA HG ps S gd e
      obtain rfl : i = S.length := by omega
      rw [stT_end, List.append_assoc] at h5
      have hsm := gd.small
      obtain ⟨g1, g2, g3⟩ := zA HG2 _ _ (by omega) h5
      refine ⟨by rw [hb2, h1, g3]; simp; omega, g1, by omega, by rw [h4, List.take_length], rfl, g2⟩⟩
     clear HG2 HM2 HR z0 z1 z2 z3 z4 HG HP HP2 HR2 hb2
     go_wp2_with fail
     go_loopw [10, 11] (fun v10 v11 wq => ∃ (q J : Nat) (vl : Value) (l : List Str), v11 = .int .i64 q /\ v10 = vl /\ q <= 64 /\ l.length = q /\ J <= 268445500 + 4 * q /\ Hid (∀ i, i < q -> (pat l i).length <= 1000) /\ Hid (LbS w wq s n q J g cap A vl l)) (fun _ v11 _ => 600 - (intOf v11).toNat)
     case atStart => exact ⟨0, j, _, [], rfl, rfl, by omega, rfl, by omega, zB (fun i h => by omega), HLB⟩
     case round =>
      obtain ⟨q, J, vl, l, rfl, rfl, hq, hl, hJ, HE, HL⟩ := hrel
      obtain ⟨b3, hP, hO, hne, h64, hG⟩ := zA HL
      have hR := hP.rdr
      rw [← zA HX] at hR
      obtain ⟨z0, z1, z2, z3, z4⟩ := hR.cells
      have HP := zB hP
      have HG := zB hG
      have HR := zB hR
      have HOL := zB hO
      have HNE := zB hne
      have H64 := zB h64
      clear hP hG hR HL HLB hO hne h64
      by_cases hqn : q < n
      ·have q1 : (q : Int) < (n : Int) := by omega
       cases b3 with
       | false =>
         go_wp2_with fail
         refine (zA HNU _ _ _ _ (zA HR) (by omega)).mono ?_
         rintro e w4 ⟨p, jp, c, rfl, hp, hjp, hjp', HR4, HM4, HG4, HO4⟩
         rw [Bool.false_or] at HR4
         have HP4 := zB ((zA HP).num (by rw [← zA HX]; exact zA HR4) (zA HO4))
         have hn64 : n <= 64 := by simpa using zA H64
         have HOL4 : Hid (w4.ownsRow (w.heap.size + 1) 9 1 u10 q (l.map yC)) := zB (zE (zA HOL) (fun k hk hv => (zA HO4).out k hk (fun e2 => by
          have := yN (zA HOL) k hv
          omega)))
         have HG5 : Hid (AtG s (fun ps S => c = false /\ n = ps.length /\ q < ps.length /\ A = S /\ l = ps.take q /\ at' S p = pat ps q /\ s.drop jp = patT ps S (q + 1) ++ yK (yS ps S))) := zB (by
          intro ps S gd e
          obtain ⟨h1, h2, h3, h4, h5, h6⟩ := zA HG ps S gd e
          obtain ⟨p', q2, q3, q4⟩ := gd.pat (k := q) (by omega)
          have hlS := gd.len
          rw [q4, List.append_assoc] at h6
          obtain ⟨g1, g2, g3⟩ := zA HG4 _ _ (by omega) h6
          subst g1
          subst h4
          exact ⟨by rw [g3]; simp; omega, h2, by omega, rfl, h5, q3, g2⟩)
         obtain ⟨y0, y1, y2, y3, y4⟩ := (zA HR4).cells
         clear HG HG4 HR HP z0 z1 z2 z3 z4 HOL
         cases c with
         | true =>
           go_wp2_with fail
           go_ret2
           exact ⟨_, [], false, rfl, PatRes.none (zA HP4).bel (fun ps S gd e => by have := (zA HG5 ps S gd e).1; cases this)⟩
         | false =>
           have hpi : p < i := by have := zA HM4 rfl; omega
           have hcel := (zA HP4).cell (p := p) (by omega)
           have hpl := zA HAL p hpi
           have hlt4 : w.heap.size < w4.heap.size := (Array.getElem?_eq_some_iff.1 (zA HR4)).1
           have hgl : g < w4.heap.size := by
            obtain ⟨cu, hcu⟩ := zK (zA HP4).row
            exact (Array.getElem?_eq_some_iff.1 hcu).1
           have HOWN : Hid ((w4.alloc (.cells #[.string ⟨(at' A p).toArray⟩] 9)).ownsRow (w.heap.size + 1) 9 1 u10 q (l.map yC)) := zB ((zA HOL4).alloc _)
           have HNEW : Hid (∀ j u, [Value.string ⟨(at' A p).toArray⟩][j]? = some u -> (w4.alloc (.cells #[.string ⟨(at' A p).toArray⟩] 9)).cell? ((⟨w4.heap.size, 0, none⟩ : Addr).add j) = some u) := zB (World.news_of_block (heap_alloc_new w4 _))
           have HPM : Hid (∀ w5 g' cap', w5.ownsRow (w.heap.size + 1) 9 1 (.slice (some ⟨g', 0, none⟩) (q + 1) cap') (q + 1) (l.map yC ++ [.string ⟨(at' A p).toArray⟩]) -> (w4.alloc (.cells #[.string ⟨(at' A p).toArray⟩] 9)).grownBy w5 u10.ownBlock -> (u10.ownBlock = some g' \/ g' = w4.heap.size + 1) -> LbS w w5 s n (q + 1) jp g cap A (.slice (some ⟨g', 0, none⟩) (q + 1) cap') (l ++ [at' A p])) := zB (by
            intro w5 g' cap' h1 h2 h3
            refine ⟨false, ((zA HP4).allocP _).grown h2 (zA HNE) (yN (zA HOL4)), by rw [List.map_append]; exact h1, ?_, fun _ => hn64, fun ps S gd e => ?_⟩
            ·simp only [Value.ownBlock]
             rcases h3 with h3 | h3
             ·rw [← h3]; exact zA HNE
             ·simp; omega
            ·obtain ⟨_, k2, k3, k4, k5, k6, k7⟩ := zA HG5 ps S gd e
             refine ⟨rfl, k2, by omega, k4, ?_, k7⟩
             subst k4
             rw [List.take_add_one, ← k5, k6]
             simp [pat, List.getD, k3])
           obtain ⟨tp, htp⟩ : ∃ tp, tp = (⟨(at' A p).toArray⟩ : ByteArray) := ⟨_, rfl⟩
           rw [← htp] at hcel HOWN HNEW HPM
           clear htp
           go_wp2_with (at_builtin; go_loud (refine wpList_append_lies _ rfl (.tmp 114) (.tmp 119) 26 rfl (w.heap.size + 1) 9 i0 _ 1 16 Tryz.underlying26 hi hz0 hz1 hz2 rfl (by decide) _ q (l.map yC) rfl (zA HOWN) ⟨w4.heap.size, 0, none⟩ 1 1 [.string tp] rfl rfl (zA HNEW) (by intro u hu; simp at hu; subst hu; rfl) (by omega) (by unfold maxLen; omega) (by omega) (by simp; omega) (w4.heap.size + 1) (by simp) ?_); intro g' cap' w5 hown' hgrow hat hlt'; have HL5 := zB (zA HPM w5 g' cap' hown' hgrow hat); clear hown' hgrow hat hlt')
           go_roundw
           case rel =>
            refine ⟨q + 1, jp, _, l ++ [at' A p], by go_num, rfl, by omega, by simp; omega, by omega, zB (fun k hk => ?_), HL5⟩
            by_cases hkq : k < q
            ·rw [yy (by omega)]; exact zA HE k hkq
            ·obtain rfl : k = q := by omega
             rw [← hl, pat_append_new]; omega
           case measure => simp [intOf]; omega
       | true =>
         go_wp2_with fail
         go_quiet (fail)
         go_wp2_with fail
         go_ret2
         exact ⟨_, l, false, rfl, LbS.res (n := n) (zA HP) (zA HOL) hl hq (zA HE) (fun ps S gd e => by have := (zA HG ps S gd e).1; cases this) (fun e => by cases e) _⟩
      ·have q1 : ¬ (q : Int) < (n : Int) := by omega
       go_wp2_with fail
       go_quiet (fail)
       go_wp2_with fail
       go_ret2
       refine ⟨_, l, !b3, ?_, LbS.res (n := n) (zA HP) (zA HOL) hl hq (zA HE) (fun ps S gd e => ?_) (fun _ => by omega) _⟩
       ·rfl
       ·obtain ⟨h1, h2, h3, _, h5, _⟩ := zA HG ps S gd e
        exact ⟨h1, h2, h3, h5⟩
end Go.Proofs.YtfpohfifdfbpkaaGreatDoor
namespace Go.Proofs.YtfpohfifdfbpkaaGreatDoor
open Go.RowKit Scour Go.Lib
theorem RS.good {ps R : List Str} (h : RS ps ps.length 1 R) (hc : (chk ps).1 = 0) : ym ps R := by
 obtain ⟨h64, hlen, _⟩ := yr hc
 have hcl := h.closed
 have hmem : ∀ x, x ∈ R ↔ x = [] \/ ∃ i, i < ps.length /\ 1 <= x.length /\ x.length <= (pat ps i).length /\ x = (pat ps i).take x.length := by
  intro x
  rw [h.mem x]
  constructor
  ·rintro (e | ⟨j, hj, h1, h2, h3⟩)
   ·exact Or.inl e
   ·rcases hj with hj | ⟨_, hj⟩
    ·exact Or.inr ⟨j, hj, h1, h2, h3⟩
    ·omega
  ·rintro (e | ⟨j, hj, h1, h2, h3⟩)
   ·exact Or.inl e
   ·exact Or.inr ⟨j, Or.inl hj, h1, h2, h3⟩
 refine ⟨hc, ⟨fun i => (R.idxOf (at' R i).dropLast : Nat), fun i => (((at' R i).getLastD 0).toNat : Nat), h.pos, h.head, h.sorted, fun i h0 hi => ?_⟩, ⟨fun i => (R.idxOf (pat ps i) : Nat), hmem, fun i hi => ?_, by have := h.len; omega⟩⟩
 ·have hne : at' R i ≠ [] := fun e => by
   have := at_inj h.sorted hi h.pos (e.trans h.head.symm)
   omega
  have hsp := List.dropLast_concat_getLast hne
  have hy : (at' R i).dropLast ∈ R := hcl _ ((at' R i).getLast hne) (by rw [hsp]; exact jO hi)
  have hp := List.idxOf_lt_length_of_mem hy
  refine ⟨_, (at' R i).getLast hne, rfl, ?_, ?_, ?_⟩
  ·refine (at_lt_iff h.sorted hp hi).1 ?_
   rw [jV hy]
   left
   have := congrArg List.length hsp
   simp at this
   have h1 : 0 < (at' R i).length := List.length_pos_iff.2 hne
   simp; omega
  ·rw [List.getLastD_eq_getLast?, List.getLast?_eq_some_getLast hne]
   rfl
  ·rw [jV hy, hsp]
 ·have hm : pat ps i ∈ R := (hmem _).2 (Or.inr ⟨i, hi, (hlen i hi).1, Nat.le_refl _, by rw [List.take_length]⟩)
  exact ⟨_, List.idxOf_lt_length_of_mem hm, rfl, jV hm⟩
def errL (s : Str) : Int := if s.length < 8 then 6 else if s.take 3 ≠ [83, 67, 82] then 7 else if s.getD 3 0 ≠ 1 then 8 else if yK (s.take (s.length - 4)) ≠ s.drop (s.length - 4) then 9 else 10
theorem errL_pos (s : Str) : errL s ≠ 0 := by
 unfold errL
 repeat' split
 all_goals decide
theorem good_head {s : Str} {ps S : List Str} (g : ym ps S) (e : s = zS ps S) : ¬ s.length < 8 /\ s.take 3 = [83, 67, 82] /\ s.getD 3 0 = 1 /\ yK (s.take (s.length - 4)) = s.drop (s.length - 4) := by
 have hb := body_read (ps := ps) g.len.1
 subst e
 have hl : (yK (yS ps S)).length = 4 := sumS_len _
 have hbl : 4 <= (yS ps S).length := by rw [hb]; simp
 refine ⟨?_, ?_, ?_, ?_⟩
 ·unfold zS; rw [List.length_append, hl]; omega
 ·unfold zS; rw [hb]; rfl
 ·unfold zS; rw [hb]; rfl
 ·unfold zS
  rw [List.length_append, hl, show (yS ps S).length + 4 - 4 = (yS ps S).length by omega, List.take_left, List.drop_left]
theorem ym.short {ps S : List Str} (h : ym ps S) {k : Nat} (hk : k < S.length) : (at' S k).length <= 64 := by
 obtain ⟨_, _, ⟨E, hS⟩⟩ := h
 obtain ⟨_, hlen, _⟩ := yr ‹(chk ps).1 = 0›
 exact states_short hS (m := 64) (fun i hi => (hlen i hi).2) _ (jO hk)
theorem ym.mem {ps S : List Str} (h : ym ps S) : ∀ i, i < ps.length -> Go.Proofs.YtfpohfifdfbpkaaGreatDoor.pat ps i ∈ S := fun i hi => by
 obtain ⟨_, _, ⟨E, hS⟩⟩ := h
 obtain ⟨_, hlen, _⟩ := yr ‹(chk ps).1 = 0›
 exact pat_mem hS hi (hlen i hi).1
theorem owns_txt {w : World} {base : Nat} {v : Value} {l : List Str} (h : w.ownsRow base 9 1 v l.length (l.map yC)) : ∃ ap cap, v = .slice ap l.length cap /\ TxtIn w w.heap.size ap l /\ (ap = none -> cap = 0) := by
 rcases zV h with ⟨h1, h2⟩ | ⟨g, cc, h1, _⟩
 ·exact ⟨none, 0, by rw [h1, h2], fun h0 => by omega, fun _ => rfl⟩
 ·subst h1
  refine ⟨_, cc, rfl, fun _ => ⟨g, 0, ?_, rfl, fun i hi => ?_⟩, fun e => by cases e⟩
  ·obtain ⟨cu, hcu⟩ := zK h
   exact (Array.getElem?_eq_some_iff.1 hcu).1
  ·rw [Nat.zero_add, h.cellAt i (by omega)]
   simp [yC, pat, List.getD, hi]
def NoFile (s : Str) : Prop := ∀ ps S, ym ps S -> s ≠ zS ps S
def RlPost (w : World) (s : Str) (e : Ending) (w' : World) : Prop :=
 (∃ br vL gS cS ps S, e = .returned (.tuple #[.pointer (some ⟨br, 0, none⟩), .int .i64 0]) /\ yZ w' br vL gS cS ps S /\ ym ps S /\ s = zS ps S /\ (w.heap.size <= br /\ w.heap.size <= gS /\ ∀ b, vL.ownBlock = some b -> w.heap.size <= b) /\ Below w.heap.size w w')
 \/ (e = .returned (.tuple #[.pointer none, .int .i64 (errL s)]) /\ NoFile s /\ Below w.heap.size w w')
theorem same_str {a b : Str} : ((⟨a.toArray⟩ : ByteArray).toList == (⟨b.toArray⟩ : ByteArray).toList) = decide (a = b) := by
 rw [ByteArray.toList_eq, ByteArray.toList_eq]
 by_cases h : a = b
 ·subst h; simp
 ·simp [h]
set_option maxHeartbeats 8000000 in
set_option maxRecDepth 100000 in
theorem rload_any (s : Str) (w : World) (hs : s.length < 100000000) :
  Calls Tryz.prog 89 #[.string ⟨s.toArray⟩] w (RlPost w s) := by
 obtain ⟨tx, htx⟩ : ∃ tx, tx = (⟨s.toArray⟩ : ByteArray) := ⟨_, rfl⟩
 have hsz : tx.size = s.length := by rw [htx]; simp [ByteArray.size]
 have hts : tx.size < 100000000 := by omega
 have HSZ := zB hsz
 have HX := zB htx
 by_cases h8 : tx.size < 8
 ·have HE : Hid (errL s = 6) := zB (by unfold errL; rw [if_pos (by omega)])
  rw [← htx]
  clear htx hsz
  have i8 : (tx.size : Int) < 8 := by omega
  go_enter Tryz.func89, Tryz.ntmps89
  go_wp2
  go_ret2
  exact Or.inr ⟨by rw [zA HE]; rfl, fun ps S g e => (good_head g e).1 (by have := zA HSZ; omega), Below.refl _ _⟩
 ·have i8 : ¬ (tx.size : Int) < 8 := by omega
  have h3 : 3 < tx.size := by omega
  have hx3 : tx.extract 0 3 = ⟨(s.take 3).toArray⟩ := by rw [htx]; exact extract_take s 3
  have hxa : tx.extract 0 (tx.size - 4) = ⟨(s.take (s.length - 4)).toArray⟩ := by rw [hsz, htx]; exact extract_take s _
  have hxb : tx.extract (tx.size - 4) tx.size = ⟨(s.drop (s.length - 4)).toArray⟩ := by
   have := jT s (s.length - 4)
   rw [← htx, ← hsz] at this
   rw [← hsz]; exact this
  have hg3 : tx[3] = s.getD 3 0 := by
   subst htx
   simp only [ByteArray.getElem_eq_getElem_data, List.getElem_toArray]
   simp [List.getD, show 3 < s.length by omega]
  by_cases hm : s.take 3 = [83, 67, 82]
  ·have m1 : (!(tx.extract 0 3).toList == [83, 67, 82]) = false := by rw [hx3, hm]; simp [ByteArray.toList_eq]
   by_cases hv : s.getD 3 0 = 1
   ·have v1 : ((tx[3].toNat : Int) != 1) = false := by rw [hg3, hv]; decide
    have HSM := zB (sum_any (s.take (s.length - 4)) w (by rw [List.length_take]; omega))
    rw [← hxa] at HSM
    have HHI : Hid (s.length < 8 -> False) := zB (by omega)
    have HSS : Hid (((⟨(yK (s.take (s.length - 4))).toArray⟩ : ByteArray).toList == (tx.extract (tx.size - 4) tx.size).toList) = decide (yK (s.take (s.length - 4)) = s.drop (s.length - 4))) := zB (by rw [hxb]; exact same_str)
    have HRP : Hid (∀ W, Calls Tryz.prog 125 #[.string tx] W (RpPost W s)) := zB (fun W => by rw [htx]; exact rpatterns_any s W (by omega))
    have HER : Hid (yK (s.take (s.length - 4)) = s.drop (s.length - 4) -> errL s = 10) := zB (fun e => by unfold errL; rw [if_neg (by omega), if_neg (fun h => h hm), if_neg (fun h => h hv), if_neg (fun h => h e)])
    have HER9 : Hid (yK (s.take (s.length - 4)) ≠ s.drop (s.length - 4) -> errL s = 9) := zB (fun e => by unfold errL; rw [if_neg (by omega), if_neg (fun h => h hm), if_neg (fun h => h hv), if_pos e])
    rw [← htx]
    clear htx hsz hxa hxb hx3 hg3 hm hv
    generalize hte : tx.extract (tx.size - 4) tx.size = te at *
    generalize hts2 : (⟨(yK (s.take (s.length - 4))).toArray⟩ : ByteArray) = ts at *
    clear hts2
    have HTE := zB hte
    clear hte
    by_cases hq : yK (s.take (s.length - 4)) = s.drop (s.length - 4)
    ·have s1 : (!ts.toList == te.toList) = false := by rw [zA HSS]; simp [hq]
     go_enter Tryz.func89, Tryz.ntmps89
     have hte2 := zA HTE
     go_wp2_with (go_at_call 124; refine (zA HSM).mono ?_; rintro e w1 ⟨rfl, hb1⟩; have HB1 := zB hb1; clear hb1)
     refine (zA HRP w1).mono ?_
     rintro e w2 ⟨v, l, ok, rfl, hP⟩
     have HER2 := zA HER hq
     have HE := zB HER2
     have HGD := zB hP.good
     have HB2 := zB ((zA HB1).trans (hP.bel.mono (zA HB1).size))
     clear HER2
     cases ok with
     | false =>
       go_wp2_with fail
       go_ret2
       exact Or.inr ⟨by rw [zA HE]; rfl, (fun ps S g e => by have := (zA HGD ps S g e).1; cases this), zA HB2⟩
     | true =>
       obtain ⟨ap, cap, rfl, hT, hcap⟩ := owns_txt hP.row
       have hl64 := hP.len
       have hle := hP.each
       by_cases hc : (chk l).1 = 0
       ·have HCO := zB (rcompile_ok ap cap l w2 hT hcap hc)
        clear hP hT hcap hle
        go_wp2_with (go_at_call 86; refine (zA HCO).mono ?_; rintro e w3 ⟨br, vL, gS, cS, R, rfl, hM, hRS, hfr, hb3⟩; have HGO := zB (hRS.good hc); have HM := zB hM; have HFR := zB hfr; have HB3 := zB ((zA HB2).trans (hb3.mono (zA HB2).size)); clear hM hRS hfr hb3)
        have hG := zA HGO
        obtain ⟨h64, hlen, _⟩ := yr hc
        have HSV := zB (save_any br gS cS vL l R w3 (zA HM) (fun k hk => by have := hG.short hk; omega) h64 (fun i hi => (hlen i hi).2) hG.mem)
        have HEQ : Hid (((⟨(zS l R).toArray⟩ : ByteArray).toList == tx.toList) = decide (zS l R = s)) := zB (by rw [zA HX]; exact same_str)
        clear hG h64 hlen
        refine (zA HSV).mono ?_
        rintro e w4 ⟨rfl, hb4⟩
        have HM4 := zB ((zA HM).below hb4)
        have HB4 := zB ((zA HB3).trans (hb4.mono (zA HB3).size))
        clear hb4
        generalize hfs : (⟨(zS l R).toArray⟩ : ByteArray) = fs at *
        clear hfs
        have s2 := (zA HB2).size
        by_cases hf : zS l R = s
        ·have f1 : (!fs.toList == tx.toList) = false := by rw [zA HEQ]; simp [hf]
         go_wp2_with fail
         go_ret2
         obtain ⟨q1, q2, q3⟩ := zA HFR
         exact Or.inl ⟨br, vL, gS, cS, l, R, rfl, zA HM4, zA HGO, hf.symm, ⟨by omega, by omega, fun b hb => by have := q3 b hb; omega⟩, zA HB4⟩
        ·have f1 : (!fs.toList == tx.toList) = true := by rw [zA HEQ]; simp [hf]
         go_wp2_with fail
         go_ret2
         exact Or.inr ⟨by rw [zA HE]; rfl, fun ps S g e => by
          obtain ⟨_, rfl⟩ := zA HGD ps S g e
          have := (zA HGO).uniq g
          subst this
          exact hf e.symm, zA HB4⟩
       ·have HCO := zB (rcompile_bad ap cap l w2 hT (by omega) (fun i hi => by have := hle i hi; omega) hc)
        clear hP hT hcap hle
        have HCN := zB hc
        have hcn : ((chk l).1 != 0) = true := by rw [bne_iff_ne]; exact hc
        go_wp2_with (go_at_call 86; refine (zA HCO).mono ?_; rintro e w3 ⟨rfl, hw3⟩; obtain rfl := hw3.symm)
        go_ret2
        exact Or.inr ⟨by rw [zA HE]; rfl, fun ps S g e => by
         obtain ⟨_, rfl⟩ := zA HGD ps S g e
         exact zA HCN g.ok, zA HB2⟩
    ·have s1 : (!ts.toList == te.toList) = true := by rw [zA HSS]; simp [hq]
     go_enter Tryz.func89, Tryz.ntmps89
     have hte2 := zA HTE
     go_wp2_with (go_at_call 124; refine (zA HSM).mono ?_; rintro e w1 ⟨rfl, hb1⟩; have HB1 := zB hb1; clear hb1)
     go_ret2
     exact Or.inr ⟨by rw [zA HER9 hq]; rfl, fun ps S g e => hq (good_head g e).2.2.2, zA HB1⟩
   ·have v1 : ((tx[3].toNat : Int) != 1) = true := by
     rw [hg3]
     have : (s.getD 3 0).toNat ≠ 1 := fun e => hv (UInt8.toNat_inj.1 (by rw [e]; rfl))
     rw [bne_iff_ne]; omega
    have HE : Hid (errL s = 8) := zB (by unfold errL; rw [if_neg (by omega), if_neg (fun h => h hm), if_pos hv])
    rw [← htx]
    clear htx hsz hxa hxb hx3 hg3
    go_enter Tryz.func89, Tryz.ntmps89
    go_wp2
    go_ret2
    exact Or.inr ⟨by rw [zA HE]; rfl, fun ps S g e => hv (good_head g e).2.2.1, Below.refl _ _⟩
  ·have m1 : (!(tx.extract 0 3).toList == [83, 67, 82]) = true := by
    have := same_str (a := s.take 3) (b := [83, 67, 82])
    rw [hx3]
    have e2 : (⟨([83, 67, 82] : Str).toArray⟩ : ByteArray).toList = [83, 67, 82] := by simp [ByteArray.toList_eq]
    rw [e2] at this
    rw [this]; simp [hm]
   have HE : Hid (errL s = 7) := zB (by unfold errL; rw [if_neg (by omega), if_pos hm])
   rw [← htx]
   clear htx hsz hxa hxb hx3 hg3
   go_enter Tryz.func89, Tryz.ntmps89
   go_wp2
   go_ret2
   exact Or.inr ⟨by rw [zA HE]; rfl, fun ps S g e => hm (good_head g e).2.1, Below.refl _ _⟩
end Go.Proofs.YtfpohfifdfbpkaaGreatDoor
