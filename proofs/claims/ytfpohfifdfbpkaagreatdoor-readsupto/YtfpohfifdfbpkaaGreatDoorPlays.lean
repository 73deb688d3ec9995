import Derived.Test.YtfpohfifdfbpkaaGreatDoorStep
import Derived.Test.YtfpohfifdfbpkaaGreatDoorFileDef
import Derived.Test.YtfpohfifdfbpkaaGreatDoorErrT
namespace Go.Proofs.YtfpohfifdfbpkaaGreatDoor
open Go.RowKit Scour Go.Lib
theorem Tryz.infoO : (Tryz.prog.info? 70).map (fun i => (i.zero, i.size, i.bytes)) = some (some (.agg #[.int .i64 0, .int .i64 0, .int .i64 0, .string ⟨#[]⟩, .slice none 0 0]), 5, 64) := by kernel_rfl
def zo (l : List OpD) : List Value := l.flatMap OpD.vals
theorem opsCells_len (l : List OpD) : (zo l).length = l.length * 5 := by
 induction l with
 | nil => rfl
 | cons x l ih =>
   have : zo (x :: l) = x.vals ++ zo l := rfl
   rw [this, List.length_append, ih]; simp [OpD.vals]; omega
theorem opsCells_get : ∀ (l : List OpD) (i : Nat) (p : OpD), l[i]? = some p -> ∀ j, j < 5 -> (zo l)[i * 5 + j]? = p.vals[j]?
 | [], i, p, h, j, hj => by simp at h
 | x :: l, 0, p, h, j, hj => by
   obtain rfl : x = p := by simpa using h
   have : zo (x :: l) = x.vals ++ zo l := rfl
   rw [this, Nat.zero_mul, Nat.zero_add, List.getElem?_append_left (by simp [OpD.vals]; omega)]
 | x :: l, i + 1, p, h, j, hj => by
   have h2 := opsCells_get l i p (by simpa using h) j hj
   have : zo (x :: l) = x.vals ++ zo l := rfl
   have hv : x.vals.length = 5 := by simp [OpD.vals]
   rw [this, List.getElem?_append_right (by omega), hv, show (i + 1) * 5 + j - 5 = i * 5 + j by omega]
   exact h2
theorem opsCells_one (l : List OpD) : ∀ u ∈ zo l, u.oneCell' = true := by
 intro u hu
 obtain ⟨p, _, hp⟩ := List.mem_flatMap.1 hu
 simp only [OpD.vals, List.mem_cons, List.not_mem_nil, or_false] at hp
 rcases hp with rfl | rfl | rfl | rfl | rfl <;> rfl
def y9 (b : Nat) : List OpD := [⟨1, 0, 0, ⟨#[]⟩, some ⟨b, 0, none⟩, [[104, 101], [115, 104, 101], [104, 101, 114, 115]], 3⟩, ⟨3, 0, 0, ⟨#[]⟩, none, [], 0⟩, ⟨4, 0, 4, ⟨#[101]⟩, none, [], 0⟩, ⟨5, 0, 0, ⟨#[]⟩, none, [], 0⟩, ⟨9, 0, 0, ⟨#[]⟩, none, [], 0⟩, ⟨7, 0, 0, ⟨#[]⟩, none, [], 0⟩, ⟨8, 0, 0, ⟨#[117, 115, 104, 101, 114, 115]⟩, none, [], 0⟩]
def firstW (w : World) : World := (w.alloc (.cells #[.string ⟨#[104, 101]⟩, .string ⟨#[115, 104, 101]⟩, .string ⟨#[104, 101, 114, 115]⟩] 9)).alloc (.cells (zo (y9 w.heap.size)).toArray 70)
set_option maxHeartbeats 1000000 in
theorem first_any (w : World) :
  Calls Tryz.prog 29 #[] w fun e w' => e = .returned (.slice (some ⟨w.heap.size + 1, 0, none⟩) 7 7) /\ w' = firstW w := by
 go_enter Tryz.func29, Tryz.ntmps29
 go_wp2
 go_ret
 exact ⟨rfl, rfl⟩
structure AllOps (w : World) (B g : Nat) (l : List OpD) : Prop where
 cell : ∀ i p, l[i]? = some p -> ∀ j, j < 5 -> w.cell? ⟨g, i * 5 + j, none⟩ = p.vals[j]?
 ok : ∀ p, p ∈ l -> p.OK w B
 lt : g < B
theorem OpD.OK.below {w w' : World} {B B' : Nat} {o : OpD} (h : o.OK w B) (hb : Below B' w w') (hB : B <= B') : o.OK w' B := ⟨h.ab, h.ss, h.txt.below hb hB, h.nil, h.len, h.each⟩
theorem OpD.OK.up {w : World} {B B' : Nat} {o : OpD} (h : o.OK w B) (hB : B <= B') : o.OK w B' := ⟨h.ab, h.ss, h.txt.up hB, h.nil, h.len, h.each⟩
theorem AllOps.below {w w' : World} {B g : Nat} {l : List OpD} (h : AllOps w B g l) (hb : Below B w w') : AllOps w' B g l :=
 ⟨fun i p hp j hj => (hb.cell (p := ⟨g, i * 5 + j, none⟩) h.lt).trans (h.cell i p hp j hj), fun p hp => (h.ok p hp).below hb (Nat.le_refl _), h.lt⟩
theorem firstW_below (w : World) : Below w.heap.size w (firstW w) := zf w _ _
theorem firstW_size (w : World) : (firstW w).heap.size = w.heap.size + 2 := by simp [firstW]
theorem firstW_row (w : World) : (firstW w).ownsRow w.heap.size 70 5 (.slice (some ⟨w.heap.size + 1, 0, none⟩) 7 7) 7 (zo (y9 w.heap.size)) := by
 refine ⟨by rw [opsCells_len]; rfl, Or.inr ⟨w.heap.size + 1, 7, (zo (y9 w.heap.size)).toArray, rfl, by omega, ?_, Nat.le_refl _, by unfold maxLen; omega, ?_, ?_⟩⟩
 ·have := heap_alloc_new (w.alloc (.cells #[.string ⟨#[104, 101]⟩, .string ⟨#[115, 104, 101]⟩, .string ⟨#[104, 101, 114, 115]⟩] 9)) (.cells (zo (y9 w.heap.size)).toArray 70)
  rw [show (w.alloc (.cells #[.string ⟨#[104, 101]⟩, .string ⟨#[115, 104, 101]⟩, .string ⟨#[104, 101, 114, 115]⟩] 9)).heap.size = w.heap.size + 1 by simp] at this
  exact this
 ·simp [opsCells_len]; rfl
 ·rw [List.take_of_length_le (by rw [opsCells_len]; exact Nat.le_refl _)]
theorem firstW_ok (w : World) : ∀ p, p ∈ y9 w.heap.size -> p.OK (firstW w) (w.heap.size + 1) := by
 intro p hp
 have hnil : ∀ (k a b : Int) (s : ByteArray), (a = 0) -> s.size < 100 -> (⟨k, a, b, s, none, [], 0⟩ : OpD).OK (firstW w) (w.heap.size + 1) := fun k a b s ha hs => ⟨by simp only []; omega, by simp only []; omega, fun h => absurd h (Nat.lt_irrefl _), fun _ => ⟨rfl, rfl⟩, Nat.zero_le _, fun i h => absurd h (Nat.not_lt_zero _)⟩
 simp only [y9, List.mem_cons, List.not_mem_nil, or_false] at hp
 rcases hp with rfl | rfl | rfl | rfl | rfl | rfl | rfl
 ·refine ⟨by simp only []; omega, (show (0 : Nat) < 100000000 by decide), fun _ => ⟨w.heap.size, 0, by omega, rfl, ?_⟩, (fun h => by cases h), (show (3 : Nat) <= 2000000 by decide), ?_⟩
  ·intro i hi
   have hblk : (firstW w).heap[w.heap.size]? = some (.cells #[.string ⟨#[104, 101]⟩, .string ⟨#[115, 104, 101]⟩, .string ⟨#[104, 101, 114, 115]⟩] 9) := by
    unfold firstW
    rw [Below.heap_alloc _ _ w.heap.size (by simp)]
    exact heap_alloc_new w _
   rw [Nat.zero_add, zC hblk]
   have : i < 3 := hi
   rcases i with _ | _ | _ | i
   ·rfl
   ·rfl
   ·rfl
   ·omega
  ·intro i hi
   have : i < 3 := hi
   rcases i with _ | _ | _ | i
   ·exact (show (2 : Nat) < 100000000 by decide)
   ·exact (show (3 : Nat) < 100000000 by decide)
   ·exact (show (4 : Nat) < 100000000 by decide)
   ·omega
 all_goals exact hnil _ _ _ _ rfl (by decide)
end Go.Proofs.YtfpohfifdfbpkaaGreatDoor
namespace Go.Proofs.YtfpohfifdfbpkaaGreatDoor
open Go.RowKit Scour Go.Lib
def tagsZ (n : Nat) : Nat -> Nat := fun k => if k < n then 0 else if k = n then 2 else 9
theorem LW.start (w : World) : LW (w.alloc (.cells #[.slice none 0 0, .slice none 0 0, .slice none 0 0, .slice none 0 0, .slice none 0 0] 68)) w.heap.size (tagsZ w.heap.size) [] (.slice none 0 0) (.slice none 0 0) (.slice none 0 0) [] [] ⟨fun _ => 0, .slice none 0 0, .slice none 0 0, [], [], 0⟩ := by
 refine ⟨heap_alloc_new w _, ?_, World.ownsRow_nil _ _ _ _, (fun b h => by cases h), (fun e he => absurd he List.not_mem_nil), ⟨World.ownsRow_nil _ _ _ _, (fun b h => by cases h), (fun i s h => by simp at h), rfl, (fun s h => absurd h List.not_mem_nil)⟩, ⟨World.ownsRow_nil _ _ _ _, (fun b h => by cases h), (fun i s h => by simp at h), rfl, (fun s h => absurd h List.not_mem_nil)⟩, (fun k hk => ?_), ⟨World.ownsRow_nil _ _ _ _, (fun b h => by cases h), (fun i f h => by simp at h), ⟨World.ownsRow_nil _ _ _ _, (fun b h => by cases h), (fun i s h => by simp at h), rfl, (fun s h => absurd h List.not_mem_nil)⟩, (fun f h => absurd h List.not_mem_nil)⟩⟩
 ·unfold tagsZ; rw [if_neg (Nat.lt_irrefl _), if_pos rfl]
 ·have : w.heap.size + 1 <= k := by simpa using hk
  unfold tagsZ; rw [if_neg (by omega), if_neg (by omega)]
theorem fr_to_below {B : Nat} {T : Nat -> Nat} {w w' : World} {T' : Nat -> Nat} (h : Fr T w w' T') (hB : B <= w.heap.size) (h0 : ∀ k, k < B -> T k = 0) : Below B w w' :=
 ⟨h.os, h.tape, h.output, h.size, fun k hk => (h.zero k (by omega) (h0 k hk)).1⟩
theorem all_ops {w w2 : World} {v : Value} {ops : List OpD} (hO : w2.ownsRow w.heap.size 70 5 v (7 + ops.length) (zo (y9 w.heap.size) ++ zo ops)) (hb : Below w.heap.size w w2) (hg : (firstW w).grownBy w2 (some (w.heap.size + 1))) (hok : ∀ p, p ∈ ops -> p.OK w w.heap.size) :
  ∃ g cap, v = .slice (some ⟨g, 0, none⟩) (7 + ops.length) cap /\ AllOps w2 w2.heap.size g (y9 w.heap.size ++ ops) := by
 rcases hO.2 with ⟨_, h0⟩ | ⟨g, cap, cur, hv, _, hgb, _⟩
 ·omega
 ·refine ⟨g, cap, hv, ⟨fun i p hp j hj => ?_, fun p hp => ?_, (Array.getElem?_eq_some_iff.1 hgb).1⟩⟩
  ·subst hv
   have hil := (List.getElem?_eq_some_iff.1 hp).1
   have hl7 : (y9 w.heap.size).length = 7 := rfl
   rw [List.length_append, hl7] at hil
   have e1 : zo (y9 w.heap.size) ++ zo ops = zo (y9 w.heap.size ++ ops) := by simp [zo]
   rw [hO.cellAt (i * 5 + j) (by omega), e1]
   exact opsCells_get _ i p hp j hj
  ·have hsz := hb.size
   rcases List.mem_append.1 hp with h | h
   ·have h1 := firstW_ok w p h
    have hs := firstW_size w
    have hg2 := hg.size
    have hbl : Below (w.heap.size + 1) (firstW w) w2 := zG hg (by omega) (fun k hk => by
     have : w.heap.size + 1 = k := by simpa using hk
     omega)
    exact (h1.below hbl (Nat.le_refl _)).up (by omega)
   ·exact ((hok p h).below hb (Nat.le_refl _)).up hsz
theorem OpsIn.src {W : World} {ap : Option Addr} {ops : List OpD} (hc : 0 < ops.length -> ∃ b o, b < W.heap.size /\ ap = some ⟨b, o, none⟩ /\ ∀ i p, ops[i]? = some p -> ∀ j, j < 5 -> W.cell? ⟨b, o + (i * 5 + j), none⟩ = p.vals[j]?) {W' : World} (hb : Below W.heap.size W W') : ∀ ad, ap = some ad -> ∀ j u, (zo ops)[j]? = some u -> W'.cell? (ad.add j) = some u := by
 intro ad had j u hu
 have hl := (List.getElem?_eq_some_iff.1 hu).1
 rw [opsCells_len] at hl
 obtain ⟨b, o, hbl, e, hcell⟩ := hc (by omega)
 rw [had] at e
 obtain rfl : ad = ⟨b, o, none⟩ := by simpa using e
 have hd : j / 5 < ops.length := by omega
 have hp : ops[j / 5]? = some ops[j / 5] := List.getElem?_eq_getElem hd
 have hj : j / 5 * 5 + j % 5 = j := by omega
 have h1 := hcell (j / 5) _ hp (j % 5) (by omega)
 have h2 := opsCells_get ops (j / 5) _ hp (j % 5) (by omega)
 rw [hj] at h1 h2
 rw [zg, hb.cell (p := ⟨b, o + j, none⟩) hbl, h1, ← h2]
 exact hu
def StepOK (ks : List Int) : Prop := ∀ (bw : Nat) (T : Nat -> Nat) (M : List Ent) (vms vby vli : Value) (E F : List Sl) (mb : Ext) (o : OpD) (w : World), LW w bw T M vms vby vli E F mb -> o.OK w w.heap.size -> o.k ∈ ks -> M.length < 900000000000 -> E.length < 900000000000 -> F.length < 900000000000 -> mb.Small -> ErrT w -> T 0 = 0 ->
    Calls Tryz.prog 31 #[.pointer (some ⟨bw, 0, none⟩), .agg #[.int .i64 o.k, .int .i64 o.a, .int .i64 o.b, .string o.s, .slice o.ap o.ts.length o.cap]] w fun r w' => r = .returned (.bool true) /\ jR bw T M E F mb w w'
set_option maxHeartbeats 8000000 in
set_option maxRecDepth 100000 in
theorem plays_any (ks : List Int) (hks : ks.length < 1000) (hstep : StepOK ks) (ap : Option Addr) (cap : Nat) (ops : List OpD) (w : World) (hc : 0 < ops.length -> ∃ b o, b < w.heap.size /\ ap = some ⟨b, o, none⟩ /\ ∀ i p, ops[i]? = some p -> ∀ j, j < 5 -> w.cell? ⟨b, o + (i * 5 + j), none⟩ = p.vals[j]?) (hok : ∀ p, p ∈ ops -> p.OK w w.heap.size) (hlen : ops.length <= 1048576) (hnil : ap = none -> cap = 0 /\ ops.length = 0)
  (hET : ErrT w) (bp : Nat) (hbp : bp < w.heap.size) (hpl : ∀ i, i < ks.length -> w.cell? ⟨bp, i, none⟩ = some (.int .i64 (ks.getD i 0))) :
  Calls Tryz.prog 12 #[.slice ap ops.length cap, .slice (some ⟨bp, 0, none⟩) ks.length ks.length] w fun e w' => e = .returned (.bool true) /\ Below w.heap.size w w' := by
 obtain ⟨i0, hi, hz0, hz1, hz2⟩ := info_parts Tryz.infoO
 have HSTEP := zB hstep
 have HET := zB hET
 have hw0 := hET.pos
 clear hstep hET
 have HFI := zB (first_any w)
 have HSR := zB (OpsIn.src hc (firstW_below w))
 have HOK := zB hok
 have HPL := zB hpl
 have HNL : Hid (ap = none -> cap = 0 /\ zo ops = []) := zB (fun h => ⟨(hnil h).1, by rw [List.length_eq_zero_iff.1 (hnil h).2]; rfl⟩)
 have HLC := zB (opsCells_len ops)
 have hs1 := firstW_size w
 clear hc hok hpl hnil
 go_enter Tryz.func12, Tryz.ntmps12
 go_wp2_with (first | (go_at_call 29; refine (zA HFI).mono ?_; rintro e w1 ⟨rfl, hw⟩; have HW1 := zB hw; have HB1 : Hid (Below w.heap.size w w1) := zB (hw ▸ firstW_below w); have hs2 : w1.heap.size = w.heap.size + 2 := (hw ▸ firstW_size w); clear hw) | (at_builtin; refine yz rfl (.tmp 13) (.tmp 14) 22 rfl w.heap.size 70 i0 _ 5 64 Tryz.underlying22 hi hz0 hz1 hz2 rfl (by decide) (.slice (some ⟨w.heap.size + 1, 0, none⟩) 7 7) 7 (zo (y9 w.heap.size)) rfl ((zA HW1) ▸ firstW_row w) ap ops.length cap (zo ops) rfl (zA HNL) (zA HLC) ((zA HW1) ▸ zA HSR) (opsCells_one ops) (by unfold maxLen; omega) (by omega) (by omega) ?_; intro v5 w2 ho2 hg2; have HO2 := zB ho2; have HG2 := zB hg2; clear ho2 hg2))
 have hg2 : (firstW w).grownBy w2 (some (w.heap.size + 1)) := (zA HW1) ▸ (zA HG2)
 have hb2 : Below w.heap.size w w2 := (firstW_below w).trans (zG hg2 (by omega) (fun k hk => by
  have : w.heap.size + 1 = k := by simpa using hk
  omega))
 obtain ⟨g, cap2, rfl, hall⟩ := all_ops (zA HO2) hb2 hg2 (zA HOK)
 have hsz2 := hb2.size
 have hl7 : (y9 w.heap.size ++ ops).length = 7 + ops.length := by rw [List.length_append]; rfl
 generalize y9 w.heap.size ++ ops = al at hall hl7
 have hb23 : Below w2.heap.size w2 (w2.alloc (.cells #[.slice none 0 0, .slice none 0 0, .slice none 0 0, .slice none 0 0, .slice none 0 0] 68)) := (Below.refl _ _).alloc (Nat.le_refl _) _
 have HAL := zB (hall.below hb23)
 have HLW := zB (LW.start w2)
 have HB := zB (hb2.trans (hb23.mono hsz2))
 have HZ : Hid (∀ k, k < w2.heap.size -> tagsZ w2.heap.size k = 0) := zB (fun k hk => by unfold tagsZ; rw [if_pos hk])
 have hs3 : w2.heap.size <= (w2.alloc (.cells #[.slice none 0 0, .slice none 0 0, .slice none 0 0, .slice none 0 0, .slice none 0 0] 68)).heap.size := hb23.size
 have HE3 := zB ((zA HET).below (zA HB))
 clear hall hg2 hb2 HO2 HG2 HW1 HB1 hs2 HFI HSR HOK HNL HLC hs1 hb23
 generalize tagsZ w2.heap.size = T0 at HLW HZ
 generalize w2.alloc (.cells #[.slice none 0 0, .slice none 0 0, .slice none 0 0, .slice none 0 0, .slice none 0 0] 68) = w3 at *
 generalize w2.heap.size = bw at *
 clear w2 w1
 go_loopw [7] (fun v wr => ∃ (k : Nat) (T : Nat -> Nat) (M : List Ent) (vms vby vli : Value) (E F : List Sl) (mb : Ext), v = .int .i64 k /\ k <= 7 + ops.length /\ M.length <= k /\ E.length <= 256 * k /\ F.length <= 4 * k /\ Hid (mb.L.length <= k /\ mb.G.length <= 4 * k /\ mb.most <= 100000000 * k) /\ Hid (LW wr bw T M vms vby vli E F mb) /\ Hid (Fr T0 w3 wr T)) (fun v _ => 7 + ops.length - (intOf v).toNat)
 case atStart => exact ⟨0, T0, [], _, _, _, [], [], _, rfl, Nat.zero_le _, Nat.le_refl _, by simp, by simp, zB ⟨Nat.le_refl _, Nat.le_refl _, Nat.le_refl _⟩, HLW, zB (Fr.refl _ _)⟩
 case round =>
  obtain ⟨k, T, M, vms, vby, vli, E, F, mb, rfl, hk, hMl, hEl, hFl, HX, HW, HFR⟩ := hrel
  by_cases hlt : k < 7 + ops.length
  ·obtain ⟨o, ho⟩ : ∃ o, al[k]? = some o := ⟨_, List.getElem?_eq_getElem (by omega)⟩
   have hbw := fr_to_below (zA HFR) hs3 (zA HZ)
   have hal := (zA HAL).below hbw
   have c0 := hal.cell k o ho 0 (by omega)
   have c1 := hal.cell k o ho 1 (by omega)
   have c2 := hal.cell k o ho 2 (by omega)
   have c3 := hal.cell k o ho 3 (by omega)
   have c4 := hal.cell k o ho 4 (by omega)
   simp [OpD.vals] at c0 c1 c2 c3 c4
   have HO := zB ((hal.ok o (List.mem_of_getElem? ho)))
   have hszr := hbw.size
   have hz0' := (zA HFR).zero 0 (Nat.lt_of_lt_of_le (by omega) hs3) (zA HZ 0 (by omega))
   have HER : Hid (ErrT wr) := zB ((zA HE3).same hz0'.1)
   have HT0 : Hid (T 0 = 0) := zB hz0'.2
   clear hz0'
   have i1 : (k : Int) < (7 : Int) + (ops.length : Int) := by omega
   have i2 : (0 : Int) <= (k : Int) := by omega
   have i3 : (k : Int) < 288230376151711744 := by omega
   have hbo : ∀ ob, Below wr.heap.size wr (wr.alloc ob) := fun ob => (Below.refl _ _).alloc (Nat.le_refl _) _
   have HAM : Hid (∀ ob, Calls Tryz.prog 30 #[.slice (some ⟨bp, 0, none⟩) ks.length ks.length, .int .i64 o.k] (wr.alloc ob) fun e w' => e = .returned (.bool (decide (o.k ∈ ks))) /\ w' = wr.alloc ob) := zB (fun ob => among_any bp ks.length ks o.k (wr.alloc ob) hks (fun i h4 => by
    rw [(hbo ob).cell (p := ⟨bp, i, none⟩) (by simp only []; omega), hbw.cell (p := ⟨bp, i, none⟩) (by simp only []; omega), (zA HB).cell (p := ⟨bp, i, none⟩) hbp]
    exact zA HPL i h4))
   by_cases hin : o.k ∈ ks
   ·have HST : Hid (∀ ob, Calls Tryz.prog 31 #[.pointer (some ⟨bw, 0, none⟩), .agg #[.int .i64 o.k, .int .i64 o.a, .int .i64 o.b, .string o.s, .slice o.ap o.ts.length o.cap]] (wr.alloc ob) fun r w' => r = .returned (.bool true) /\ jR bw T M E F mb (wr.alloc ob) w') := zB (fun ob => zA HSTEP bw T M vms vby vli E F mb o (wr.alloc ob) ((zA HW).below (hbo ob)) (((zA HO).below (hbo ob) (by omega)).up (Nat.le_trans (by omega) (hbo ob).size)) hin (by omega) (by omega) (by omega) (by have := zA HX; exact ⟨by omega, by omega, by omega⟩) ((zA HER).below (hbo ob)) (zA HT0))
    have HLK : Hid (∀ ob w4, jR bw T M E F mb (wr.alloc ob) w4 -> Calls Tryz.prog 32 #[.pointer (some ⟨bw, 2, none⟩)] w4 fun e w' => e = .returned (.bool true) /\ ∃ (T' : Nat -> Nat) (M' : List Ent) (vms' vby' vli' : Value) (E' F' : List Sl) (mb' : Ext), M'.length <= k + 1 /\ E'.length <= 256 * (k + 1) /\ F'.length <= 4 * (k + 1) /\ (mb'.L.length <= k + 1 /\ mb'.G.length <= 4 * (k + 1) /\ mb'.most <= 100000000 * (k + 1)) /\ LW w' bw T' M' vms' vby' vli' E' F' mb' /\ Fr T0 w3 w' T') := zB (fun ob w4 hA => by
     obtain ⟨T', M', vms', vby', vli', E', F', mb', k1, k2, k3, k4, k5, k6⟩ := hA
     have hx := zA HX
     have x1 := k6.l
     have x2 := k6.g
     have x3 := k6.t
     refine (looks_any bw T' M' vms' vby' vli' E' F' mb' w4 k1 (by omega) (by omega) (by omega)).mono ?_
     rintro e w5 ⟨rfl, hb5⟩
     exact ⟨rfl, T', M', vms', vby', vli', E', F', mb', by omega, by omega, by omega, ⟨by omega, by omega, by omega⟩, k1.below hb5, (((zA HFR).trans (zl (hbo ob))).trans k2).trans (zl hb5)⟩)
    rw [decide_eq_true hin] at HAM
    clear hal hbw ho hin hbo HO
    go_wp2_with (first | (go_at_call 30; refine (zA HAM _).mono ?_; rintro e w' ⟨rfl, hw⟩; have hw' := hw.symm; clear hw; subst hw') | (go_at_call 31; refine (zA HST _).mono ?_; rintro e w4 ⟨rfl, hA⟩; have HLK2 := zB (zA HLK _ w4 hA); clear hA) | (go_at_call 32; refine (zA HLK2).mono ?_; rintro e w5 ⟨rfl, T', M', vms', vby', vli', E', F', mb', k3, k4, k5, k6, k1, k2⟩; have HK1 := zB k1; have HK2 := zB k2; have HK6 := zB k6; clear k1 k2 k6))
    go_roundw
    case rel => exact ⟨k + 1, T', M', vms', vby', vli', E', F', mb', by go_num, hlt, k3, k4, k5, HK6, HK1, HK2⟩
    case measure => simp [intOf]; omega
   ·have HN : Hid (∀ ob, LW (wr.alloc ob) bw T M vms vby vli E F mb /\ Fr T0 w3 (wr.alloc ob) T) := zB (fun ob => ⟨(zA HW).below (hbo ob), (zA HFR).trans (zl (hbo ob))⟩)
    rw [decide_eq_false hin] at HAM
    clear hal hbw ho hin hbo HO
    go_wp2_with (go_at_call 30; refine (zA HAM _).mono ?_; rintro e w' ⟨rfl, hw⟩; have hw' := hw.symm; clear hw; subst hw')
    go_roundw
    case rel => exact ⟨k + 1, T, M, vms, vby, vli, E, F, mb, by go_num, hlt, by omega, by omega, by omega, zB (by have := zA HX; exact ⟨by omega, by omega, by omega⟩), zB (zA HN _).1, zB (zA HN _).2⟩
    case measure => simp [intOf]; omega
  ·obtain rfl : k = 7 + ops.length := by omega
   have HAP := zB (apart_any bw T M vms vby vli E F mb wr (zA HW) (by omega))
   have i1 : ¬ ((7 + ops.length : Nat) : Int) < (7 : Int) + (ops.length : Int) := by omega
   go_wp2_with (go_at_call 33; refine (zA HAP).mono ?_; rintro e w5 ⟨rfl, hW5, hf5⟩; have HF5 := zB ((zA HFR).trans hf5); clear hW5 hf5)
   go_ret
   exact ⟨rfl, (zA HB).trans ((fr_to_below (zA HF5) hs3 (zA HZ)).mono (by omega))⟩
end Go.Proofs.YtfpohfifdfbpkaaGreatDoor
