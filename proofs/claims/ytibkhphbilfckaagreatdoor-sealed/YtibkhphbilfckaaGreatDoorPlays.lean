import Derived.Test.YtibkhphbilfckaaGreatDoorStep
import Derived.Test.YtibkhphbilfckaaGreatDoorFileDef
import Derived.Test.YtibkhphbilfckaaGreatDoorErrT
namespace Go.Proofs.YtibkhphbilfckaaGreatDoor
open Go.RowKit Scour Go.Lib

theorem Tryz.infoO : (Tryz.prog.info? 53).map (fun i => (i.zero, i.size, i.bytes)) = some (some (.agg #[.int .i64 0, .int .i64 0, .int .i64 0, .string ⟨#[]⟩, .slice none 0 0]), 5, 64) := by kernel_rfl

def opsCells (l : List OpD) : List Value := l.flatMap OpD.vals

theorem opsCells_len (l : List OpD) : (opsCells l).length = l.length * 5 := by
  induction l with
  | nil => rfl
  | cons x l ih =>
    have : opsCells (x :: l) = x.vals ++ opsCells l := rfl
    rw [this, List.length_append, ih]; simp [OpD.vals]; omega

theorem opsCells_get : ∀ (l : List OpD) (i : Nat) (p : OpD), l[i]? = some p → ∀ j, j < 5 → (opsCells l)[i * 5 + j]? = p.vals[j]?
  | [], i, p, h, j, hj => by simp at h
  | x :: l, 0, p, h, j, hj => by
    obtain rfl : x = p := by simpa using h
    have : opsCells (x :: l) = x.vals ++ opsCells l := rfl
    rw [this, Nat.zero_mul, Nat.zero_add, List.getElem?_append_left (by simp [OpD.vals]; omega)]
  | x :: l, i + 1, p, h, j, hj => by
    have h2 := opsCells_get l i p (by simpa using h) j hj
    have : opsCells (x :: l) = x.vals ++ opsCells l := rfl
    have hv : x.vals.length = 5 := by simp [OpD.vals]
    rw [this, List.getElem?_append_right (by omega), hv, show (i + 1) * 5 + j - 5 = i * 5 + j by omega]
    exact h2

theorem opsCells_one (l : List OpD) : ∀ u ∈ opsCells l, u.oneCell' = true := by
  intro u hu
  obtain ⟨p, _, hp⟩ := List.mem_flatMap.1 hu
  simp only [OpD.vals, List.mem_cons, List.not_mem_nil, or_false] at hp
  rcases hp with rfl | rfl | rfl | rfl | rfl <;> rfl

/-- What is asked ahead of any script. -/
def firstOps (b : Nat) : List OpD := [⟨1, 0, 0, ⟨#[]⟩, some ⟨b, 0, none⟩, [[104, 101], [115, 104, 101], [104, 101, 114, 115]], 3⟩, ⟨3, 0, 0, ⟨#[]⟩, none, [], 0⟩, ⟨4, 0, 4, ⟨#[101]⟩, none, [], 0⟩, ⟨5, 0, 0, ⟨#[]⟩, none, [], 0⟩, ⟨9, 0, 0, ⟨#[]⟩, none, [], 0⟩, ⟨7, 0, 0, ⟨#[]⟩, none, [], 0⟩, ⟨8, 0, 0, ⟨#[117, 115, 104, 101, 114, 115]⟩, none, [], 0⟩]

/-- The world behind 'first'. -/
def firstW (w : World) : World := (w.alloc (.cells #[.string ⟨#[104, 101]⟩, .string ⟨#[115, 104, 101]⟩, .string ⟨#[104, 101, 114, 115]⟩] 9)).alloc (.cells (opsCells (firstOps w.heap.size)).toArray 53)

set_option maxHeartbeats 1000000 in
theorem first_any (w : World) :
    Calls Tryz.prog 16 #[] w fun e w' => e = .returned (.slice (some ⟨w.heap.size + 1, 0, none⟩) 7 7) ∧ w' = firstW w := by
  go_enter Tryz.func16, Tryz.ntmps16
  go_wp2
  go_ret
  exact ⟨rfl, rfl⟩

/-- Steps that lie in memory below block B. -/
structure AllOps (w : World) (B g : Nat) (l : List OpD) : Prop where
  cell : ∀ i p, l[i]? = some p → ∀ j, j < 5 → w.cell? ⟨g, i * 5 + j, none⟩ = p.vals[j]?
  ok : ∀ p, p ∈ l → p.OK w B
  lt : g < B

theorem OpD.OK.below {w w' : World} {B B' : Nat} {o : OpD} (h : o.OK w B) (hb : Below B' w w') (hB : B ≤ B') : o.OK w' B := ⟨h.ab, h.ss, h.txt.below hb hB, h.nil, h.len, h.each⟩
theorem OpD.OK.up {w : World} {B B' : Nat} {o : OpD} (h : o.OK w B) (hB : B ≤ B') : o.OK w B' := ⟨h.ab, h.ss, h.txt.up hB, h.nil, h.len, h.each⟩

theorem AllOps.below {w w' : World} {B g : Nat} {l : List OpD} (h : AllOps w B g l) (hb : Below B w w') : AllOps w' B g l :=
  ⟨fun i p hp j hj => (hb.cell (p := ⟨g, i * 5 + j, none⟩) h.lt).trans (h.cell i p hp j hj), fun p hp => (h.ok p hp).below hb (Nat.le_refl _), h.lt⟩

theorem firstW_below (w : World) : Below w.heap.size w (firstW w) := below_two w _ _
theorem firstW_size (w : World) : (firstW w).heap.size = w.heap.size + 2 := by simp [firstW]

theorem firstW_row (w : World) : (firstW w).ownsRow w.heap.size 53 5 (.slice (some ⟨w.heap.size + 1, 0, none⟩) 7 7) 7 (opsCells (firstOps w.heap.size)) := by
  refine ⟨by rw [opsCells_len]; rfl, Or.inr ⟨w.heap.size + 1, 7, (opsCells (firstOps w.heap.size)).toArray, rfl, by omega, ?_, Nat.le_refl _, by unfold maxLen; omega, ?_, ?_⟩⟩
  · have := heap_alloc_new (w.alloc (.cells #[.string ⟨#[104, 101]⟩, .string ⟨#[115, 104, 101]⟩, .string ⟨#[104, 101, 114, 115]⟩] 9)) (.cells (opsCells (firstOps w.heap.size)).toArray 53)
    rw [show (w.alloc (.cells #[.string ⟨#[104, 101]⟩, .string ⟨#[115, 104, 101]⟩, .string ⟨#[104, 101, 114, 115]⟩] 9)).heap.size = w.heap.size + 1 by simp] at this
    exact this
  · simp [opsCells_len]; rfl
  · rw [List.take_of_length_le (by rw [opsCells_len]; exact Nat.le_refl _)]

theorem firstW_ok (w : World) : ∀ p, p ∈ firstOps w.heap.size → p.OK (firstW w) (w.heap.size + 1) := by
  intro p hp
  have hnil : ∀ (k a b : Int) (s : ByteArray), (a = 0) → s.size < 100 → (⟨k, a, b, s, none, [], 0⟩ : OpD).OK (firstW w) (w.heap.size + 1) := fun k a b s ha hs => ⟨by simp only []; omega, by simp only []; omega, fun h => absurd h (Nat.lt_irrefl _), fun _ => ⟨rfl, rfl⟩, Nat.zero_le _, fun i h => absurd h (Nat.not_lt_zero _)⟩
  simp only [firstOps, List.mem_cons, List.not_mem_nil, or_false] at hp
  rcases hp with rfl | rfl | rfl | rfl | rfl | rfl | rfl
  · refine ⟨by simp only []; omega, (show (0 : Nat) < 100000000 by decide), fun _ => ⟨w.heap.size, 0, by omega, rfl, ?_⟩, (fun h => by cases h), (show (3 : Nat) ≤ 2000000 by decide), ?_⟩
    · intro i hi
      have hblk : (firstW w).heap[w.heap.size]? = some (.cells #[.string ⟨#[104, 101]⟩, .string ⟨#[115, 104, 101]⟩, .string ⟨#[104, 101, 114, 115]⟩] 9) := by
        unfold firstW
        rw [Below.heap_alloc _ _ w.heap.size (by simp)]
        exact heap_alloc_new w _
      rw [Nat.zero_add, cell_of_blk hblk]
      have : i < 3 := hi
      rcases i with _ | _ | _ | i
      · rfl
      · rfl
      · rfl
      · omega
    · intro i hi
      have : i < 3 := hi
      rcases i with _ | _ | _ | i
      · exact (show (2 : Nat) < 100000000 by decide)
      · exact (show (3 : Nat) < 100000000 by decide)
      · exact (show (4 : Nat) < 100000000 by decide)
      · omega
  all_goals exact hnil _ _ _ _ rfl (by decide)
end Go.Proofs.YtibkhphbilfckaaGreatDoor

namespace Go.Proofs.YtibkhphbilfckaaGreatDoor
open Go.RowKit Scour Go.Lib

/-- The tags ahead of the first step. -/
def tagsZ (n : Nat) : Nat → Nat := fun k => if k < n then 0 else if k = n then 2 else 9

theorem LW.start (w : World) : LW (w.alloc (.cells #[.slice none 0 0, .slice none 0 0, .slice none 0 0, .slice none 0 0, .slice none 0 0] 51)) w.heap.size (tagsZ w.heap.size) [] (.slice none 0 0) (.slice none 0 0) (.slice none 0 0) [] [] (fun _ => 0) := by
  refine ⟨heap_alloc_new w _, ?_, World.ownsRow_nil _ _ _ _, (fun b h => by cases h), (fun e he => absurd he List.not_mem_nil), ⟨World.ownsRow_nil _ _ _ _, (fun b h => by cases h), (fun i s h => by simp at h), rfl, (fun s h => absurd h List.not_mem_nil)⟩, ⟨World.ownsRow_nil _ _ _ _, (fun b h => by cases h), (fun i s h => by simp at h), rfl, (fun s h => absurd h List.not_mem_nil)⟩, (fun k hk => ?_)⟩
  · unfold tagsZ; rw [if_neg (Nat.lt_irrefl _), if_pos rfl]
  · have : w.heap.size + 1 ≤ k := by simpa using hk
    unfold tagsZ; rw [if_neg (by omega), if_neg (by omega)]

theorem fr_to_below {B : Nat} {T : Nat → Nat} {w w' : World} {T' : Nat → Nat} (h : Fr T w w' T') (hB : B ≤ w.heap.size) (h0 : ∀ k, k < B → T k = 0) : Below B w w' :=
  ⟨h.os, h.tape, h.output, h.size, fun k hk => (h.zero k (by omega) (h0 k hk)).1⟩

/-- The steps behind the append. -/
theorem all_ops {w w2 : World} {v : Value} {ops : List OpD} (hO : w2.ownsRow w.heap.size 53 5 v (7 + ops.length) (opsCells (firstOps w.heap.size) ++ opsCells ops)) (hb : Below w.heap.size w w2) (hg : (firstW w).grownBy w2 (some (w.heap.size + 1))) (hok : ∀ p, p ∈ ops → p.OK w w.heap.size) :
    ∃ g cap, v = .slice (some ⟨g, 0, none⟩) (7 + ops.length) cap ∧ AllOps w2 w2.heap.size g (firstOps w.heap.size ++ ops) := by
  rcases hO.2 with ⟨_, h0⟩ | ⟨g, cap, cur, hv, _, hgb, _⟩
  · omega
  · refine ⟨g, cap, hv, ⟨fun i p hp j hj => ?_, fun p hp => ?_, (Array.getElem?_eq_some_iff.1 hgb).1⟩⟩
    · subst hv
      have hil := (List.getElem?_eq_some_iff.1 hp).1
      have hl7 : (firstOps w.heap.size).length = 7 := rfl
      rw [List.length_append, hl7] at hil
      have e1 : opsCells (firstOps w.heap.size) ++ opsCells ops = opsCells (firstOps w.heap.size ++ ops) := by simp [opsCells]
      rw [hO.cellAt (i * 5 + j) (by omega), e1]
      exact opsCells_get _ i p hp j hj
    · have hsz := hb.size
      rcases List.mem_append.1 hp with h | h
      · have h1 := firstW_ok w p h
        have hs := firstW_size w
        have hg2 := hg.size
        have hbl : Below (w.heap.size + 1) (firstW w) w2 := below_of_grown hg (by omega) (fun k hk => by
          have : w.heap.size + 1 = k := by simpa using hk
          omega)
        exact (h1.below hbl (Nat.le_refl _)).up (by omega)
      · exact ((hok p h).below hb (Nat.le_refl _)).up hsz

theorem OpsIn.src {W : World} {ap : Option Addr} {ops : List OpD} (hc : 0 < ops.length → ∃ b o, b < W.heap.size ∧ ap = some ⟨b, o, none⟩ ∧ ∀ i p, ops[i]? = some p → ∀ j, j < 5 → W.cell? ⟨b, o + (i * 5 + j), none⟩ = p.vals[j]?) {W' : World} (hb : Below W.heap.size W W') : ∀ ad, ap = some ad → ∀ j u, (opsCells ops)[j]? = some u → W'.cell? (ad.add j) = some u := by
  intro ad had j u hu
  have hl := (List.getElem?_eq_some_iff.1 hu).1
  rw [opsCells_len] at hl
  obtain ⟨b, o, hbl, e, hcell⟩ := hc (by omega)
  rw [had] at e
  obtain rfl : ad = ⟨b, o, none⟩ := by simpa using e
  have hd : j / 5 < ops.length := by omega
  have hp : ops[j / 5]? = some ops[j / 5] := List.getElem?_eq_getElem hd
  have hj : j / 5 * 5 + j % 5 = j := by omega
  have h1 := hcell (j / 5) _ hp (j % 5) (by omega)
  have h2 := opsCells_get ops (j / 5) _ hp (j % 5) (by omega)
  rw [hj] at h1 h2
  rw [add_addr, hb.cell (p := ⟨b, o + j, none⟩) hbl, h1, ← h2]
  exact hu

/-- Every step of these kinds is answered as it should be. -/
def StepOK (ks : List Int) : Prop := ∀ (bw : Nat) (T : Nat → Nat) (M : List Ent) (vms vby vli : Value) (E F : List Sl) (mb : Nat → Nat) (o : OpD) (w : World), LW w bw T M vms vby vli E F mb → o.OK w w.heap.size → o.k ∈ ks → M.length < 900000000000 → E.length < 900000000000 → F.length < 900000000000 → ErrT w → T 0 = 0 →
    Calls Tryz.prog 18 #[.pointer (some ⟨bw, 0, none⟩), .agg #[.int .i64 o.k, .int .i64 o.a, .int .i64 o.b, .string o.s, .slice o.ap o.ts.length o.cap]] w fun r w' => r = .returned (.bool true) ∧ After bw T M E F w w'

set_option maxHeartbeats 8000000 in
set_option maxRecDepth 100000 in
theorem plays_any (ks : List Int) (hks : ks.length < 1000) (hstep : StepOK ks) (ap : Option Addr) (cap : Nat) (ops : List OpD) (w : World) (hc : 0 < ops.length → ∃ b o, b < w.heap.size ∧ ap = some ⟨b, o, none⟩ ∧ ∀ i p, ops[i]? = some p → ∀ j, j < 5 → w.cell? ⟨b, o + (i * 5 + j), none⟩ = p.vals[j]?) (hok : ∀ p, p ∈ ops → p.OK w w.heap.size) (hlen : ops.length ≤ 1048576) (hnil : ap = none → cap = 0 ∧ ops.length = 0)
    (hET : ErrT w) (bp : Nat) (hbp : bp < w.heap.size) (hpl : ∀ i, i < ks.length → w.cell? ⟨bp, i, none⟩ = some (.int .i64 (ks.getD i 0))) :
    Calls Tryz.prog 8 #[.slice ap ops.length cap, .slice (some ⟨bp, 0, none⟩) ks.length ks.length] w fun e w' => e = .returned (.bool true) ∧ Below w.heap.size w w' := by
  obtain ⟨i0, hi, hz0, hz1, hz2⟩ := info_parts Tryz.infoO
  have HSTEP := hide hstep
  have HET := hide hET
  have hw0 := hET.pos
  clear hstep hET
  have HFI := hide (first_any w)
  have HSR := hide (OpsIn.src hc (firstW_below w))
  have HOK := hide hok
  have HPL := hide hpl
  have HNL : Hid (ap = none → cap = 0 ∧ opsCells ops = []) := hide (fun h => ⟨(hnil h).1, by rw [List.length_eq_zero_iff.1 (hnil h).2]; rfl⟩)
  have HLC := hide (opsCells_len ops)
  have hs1 := firstW_size w
  clear hc hok hpl hnil
  go_enter Tryz.func8, Tryz.ntmps8
  go_wp2_with (first | (go_at_call 16; refine (unhide HFI).mono ?_; rintro e w1 ⟨rfl, hw⟩; have HW1 := hide hw; have HB1 : Hid (Below w.heap.size w w1) := hide (hw ▸ firstW_below w); have hs2 : w1.heap.size = w.heap.size + 2 := (hw ▸ firstW_size w); clear hw) | (at_builtin; refine wpList_append_either rfl (.tmp 13) (.tmp 14) 22 rfl w.heap.size 53 i0 _ 5 64 Tryz.underlying22 hi hz0 hz1 hz2 rfl (by decide) (.slice (some ⟨w.heap.size + 1, 0, none⟩) 7 7) 7 (opsCells (firstOps w.heap.size)) rfl ((unhide HW1) ▸ firstW_row w) ap ops.length cap (opsCells ops) rfl (unhide HNL) (unhide HLC) ((unhide HW1) ▸ unhide HSR) (opsCells_one ops) (by unfold maxLen; omega) (by omega) (by omega) ?_; intro v5 w2 ho2 hg2; have HO2 := hide ho2; have HG2 := hide hg2; clear ho2 hg2))
  have hg2 : (firstW w).grownBy w2 (some (w.heap.size + 1)) := (unhide HW1) ▸ (unhide HG2)
  have hb2 : Below w.heap.size w w2 := (firstW_below w).trans (below_of_grown hg2 (by omega) (fun k hk => by
    have : w.heap.size + 1 = k := by simpa using hk
    omega))
  obtain ⟨g, cap2, rfl, hall⟩ := all_ops (unhide HO2) hb2 hg2 (unhide HOK)
  have hsz2 := hb2.size
  have hl7 : (firstOps w.heap.size ++ ops).length = 7 + ops.length := by rw [List.length_append]; rfl
  generalize firstOps w.heap.size ++ ops = al at hall hl7
  have hb23 : Below w2.heap.size w2 (w2.alloc (.cells #[.slice none 0 0, .slice none 0 0, .slice none 0 0, .slice none 0 0, .slice none 0 0] 51)) := (Below.refl _ _).alloc (Nat.le_refl _) _
  have HAL := hide (hall.below hb23)
  have HLW := hide (LW.start w2)
  have HB := hide (hb2.trans (hb23.mono hsz2))
  have HZ : Hid (∀ k, k < w2.heap.size → tagsZ w2.heap.size k = 0) := hide (fun k hk => by unfold tagsZ; rw [if_pos hk])
  have hs3 : w2.heap.size ≤ (w2.alloc (.cells #[.slice none 0 0, .slice none 0 0, .slice none 0 0, .slice none 0 0, .slice none 0 0] 51)).heap.size := hb23.size
  have HE3 := hide ((unhide HET).below (unhide HB))
  clear hall hg2 hb2 HO2 HG2 HW1 HB1 hs2 HFI HSR HOK HNL HLC hs1 hb23
  generalize tagsZ w2.heap.size = T0 at HLW HZ
  generalize w2.alloc (.cells #[.slice none 0 0, .slice none 0 0, .slice none 0 0, .slice none 0 0, .slice none 0 0] 51) = w3 at *
  generalize w2.heap.size = bw at *
  clear w2 w1
  go_loopw [7] (fun v wr => ∃ (k : Nat) (T : Nat → Nat) (M : List Ent) (vms vby vli : Value) (E F : List Sl) (mb : Nat → Nat), v = .int .i64 k ∧ k ≤ 7 + ops.length ∧ M.length ≤ k ∧ E.length ≤ 256 * k ∧ F.length ≤ 4 * k ∧ Hid (LW wr bw T M vms vby vli E F mb) ∧ Hid (Fr T0 w3 wr T)) (fun v _ => 7 + ops.length - (intOf v).toNat)
  case atStart => exact ⟨0, T0, [], _, _, _, [], [], _, rfl, Nat.zero_le _, Nat.le_refl _, by simp, by simp, HLW, hide (Fr.refl _ _)⟩
  case round =>
    obtain ⟨k, T, M, vms, vby, vli, E, F, mb, rfl, hk, hMl, hEl, hFl, HW, HFR⟩ := hrel
    by_cases hlt : k < 7 + ops.length
    · obtain ⟨o, ho⟩ : ∃ o, al[k]? = some o := ⟨_, List.getElem?_eq_getElem (by omega)⟩
      have hbw := fr_to_below (unhide HFR) hs3 (unhide HZ)
      have hal := (unhide HAL).below hbw
      have c0 := hal.cell k o ho 0 (by omega)
      have c1 := hal.cell k o ho 1 (by omega)
      have c2 := hal.cell k o ho 2 (by omega)
      have c3 := hal.cell k o ho 3 (by omega)
      have c4 := hal.cell k o ho 4 (by omega)
      simp [OpD.vals] at c0 c1 c2 c3 c4
      have HO := hide ((hal.ok o (List.mem_of_getElem? ho)))
      have hszr := hbw.size
      have hz0' := (unhide HFR).zero 0 (Nat.lt_of_lt_of_le (by omega) hs3) (unhide HZ 0 (by omega))
      have HER : Hid (ErrT wr) := hide ((unhide HE3).same hz0'.1)
      have HT0 : Hid (T 0 = 0) := hide hz0'.2
      clear hz0'
      have i1 : (k : Int) < (7 : Int) + (ops.length : Int) := by omega
      have i2 : (0 : Int) ≤ (k : Int) := by omega
      have i3 : (k : Int) < 288230376151711744 := by omega
      have hbo : ∀ ob, Below wr.heap.size wr (wr.alloc ob) := fun ob => (Below.refl _ _).alloc (Nat.le_refl _) _
      have HAM : Hid (∀ ob, Calls Tryz.prog 17 #[.slice (some ⟨bp, 0, none⟩) ks.length ks.length, .int .i64 o.k] (wr.alloc ob) fun e w' => e = .returned (.bool (decide (o.k ∈ ks))) ∧ w' = wr.alloc ob) := hide (fun ob => among_any bp ks.length ks o.k (wr.alloc ob) hks (fun i h4 => by
        rw [(hbo ob).cell (p := ⟨bp, i, none⟩) (by simp only []; omega), hbw.cell (p := ⟨bp, i, none⟩) (by simp only []; omega), (unhide HB).cell (p := ⟨bp, i, none⟩) hbp]
        exact unhide HPL i h4))
      by_cases hin : o.k ∈ ks
      · have HST : Hid (∀ ob, Calls Tryz.prog 18 #[.pointer (some ⟨bw, 0, none⟩), .agg #[.int .i64 o.k, .int .i64 o.a, .int .i64 o.b, .string o.s, .slice o.ap o.ts.length o.cap]] (wr.alloc ob) fun r w' => r = .returned (.bool true) ∧ After bw T M E F (wr.alloc ob) w') := hide (fun ob => unhide HSTEP bw T M vms vby vli E F mb o (wr.alloc ob) ((unhide HW).below (hbo ob)) (((unhide HO).below (hbo ob) (by omega)).up (Nat.le_trans (by omega) (hbo ob).size)) hin (by omega) (by omega) (by omega) ((unhide HER).below (hbo ob)) (unhide HT0))
        have HLK : Hid (∀ ob w4, After bw T M E F (wr.alloc ob) w4 → Calls Tryz.prog 19 #[.pointer (some ⟨bw, 2, none⟩)] w4 fun e w' => e = .returned (.bool true) ∧ ∃ (T' : Nat → Nat) (M' : List Ent) (vms' vby' vli' : Value) (E' F' : List Sl) (mb' : Nat → Nat), M'.length ≤ k + 1 ∧ E'.length ≤ 256 * (k + 1) ∧ F'.length ≤ 4 * (k + 1) ∧ LW w' bw T' M' vms' vby' vli' E' F' mb' ∧ Fr T0 w3 w' T') := hide (fun ob w4 hA => by
          obtain ⟨T', M', vms', vby', vli', E', F', mb', k1, k2, k3, k4, k5⟩ := hA
          refine (looks_any bw T' M' vms' vby' vli' E' F' mb' w4 k1 (by omega) (by omega)).mono ?_
          rintro e w5 ⟨rfl, hb5⟩
          exact ⟨rfl, T', M', vms', vby', vli', E', F', mb', by omega, by omega, by omega, k1.below hb5, (((unhide HFR).trans (fr_below (hbo ob))).trans k2).trans (fr_below hb5)⟩)
        rw [decide_eq_true hin] at HAM
        clear hal hbw ho hin hbo HO
        go_wp2_with (first | (go_at_call 17; refine (unhide HAM _).mono ?_; rintro e w' ⟨rfl, hw⟩; have hw' := hw.symm; clear hw; subst hw') | (go_at_call 18; refine (unhide HST _).mono ?_; rintro e w4 ⟨rfl, hA⟩; have HLK2 := hide (unhide HLK _ w4 hA); clear hA) | (go_at_call 19; refine (unhide HLK2).mono ?_; rintro e w5 ⟨rfl, T', M', vms', vby', vli', E', F', mb', k3, k4, k5, k1, k2⟩; have HK1 := hide k1; have HK2 := hide k2; clear k1 k2))
        go_roundw
        case rel => exact ⟨k + 1, T', M', vms', vby', vli', E', F', mb', by go_num, hlt, k3, k4, k5, HK1, HK2⟩
        case measure => simp [intOf]; omega
      · have HN : Hid (∀ ob, LW (wr.alloc ob) bw T M vms vby vli E F mb ∧ Fr T0 w3 (wr.alloc ob) T) := hide (fun ob => ⟨(unhide HW).below (hbo ob), (unhide HFR).trans (fr_below (hbo ob))⟩)
        rw [decide_eq_false hin] at HAM
        clear hal hbw ho hin hbo HO
        go_wp2_with (go_at_call 17; refine (unhide HAM _).mono ?_; rintro e w' ⟨rfl, hw⟩; have hw' := hw.symm; clear hw; subst hw')
        go_roundw
        case rel => exact ⟨k + 1, T, M, vms, vby, vli, E, F, mb, by go_num, hlt, by omega, by omega, by omega, hide (unhide HN _).1, hide (unhide HN _).2⟩
        case measure => simp [intOf]; omega
    · obtain rfl : k = 7 + ops.length := by omega
      have HAP := hide (apart_any bw T M vms vby vli E F mb wr (unhide HW) (by omega))
      have i1 : ¬ ((7 + ops.length : Nat) : Int) < (7 : Int) + (ops.length : Int) := by omega
      go_wp2_with (go_at_call 20; refine (unhide HAP).mono ?_; rintro e w5 ⟨rfl, hW5, hf5⟩; have HF5 := hide ((unhide HFR).trans hf5); clear hW5 hf5)
      go_ret
      exact ⟨rfl, (unhide HB).trans ((fr_to_below (unhide HF5) hs3 (unhide HZ)).mono (by omega))⟩
end Go.Proofs.YtibkhphbilfckaaGreatDoor
