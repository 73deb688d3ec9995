import Derived.Test.YthbbhpbkoankhaaGreatFails
namespace Go.Proofs.YthbbhpbkoankhaaGreat
open Go.RowKit Scour

/-- The i-th pattern. -/
def pat (ps : List Str) (i : Nat) : Str := ps.getD i []

/-- Bytes that lie in memory below block B: a list's address, and its length. -/
def BytesIn (w : World) (B : Nat) (ao : Option Addr) (s : Str) : Prop :=
  0 < s.length → ∃ b o, b < B ∧ ao = some ⟨b, o, none⟩ ∧ ∀ j, j < s.length → w.cell? ⟨b, o + j, none⟩ = some (.int .u8 (s.getD j 0).toNat)

/-- Patterns that lie in memory below block B. -/
def PatsIn (w : World) (B : Nat) (ap : Option Addr) (ps : List Str) : Prop :=
  0 < ps.length → ∃ bp op, bp < B ∧ ap = some ⟨bp, op, none⟩ ∧ ∀ i, i < ps.length → ∃ ao c, w.cell? ⟨bp, op + i, none⟩ = some (.slice ao (pat ps i).length c) ∧ BytesIn w B ao (pat ps i)

theorem BytesIn.below {w w' : World} {B B' : Nat} {ao : Option Addr} {s : Str} (h : BytesIn w B ao s) (hb : Below B' w w') (hB : B ≤ B') : BytesIn w' B ao s := fun h0 => by
  obtain ⟨b, o, h1, h2, h3⟩ := h h0
  exact ⟨b, o, h1, h2, fun j hj => (hb.cell (p := ⟨b, o + j, none⟩) (by show b < B'; omega)).trans (h3 j hj)⟩

theorem PatsIn.below {w w' : World} {B B' : Nat} {ap : Option Addr} {ps : List Str} (h : PatsIn w B ap ps) (hb : Below B' w w') (hB : B ≤ B') : PatsIn w' B ap ps := fun h0 => by
  obtain ⟨bp, op, h1, h2, h3⟩ := h h0
  refine ⟨bp, op, h1, h2, fun i hi => ?_⟩
  obtain ⟨ao, c, h4, h5⟩ := h3 i hi
  exact ⟨ao, c, (hb.cell (p := ⟨bp, op + i, none⟩) (by show bp < B'; omega)).trans h4, h5.below hb hB⟩

/-- Nothing that was there has turned, but for the blocks of M. -/
structure Keeps (M : List Nat) (w w' : World) : Prop where
  os : w'.os = w.os
  tape : w'.tape = w.tape
  output : w'.output = w.output
  size : w.heap.size ≤ w'.heap.size
  block : ∀ k, k < w.heap.size → k ∉ M → w'.heap[k]? = w.heap[k]?

theorem Keeps.refl (M : List Nat) (w : World) : Keeps M w w := ⟨rfl, rfl, rfl, Nat.le_refl _, fun _ _ _ => rfl⟩
theorem Keeps.grown {M : List Nat} {w a b : World} {r : Option Nat} (h : Keeps M w a) (k : a.grownBy b r) (hr : ∀ x, r = some x → x ∈ M ∨ w.heap.size ≤ x) : Keeps M w b :=
  ⟨k.os.trans h.os, k.tape.trans h.tape, k.output.trans h.output, Nat.le_trans h.size k.size, fun i hi hm => (k.block i (Nat.lt_of_lt_of_le hi h.size) (fun e => by
    rcases hr i e.symm with g | g
    · exact hm g
    · omega)).trans (h.block i hi hm)⟩
theorem Keeps.trans {M : List Nat} {w a b : World} (h : Keeps M w a) (k : Keeps M a b) : Keeps M w b :=
  ⟨k.os.trans h.os, k.tape.trans h.tape, k.output.trans h.output, Nat.le_trans h.size k.size, fun i hi hm => (k.block i (Nat.lt_of_lt_of_le hi h.size) hm).trans (h.block i hi hm)⟩
theorem Keeps.below {M : List Nat} {w a : World} (h : Keeps M w a) {B : Nat} (hB : B ≤ w.heap.size) (hM : ∀ x ∈ M, B ≤ x) : Below B w a :=
  ⟨h.os, h.tape, h.output, h.size, fun k hk => h.block k (by omega) (fun hm => by have := hM k hm; omega)⟩
theorem keeps_of_below {w w' : World} (h : Below w.heap.size w w') (M : List Nat) : Keeps M w w' := ⟨h.os, h.tape, h.output, h.size, fun k hk _ => h.block k hk⟩

/-- The cells of m numbers. -/
def intsF (E : Nat → Int) (m : Nat) : List Value := (List.range m).map fun i => .int .i64 (E i)
theorem intsF_length (E : Nat → Int) (m : Nat) : (intsF E m).length = m := by simp [intsF]
theorem intsF_get (E : Nat → Int) (m i : Nat) (h : i < m) : (intsF E m)[i]? = some (.int .i64 (E i)) := by simp [intsF, h]
theorem intsF_set (E : Nat → Int) (m i : Nat) (x : Int) : (intsF E m).set i (.int .i64 x) = intsF (upd E i x) m := by
  apply List.ext_getElem?
  intro j
  rw [List.getElem?_set]
  by_cases hj : j < m
  · rw [intsF_get _ _ _ hj, intsF_get _ _ _ hj, intsF_length]
    by_cases h : i = j
    · subst h; simp [upd, hj]
    · rw [if_neg h]; unfold upd; rw [if_neg (fun e => h e.symm)]
  · rw [List.getElem?_eq_none (by rw [intsF_length]; omega), List.getElem?_eq_none (by rw [intsF_length]; omega)]
    split
    · split
      · rename_i h1 h2; rw [intsF_length] at h2; omega
      · rfl
    · rfl

theorem take_snoc (s : Str) (l : Nat) (h : l < s.length) : s.take (l + 1) = s.take l ++ [s.getD l 0] := by
  rw [List.take_succ_eq_append_getElem h]; simp [List.getD, h]

/-! ### One level more -/
/-- States with one more, if it isn't the newest. -/
def push (S : List Str) (x : Str) : List Str := if S.getLast? = some x then S else S ++ [x]

/-- The states behind j patterns of a level. -/
def lev (ps : List Str) (os : List Nat) (L : Nat) (S : List Str) : Nat → List Str
  | 0 => S
  | j + 1 => push (lev ps os L S j) ((pat ps (os.getD j 0)).take L)

/-- The numbers of the patterns' beginnings, behind j patterns of a level. -/
def endsTo (ps : List Str) (os : List Nat) (L : Nat) (S : List Str) (E : Nat → Int) : Nat → Nat → Int
  | 0 => E
  | j + 1 => upd (endsTo ps os L S E j) (os.getD j 0) ((lev ps os L S (j + 1)).length - 1 : Nat)

theorem lev_pos {ps : List Str} {os : List Nat} {L : Nat} {S : List Str} (h : 0 < S.length) (j : Nat) : 0 < (lev ps os L S j).length := by
  induction j with
  | zero => exact h
  | succ j ih => unfold lev push; split <;> simp [ih]

theorem lev_len {ps : List Str} {os : List Nat} {L : Nat} {S : List Str} (j : Nat) : (lev ps os L S j).length ≤ S.length + j := by
  induction j with
  | zero => exact Nat.le_refl _
  | succ j ih =>
    unfold lev push
    split
    · omega
    · simp; omega

theorem endsTo_same {ps : List Str} {os : List Nat} {L : Nat} {S : List Str} {E : Nat → Int} (hnd : os.Nodup) (j : Nat) (hj : j < os.length) : ∀ i, i ≤ j → endsTo ps os L S E i (os.getD j 0) = E (os.getD j 0) := by
  intro i
  induction i with
  | zero => intro _; rfl
  | succ i ih =>
    intro hi
    unfold endsTo upd
    rw [if_neg ?_, ih (by omega)]
    intro e
    have h1 : os.getD j 0 = os[j] := by simp [List.getD, hj]
    have h2 : os.getD i 0 = os[i] := by simp [List.getD, show i < os.length by omega]
    rw [h1, h2] at e
    exact List.pairwise_iff_getElem.1 hnd i j (by omega) hj (by omega) e.symm

theorem push_last {S : List Str} {x : Str} (h : 0 < S.length) : S.getLast? = some x ↔ at' S (S.length - 1) = x := by
  rw [List.getLast?_eq_getElem?]
  unfold at'
  have : S.length - 1 < S.length := by omega
  simp [List.getD, this]

theorem at_append_left {S T : List Str} {i : Nat} (h : i < S.length) : at' (S ++ T) i = at' S i := by
  unfold at'; simp [List.getD, List.getElem?_append_left h]
theorem at_append_new {S : List Str} {x : Str} : at' (S ++ [x]) S.length = x := by
  unfold at'; simp [List.getD]

theorem push_new {S : List Str} {x : Str} (h : S.getLast? ≠ some x) : push S x = S ++ [x] := if_neg h
theorem push_same {S : List Str} {x : Str} (h : S.getLast? = some x) : push S x = S := if_pos h
theorem push_at {S : List Str} {x : Str} {i : Nat} (h : i < S.length) : at' (push S x) i = at' S i := by
  unfold push; split
  · rfl
  · exact at_append_left h
theorem lev_ge {ps : List Str} {os : List Nat} {L : Nat} {S : List Str} (j : Nat) : S.length ≤ (lev ps os L S j).length := by
  induction j with
  | zero => exact Nat.le_refl _
  | succ j ih =>
    unfold lev push
    split
    · exact ih
    · simp; omega
theorem lev_at {ps : List Str} {os : List Nat} {L : Nat} {S : List Str} {j i : Nat} (h : i < S.length) : at' (lev ps os L S j) i = at' S i := by
  induction j with
  | zero => rfl
  | succ j ih => unfold lev; rw [push_at (Nat.lt_of_lt_of_le h (lev_ge j)), ih]

theorem Rep.push {S : List Str} {par lst : Nat → Int} (h : Rep S par lst) {p : Nat} {c : UInt8} {x : Str} (hp : p < S.length) (hx : x = at' S p ++ [c]) (hs : (S ++ [x]).Pairwise slt) :
    Rep (S ++ [x]) (upd par S.length p) (upd lst S.length c.toNat) where
  pos := by simp
  head := by rw [at_append_left h.pos]; exact h.head
  sorted := hs
  kids := by
    intro i h0 hi
    simp only [List.length_append, List.length_cons, List.length_nil] at hi
    by_cases e : i = S.length
    · subst e
      exact ⟨p, c, by simp [upd], hp, by simp [upd], by rw [at_append_new, at_append_left hp, hx]⟩
    · have hi' : i < S.length := by omega
      obtain ⟨q, d, e1, hq, e2, e3⟩ := h.kids i h0 hi'
      exact ⟨q, d, by unfold upd; rw [if_neg e, e1], hq, by unfold upd; rw [if_neg e, e2], by rw [at_append_left hi', at_append_left (by omega), e3]⟩

/-- Is the newest state the one that is sought? -/
theorem Rep.newest {S : List Str} {par lst : Nat → Int} (h : Rep S par lst) {p : Nat} {c : UInt8} {x : Str} (hp : p < S.length) (hx : x = at' S p ++ [c]) (hl : 1 < S.length) :
    cmpS (par (S.length - 1)) (lst (S.length - 1)) p c.toNat = 0 ↔ S.getLast? = some x := by
  obtain ⟨q, d, e1, hq, e2, e3⟩ := h.kids (S.length - 1) (by omega) (by omega)
  rw [push_last h.pos, cmpS_zero, e1, e2, e3, hx, u8e]
  constructor
  · rintro ⟨g, rfl⟩; rw [show q = p by omega]
  · intro g
    have := List.append_inj' g rfl
    exact ⟨by rw [at_inj h.sorted (by omega) hp this.1], by simpa using this.2⟩

theorem Rep.newest_root {S : List Str} {par lst : Nat → Int} (h : Rep S par lst) {p : Nat} {c : UInt8} {x : Str} (hx : x = at' S p ++ [c]) (hl : S.length = 1) : S.getLast? ≠ some x := by
  rw [Ne, push_last h.pos, hl, h.head, hx]
  simp
end Go.Proofs.YthbbhpbkoankhaaGreat
