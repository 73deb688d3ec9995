import Derived.Test.YthbbhpbkoankhaaGreatNextW
import Derived.Deep.AppendLies
namespace Go.Proofs.YthbbhpbkoankhaaGreat
open Go.RowKit Scour

theorem grown_trans {a b c : World} {r : Option Nat} (h : a.grownBy b r) (k : b.grownBy c r) : a.grownBy c r :=
  ⟨k.os.trans h.os, k.tape.trans h.tape, k.output.trans h.output, Nat.le_trans h.size k.size, fun i hi hne => (k.block i (Nat.lt_of_lt_of_le hi h.size) hne).trans (h.block i hi hne)⟩

theorem grown_of_below {w w' : World} (h : Below w.heap.size w w') (r : Option Nat) : w.grownBy w' r := ⟨h.os, h.tape, h.output, h.size, fun k hk _ => h.block k hk⟩

theorem below_of_grown {B : Nat} {w w' : World} {r : Option Nat} (h : w.grownBy w' r) (hB : B ≤ w.heap.size) (hr : ∀ k, r = some k → B ≤ k) : Below B w w' := (Below.refl B w).grown h hB hr

/-- The cells of n states. -/
def cellsF (par lst fl : Nat → Int) (n : Nat) : List Value := (List.range n).flatMap fun i => [.int .i64 (par i), .int .u8 (lst i), .int .i64 (fl i)]

theorem cellsF_succ (par lst fl : Nat → Int) (n : Nat) : cellsF par lst fl (n + 1) = cellsF par lst fl n ++ [.int .i64 (par n), .int .u8 (lst n), .int .i64 (fl n)] := by
  unfold cellsF; rw [List.range_succ, List.flatMap_append]; simp

theorem cellsF_length (par lst fl : Nat → Int) (n : Nat) : (cellsF par lst fl n).length = n * 3 := by
  induction n with
  | zero => rfl
  | succ n ih => rw [cellsF_succ, List.length_append, ih]; simp; omega

theorem cellsF_get (par lst fl : Nat → Int) (n : Nat) (i : Nat) (hi : i < n) :
    (cellsF par lst fl n)[i * 3]? = some (.int .i64 (par i)) ∧ (cellsF par lst fl n)[i * 3 + 1]? = some (.int .u8 (lst i)) ∧ (cellsF par lst fl n)[i * 3 + 2]? = some (.int .i64 (fl i)) := by
  induction n with
  | zero => omega
  | succ n ih =>
    rw [cellsF_succ]
    have hl := cellsF_length par lst fl n
    by_cases h : i < n
    · obtain ⟨a, b, c⟩ := ih h
      refine ⟨?_, ?_, ?_⟩ <;> rw [List.getElem?_append_left (by omega)] <;> assumption
    · have : i = n := by omega
      subst this
      refine ⟨?_, ?_, ?_⟩ <;> rw [List.getElem?_append_right (by omega), hl] <;> simp

theorem cellsF_congr {par lst fl par' lst' fl' : Nat → Int} {n : Nat} (h : ∀ i, i < n → par i = par' i ∧ lst i = lst' i ∧ fl i = fl' i) : cellsF par lst fl n = cellsF par' lst' fl' n := by
  induction n with
  | zero => rfl
  | succ n ih =>
    rw [cellsF_succ, cellsF_succ, ih (fun i hi => h i (by omega)), (h n (by omega)).1, (h n (by omega)).2.1, (h n (by omega)).2.2]

/-- A function, but at one place. -/
def upd (f : Nat → Int) (i : Nat) (x : Int) : Nat → Int := fun k => if k = i then x else f k

theorem cellsF_set (par lst fl : Nat → Int) (n i : Nat) (x : Int) (hi : i < n) : (cellsF par lst fl n).set (i * 3 + 2) (.int .i64 x) = cellsF par lst (upd fl i x) n := by
  induction n with
  | zero => omega
  | succ n ih =>
    rw [cellsF_succ, cellsF_succ]
    have hl := cellsF_length par lst fl n
    by_cases h : i < n
    · rw [List.set_append_left _ _ (by omega), ih h]
      have : upd fl i x n = fl n := by unfold upd; rw [if_neg (by omega)]
      rw [this]
    · have : i = n := by omega
      subst this
      rw [List.set_append_right _ _ (by omega), hl]
      have e : cellsF par lst (upd fl i x) i = cellsF par lst fl i := cellsF_congr fun k hk => ⟨rfl, rfl, by unfold upd; rw [if_neg (by omega)]⟩
      rw [e]
      have : i * 3 + 2 - i * 3 = 2 := by omega
      rw [this]
      simp [upd]

theorem sts_of_owns {w : World} {base e g n cap : Nat} {par lst fl : Nat → Int} (h : w.ownsRow base e 3 (.slice (some ⟨g, 0, none⟩) n cap) n (cellsF par lst fl n)) : Sts w g n par lst fl := fun i hi => by
  obtain ⟨a, b, c⟩ := cellsF_get par lst fl n i hi
  exact ⟨(h.cellAt _ (by omega)).trans a, (h.cellAt _ (by omega)).trans b, (h.cellAt _ (by omega)).trans c⟩

theorem owns_lt {w : World} {base e s g n cap : Nat} {xs : List Value} (h : w.ownsRow base e s (.slice (some ⟨g, 0, none⟩) n cap) n xs) (hn : 0 < n) : base ≤ g ∧ g < w.heap.size ∧ n ≤ cap := by
  rcases h.2 with ⟨hv, h0⟩ | ⟨g', cap', cur, hv, hb, hg, hc, _⟩
  · omega
  · simp only [Value.slice.injEq, Option.some.injEq, Addr.mk.injEq, and_true, true_and] at hv
    obtain ⟨rfl, rfl⟩ := hv
    exact ⟨hb, (Array.getElem?_eq_some_iff.1 hg).1, hc⟩

theorem set_far {w : World} {b o b' o' : Nat} {v : Value} (h : b ≠ b' ∨ o ≠ o') : (w.setCell ⟨b, o, none⟩ v).cell? ⟨b', o', none⟩ = w.cell? ⟨b', o', none⟩ :=
  World.cell?_setCell_other w _ _ v (fun e => by simp only [Addr.mk.injEq, and_true] at e; omega)

/-- A block that is known whole: a cell of it. -/
theorem cell_of_blk {w : World} {b t : Nat} {cs : Array Value} {fr : Nat × Nat} (h : w.heap[b]? = some (.cells cs t fr)) (j : Nat) : w.cell? ⟨b, j, none⟩ = cs[j]? := cell_of_row w b j cs t fr h

end Go.Proofs.YthbbhpbkoankhaaGreat
