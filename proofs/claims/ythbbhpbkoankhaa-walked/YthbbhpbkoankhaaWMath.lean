import Derived.Test.YthbbhpbkoankhaaKeepPats
namespace Go.Proofs.Ythbbhpbkoankhaa
open Scour

theorem chkFrom_small : ∀ (r : List Str) (i t : Nat), (∀ p ∈ r, 0 < p.length ∧ p.length ≤ 32) → t + 32 * r.length ≤ 512 → (chkFrom r i t).1 = 0
  | [], i, t, _, h => by unfold chkFrom; rw [if_neg (by simp at h; omega)]
  | p :: r, i, t, hp, h => by
    have h1 := hp p List.mem_cons_self
    unfold chkFrom
    rw [if_neg (by omega), if_neg (by omega)]
    exact chkFrom_small r (i + 1) (t + p.length) (fun q hq => hp q (List.mem_cons_of_mem _ hq)) (by simp at h; omega)

theorem fixS_len (s : ByteArray) : 0 < (fixS s).length ∧ (fixS s).length ≤ 32 := by
  unfold fixS
  by_cases h : s.size = 0
  · rw [if_pos h]; simp
  · rw [if_neg h, List.length_take]
    have := size_list s
    omega

theorem keepP_mem {ss : List ByteArray} {len : Nat} {p : Str} (h : p ∈ keepP ss len) : 0 < p.length ∧ p.length ≤ 32 := by
  unfold keepP at h
  obtain ⟨s, _, rfl⟩ := List.mem_map.1 h
  exact fixS_len s

theorem keepP_le (ss : List ByteArray) (len : Nat) : (keepP ss len).length ≤ 16 := by unfold keepP; simp; omega

theorem keepP_pat {ss : List ByteArray} {len i : Nat} (h : i < (keepP ss len).length) : 0 < (pat (keepP ss len) i).length ∧ (pat (keepP ss len) i).length ≤ 32 :=
  keepP_mem (ss := ss) (len := len) (by simp [pat, List.getD, h])

theorem keepP_chk (ss : List ByteArray) (len : Nat) : (chk (keepP ss len)).1 = 0 := by
  have := keepP_le ss len
  unfold chk
  rw [if_neg (by omega)]
  exact chkFrom_small _ 0 0 (fun p hp => keepP_mem hp) (by omega)

theorem lsuf_far (S : List Str) (t : Str) (h : ∀ y ∈ S, y.length ≤ t.length) : ∀ x : Str, lsuf S (x ++ t) = lsuf S t
  | [] => rfl
  | c :: x => by
    rw [List.cons_append, lsuf, if_neg (fun g => by have := h _ g; simp at this; omega)]
    exact lsuf_far S t h x

theorem walk_lsuf {S : List Str} {par lst : Nat → Int} (h : Rep S par lst) (i : Nat) (hi : i < S.length) : ∀ (n : Nat) (l : Str), l.length = n → walkN S i l = S.idxOf (lsuf S (at' S i ++ l))
  | 0, l, hl => by
    obtain rfl := List.length_eq_zero_iff.1 hl
    rw [List.append_nil, lsuf_of_mem S _ (at_mem hi), idx_at h.sorted hi]
    rfl
  | n + 1, l, hl => by
    have hne : l ≠ [] := by rintro rfl; simp at hl
    have e := List.dropLast_concat_getLast hne
    generalize l.dropLast = l' at e
    generalize l.getLast hne = c at e
    subst e
    rw [walkN_snoc, walk_lsuf h i hi n l' (by simpa using hl)]
    unfold nextN
    rw [at_idx (lsuf_mem S h.nil_mem _), ← List.append_assoc, lsuf_snoc S h.closed c (at' S i ++ l')]

/-- A state's own bytes lead to it. -/
theorem walk_to {S : List Str} {par lst : Nat → Int} (h : Rep S par lst) {x : Str} (hx : x ∈ S) : walkN S 0 x = S.idxOf x := by
  rw [walk_lsuf h 0 h.pos _ x rfl, h.head, List.nil_append, lsuf_of_mem S x hx]

theorem walk_same {S : List Str} {par lst : Nat → Int} (h : Rep S par lst) (i : Nat) (hi : i < S.length) (t : Str) (hl : ∀ y ∈ S, y.length ≤ t.length) : walkN S i t = walkN S 0 t := by
  rw [walk_lsuf h i hi _ t rfl, walk_lsuf h 0 h.pos _ t rfl, lsuf_far S t hl, lsuf_far S t hl]

theorem idx_pos {S : List Str} {par lst : Nat → Int} (h : Rep S par lst) {x : Str} (hx : x ∈ S) (h0 : 0 < x.length) : 0 < S.idxOf x := by
  rcases Nat.eq_zero_or_pos (S.idxOf x) with e | e
  · have := at_idx hx; rw [e, h.head] at this; rw [← this] at h0; simp at h0
  · exact e

/-- The sum of the first k patterns' lengths, and one. -/
def mostK (ps : List Str) : Nat → Nat
  | 0 => 1
  | k + 1 => mostK ps k + (pat ps k).length

/-- All beginnings. -/
def begins (ps : List Str) : Nat → List Str
  | 0 => [[]]
  | k + 1 => begins ps k ++ (List.range (pat ps k).length).map fun j => (pat ps k).take (j + 1)

theorem begins_len (ps : List Str) (k : Nat) : (begins ps k).length = mostK ps k := by
  induction k with
  | zero => rfl
  | succ k ih => simp [begins, mostK, ih]

theorem begins_nil (ps : List Str) (k : Nat) : [] ∈ begins ps k := by
  induction k with
  | zero => simp [begins]
  | succ k ih => simp [begins, ih]

theorem begins_mem (ps : List Str) (k i n : Nat) (hi : i < k) (h1 : 1 ≤ n) (h2 : n ≤ (pat ps i).length) : (pat ps i).take n ∈ begins ps k := by
  induction k with
  | zero => omega
  | succ k ih =>
    unfold begins
    rw [List.mem_append]
    by_cases e : i = k
    · subst e
      right
      exact List.mem_map.2 ⟨n - 1, by simp; omega, by rw [show n - 1 + 1 = n by omega]⟩
    · exact Or.inl (ih (by omega))

theorem states_le {ps S : List Str} {E : Nat → Int} {par lst : Nat → Int} (h : StatesOf ps S E) (hR : Rep S par lst) : S.length ≤ mostK ps ps.length := by
  rw [← begins_len]
  refine nodup_le S _ ?_ ?_
  · exact hR.sorted.imp (fun hab e => by subst e; exact slt_irrefl _ hab)
  · intro x hx
    rcases (h.mem x).1 hx with e | ⟨i, h1, h2, h3, h4⟩
    · rw [e]; exact begins_nil _ _
    · rw [h4]; exact begins_mem ps ps.length i x.length h1 h2 h3

theorem mostK_le {ps : List Str} {m : Nat} (h : ∀ i, i < ps.length → (pat ps i).length ≤ m) : ∀ k, k ≤ ps.length → mostK ps k ≤ 1 + m * k
  | 0, _ => by simp [mostK]
  | k + 1, hk => by
    have := mostK_le h k (by omega)
    have := h k (by omega)
    rw [mostK, Nat.mul_succ]
    omega
end Go.Proofs.Ythbbhpbkoankhaa
