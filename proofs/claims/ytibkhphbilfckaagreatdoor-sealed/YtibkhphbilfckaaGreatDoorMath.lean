
namespace Scour

abbrev Str := List UInt8

/-- Byte by byte the lesser (of two of one length). -/
def blt : Str → Str → Bool
  | a :: as, b :: bs => if a < b then true else if b < a then false else blt as bs
  | [], _ :: _ => true
  | _, [] => false

/-- The shorter ahead of the longer; of one length byte by byte. -/
def slt (a b : Str) : Prop := a.length < b.length ∨ (a.length = b.length ∧ blt a b = true)

theorem u8_lt_irrefl (a : UInt8) : ¬ a < a := UInt8.lt_irrefl a
theorem u8_lt_asymm {a b : UInt8} (h : a < b) : ¬ b < a := UInt8.lt_asymm h
theorem u8_tri (a b : UInt8) : a < b ∨ a = b ∨ b < a := by
  rcases Nat.lt_trichotomy a.toNat b.toNat with h | h | h
  · exact Or.inl (UInt8.lt_iff_toNat_lt.2 h)
  · exact Or.inr (Or.inl (UInt8.toNat_inj.1 h))
  · exact Or.inr (Or.inr (UInt8.lt_iff_toNat_lt.2 h))

theorem blt_irrefl : ∀ a : Str, blt a a = false
  | [] => rfl
  | a :: as => by simp [blt, blt_irrefl as]

theorem blt_trans : ∀ {a b c : Str}, blt a b = true → blt b c = true → blt a c = true
  | [], [], _, h, _ => by simp [blt] at h
  | [], _ :: _, [], _, h => by simp [blt] at h
  | [], _ :: _, _ :: _, _, _ => rfl
  | _ :: _, [], _, h, _ => by simp [blt] at h
  | _ :: _, _ :: _, [], _, h => by simp [blt] at h
  | a :: as, b :: bs, c :: cs, h1, h2 => by
    unfold blt at h1 h2 ⊢
    rcases u8_tri a b with h | h | h
    · rcases u8_tri b c with g | g | g
      · rw [if_pos (UInt8.lt_trans h g)]
      · subst g; rw [if_pos h]
      · simp [u8_lt_asymm g, g] at h2
    · subst h
      simp only [u8_lt_irrefl, if_false] at h1
      rcases u8_tri a c with g | g | g
      · rw [if_pos g]
      · subst g
        simp only [u8_lt_irrefl, if_false] at h2 ⊢
        exact blt_trans h1 h2
      · simp [u8_lt_asymm g, g] at h2
    · simp [u8_lt_asymm h, h] at h1

theorem blt_tri : ∀ a b : Str, a.length = b.length → blt a b = true ∨ a = b ∨ blt b a = true
  | [], [], _ => Or.inr (Or.inl rfl)
  | [], _ :: _, h => by simp at h
  | _ :: _, [], h => by simp at h
  | a :: as, b :: bs, h => by
    unfold blt
    rcases u8_tri a b with g | g | g
    · left; rw [if_pos g]
    · subst g
      simp only [u8_lt_irrefl, if_false]
      rcases blt_tri as bs (by simpa using h) with k | k | k
      · exact Or.inl k
      · exact Or.inr (Or.inl (by rw [k]))
      · exact Or.inr (Or.inr k)
    · right; right; rw [if_pos g]

theorem slt_irrefl (a : Str) : ¬ slt a a := by
  rintro (h | ⟨_, h⟩)
  · exact Nat.lt_irrefl _ h
  · rw [blt_irrefl] at h; cases h

theorem slt_trans {a b c : Str} (h1 : slt a b) (h2 : slt b c) : slt a c := by
  rcases h1 with h1 | ⟨h1, g1⟩ <;> rcases h2 with h2 | ⟨h2, g2⟩
  · left; omega
  · left; omega
  · left; omega
  · right; exact ⟨by omega, blt_trans g1 g2⟩

theorem slt_tri (a b : Str) : slt a b ∨ a = b ∨ slt b a := by
  rcases Nat.lt_trichotomy a.length b.length with h | h | h
  · exact Or.inl (Or.inl h)
  · rcases blt_tri a b h with k | k | k
    · exact Or.inl (Or.inr ⟨h, k⟩)
    · exact Or.inr (Or.inl k)
    · exact Or.inr (Or.inr (Or.inr ⟨h.symm, k⟩))
  · exact Or.inr (Or.inr (Or.inl h))

theorem blt_snoc : ∀ (a b : Str) (x y : UInt8), a.length = b.length → (blt (a ++ [x]) (b ++ [y]) = true ↔ blt a b = true ∨ (a = b ∧ x < y))
  | [], [], x, y, _ => by
    simp [blt]
  | [], _ :: _, _, _, h => by simp at h
  | _ :: _, [], _, _, h => by simp at h
  | a :: as, b :: bs, x, y, h => by
    have ih := blt_snoc as bs x y (by simpa using h)
    simp only [List.cons_append]
    unfold blt
    rcases u8_tri a b with g | g | g
    · simp [g]
    · subst g
      simp only [u8_lt_irrefl, if_false, ih, List.cons.injEq, true_and]
    · have : a ≠ b := fun e => u8_lt_irrefl b (by rw [e] at g; exact g)
      simp [g, u8_lt_asymm g, this]

/-- A state behind another by one byte: their order is that of the parents, then of the bytes. -/
theorem slt_snoc (a b : Str) (x y : UInt8) : slt (a ++ [x]) (b ++ [y]) ↔ slt a b ∨ (a = b ∧ x < y) := by
  unfold slt
  simp only [List.length_append, List.length_cons, List.length_nil]
  by_cases h : a.length = b.length
  · have hb := blt_snoc a b x y h
    rw [hb]
    constructor
    · rintro (k | ⟨_, k⟩)
      · omega
      · rcases k with k | k
        · exact Or.inl (Or.inr ⟨h, k⟩)
        · exact Or.inr k
    · rintro ((k | ⟨_, k⟩) | k)
      · omega
      · exact Or.inr ⟨by omega, Or.inl k⟩
      · exact Or.inr ⟨by omega, Or.inr k⟩
  · constructor
    · rintro (k | ⟨k, _⟩)
      · exact Or.inl (Or.inl (by omega))
      · omega
    · rintro ((k | ⟨k, _⟩) | ⟨k, _⟩)
      · exact Or.inl (by omega)
      · omega
      · exact absurd (by rw [k]) h

/-- The longest ending of a text that is a state. -/
def lsuf (S : List Str) : Str → Str
  | [] => []
  | c :: cs => if (c :: cs) ∈ S then c :: cs else lsuf S cs

theorem lsuf_mem (S : List Str) (h0 : [] ∈ S) : ∀ x, lsuf S x ∈ S
  | [] => h0
  | c :: cs => by
    unfold lsuf
    split
    · assumption
    · exact lsuf_mem S h0 cs

theorem lsuf_of_mem (S : List Str) : ∀ x, x ∈ S → lsuf S x = x
  | [], _ => rfl
  | c :: cs, h => by unfold lsuf; rw [if_pos h]

theorem lsuf_len (S : List Str) : ∀ x, (lsuf S x).length ≤ x.length
  | [] => Nat.le_refl _
  | c :: cs => by
    unfold lsuf
    split
    · exact Nat.le_refl _
    · have := lsuf_len S cs; simp; omega

/-- A state without its last byte is a state. -/
def Closed (S : List Str) : Prop := ∀ (y : Str) (c : UInt8), y ++ [c] ∈ S → y ∈ S

theorem lsuf_snoc (S : List Str) (hc : Closed S) (b : UInt8) : ∀ x, lsuf S (x ++ [b]) = lsuf S (lsuf S x ++ [b])
  | [] => rfl
  | c :: cs => by
    by_cases h : (c :: cs) ∈ S
    · rw [lsuf_of_mem S _ h]
    · have e1 : lsuf S (c :: cs) = lsuf S cs := by rw [lsuf, if_neg h]
      have e2 : lsuf S (c :: cs ++ [b]) = lsuf S (cs ++ [b]) := by
        rw [List.cons_append, lsuf, if_neg (fun g => h (hc (c :: cs) b (by simpa using g)))]
      rw [e1, e2]
      exact lsuf_snoc S hc b cs

/-- A step to FAIL changes nothing, where there is no way on. -/
theorem lsuf_fail (S : List Str) (hc : Closed S) (b : UInt8) (x : Str) (hx : x ≠ []) (h : x ++ [b] ∉ S) : lsuf S (x ++ [b]) = lsuf S (lsuf S x.tail ++ [b]) := by
  match x, hx with
  | c :: cs, _ =>
    rw [List.cons_append, lsuf, if_neg (by simpa using h)]
    exact lsuf_snoc S hc b cs

/-- The i-th state. -/
def at' (S : List Str) (i : Nat) : Str := S.getD i []

theorem at_mem {S : List Str} {i : Nat} (h : i < S.length) : at' S i ∈ S := by
  unfold at'; simp [List.getD, h]

theorem at_inj {S : List Str} (hs : S.Pairwise slt) {i j : Nat} (hi : i < S.length) (hj : j < S.length) (h : at' S i = at' S j) : i = j := by
  unfold at' at h
  simp [List.getD, hi, hj] at h
  rcases Nat.lt_trichotomy i j with k | k | k
  · have := List.pairwise_iff_getElem.1 hs i j hi hj k
    rw [h] at this
    exact absurd this (slt_irrefl _)
  · exact k
  · have := List.pairwise_iff_getElem.1 hs j i hj hi k
    rw [h] at this
    exact absurd this (slt_irrefl _)

theorem at_lt {S : List Str} (hs : S.Pairwise slt) {i j : Nat} (hj : j < S.length) (h : i < j) : slt (at' S i) (at' S j) := by
  unfold at'
  have hi : i < S.length := by omega
  simp [List.getD, hi, hj]
  exact List.pairwise_iff_getElem.1 hs i j hi hj h

theorem at_idx {S : List Str} {x : Str} (h : x ∈ S) : at' S (S.idxOf x) = x := by
  unfold at'
  have := List.idxOf_lt_length_of_mem h
  simp [List.getD, this]

theorem idx_at {S : List Str} (hs : S.Pairwise slt) {i : Nat} (h : i < S.length) : S.idxOf (at' S i) = i :=
  at_inj hs (List.idxOf_lt_length_of_mem (at_mem h)) h (at_idx (at_mem h))

theorem at_lt_iff {S : List Str} (hs : S.Pairwise slt) {i j : Nat} (hi : i < S.length) (hj : j < S.length) : slt (at' S i) (at' S j) ↔ i < j := by
  constructor
  · intro h
    rcases Nat.lt_trichotomy i j with k | k | k
    · exact k
    · subst k; exact absurd h (slt_irrefl _)
    · exact absurd (slt_trans h (at_lt hs hi k)) (slt_irrefl _)
  · exact at_lt hs hj

end Scour
