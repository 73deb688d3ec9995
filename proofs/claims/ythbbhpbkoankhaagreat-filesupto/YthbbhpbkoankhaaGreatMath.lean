import Derived.Test.YthbbhpbkoankhaaGreatLeafA
namespace Scour

abbrev Str := List UInt8

/-- Byte by byte the lesser (of two of one length). -/
def blt : Str → Str → Bool
  | a :: as, b :: bs => if a < b then true else if b < a then false else blt as bs
  | [], _ :: _ => true
  | _, [] => false

/-- The shorter ahead of the longer; of one length byte by byte. -/
def slt (a b : Str) : Prop := a.length < b.length ∨ (a.length = b.length ∧ blt a b = true)

theorem u8_lt_irrefl (a : UInt8) : ¬ a < a := UInt8.lt_irrefl a
theorem u8_lt_asymm {a b : UInt8} (h : a < b) : ¬ b < a := UInt8.lt_asymm h
theorem u8_tri (a b : UInt8) : a < b ∨ a = b ∨ b < a := by
  rcases Nat.lt_trichotomy a.toNat b.toNat with h | h | h
  · exact Or.inl (UInt8.lt_iff_toNat_lt.2 h)
  · exact Or.inr (Or.inl (UInt8.toNat_inj.1 h))
  · exact Or.inr (Or.inr (UInt8.lt_iff_toNat_lt.2 h))

theorem blt_irrefl : ∀ a : Str, blt a a = false
  | [] => rfl
  | a :: as => by simp [blt, blt_irrefl as]

theorem blt_trans : ∀ {a b c : Str}, blt a b = true → blt b c = true → blt a c = true
  | [], [], _, h, _ => by simp [blt] at h
  | [], _ :: _, [], _, h => by simp [blt] at h
  | [], _ :: _, _ :: _, _, _ => rfl
  | _ :: _, [], _, h, _ => by simp [blt] at h
  | _ :: _, _ :: _, [], _, h => by simp [blt] at h
  | a :: as, b :: bs, c :: cs, h1, h2 => by
    unfold blt at h1 h2 ⊢
    rcases u8_tri a b with h | h | h
    · rcases u8_tri b c with g | g | g
      · rw [if_pos (UInt8.lt_trans h g)]
      · subst g; rw [if_pos h]
      · simp [u8_lt_asymm g, g] at h2
    · subst h
      simp only [u8_lt_irrefl, if_false] at h1
      rcases u8_tri a c with g | g | g
      · rw [if_pos g]
      · subst g
        simp only [u8_lt_irrefl, if_false] at h2 ⊢
        exact blt_trans h1 h2
      · simp [u8_lt_asymm g, g] at h2
    · simp [u8_lt_asymm h, h] at h1

theorem blt_tri : ∀ a b : Str, a.length = b.length → blt a b = true ∨ a = b ∨ blt b a = true
  | [], [], _ => Or.inr (Or.inl rfl)
  | [], _ :: _, h => by simp at h
  | _ :: _, [], h => by simp at h
  | a :: as, b :: bs, h => by
    unfold blt
    rcases u8_tri a b with g | g | g
    · left; rw [if_pos g]
    · subst g
      simp only [u8_lt_irrefl, if_false]
      rcases blt_tri as bs (by simpa using h) with k | k | k
      · exact Or.inl k
      · exact Or.inr (Or.inl (by rw [k]))
      · exact Or.inr (Or.inr k)
    · right; right; rw [if_pos g]

theorem slt_irrefl (a : Str) : ¬ slt a a := by
  rintro (h | ⟨_, h⟩)
  · exact Nat.lt_irrefl _ h
  · rw [blt_irrefl] at h; cases h

theorem slt_trans {a b c : Str} (h1 : slt a b) (h2 : slt b c) : slt a c := by
  rcases h1 with h1 | ⟨h1, g1⟩ <;> rcases h2 with h2 | ⟨h2, g2⟩
  · left; omega
  · left; omega
  · left; omega
  · right; exact ⟨by omega, blt_trans g1 g2⟩

theorem slt_tri (a b : Str) : slt a b ∨ a = b ∨ slt b a := by
  rcases Nat.lt_trichotomy a.length b.length with h | h | h
  · exact Or.inl (Or.inl h)
  · rcases blt_tri a b h with k | k | k
    · exact Or.inl (Or.inr ⟨h, k⟩)
    · exact Or.inr (Or.inl k)
    · exact Or.inr (Or.inr (Or.inr ⟨h.symm, k⟩))
  · exact Or.inr (Or.inr (Or.inl h))

theorem blt_snoc : ∀ (a b : Str) (x y : UInt8), a.length = b.length → (blt (a ++ [x]) (b ++ [y]) = true ↔ blt a b = true ∨ (a = b ∧ x < y))
  | [], [], x, y, _ => by
    simp [blt]
  | [], _ :: _, _, _, h => by simp at h
  | _ :: _, [], _, _, h => by simp at h
  | a :: as, b :: bs, x, y, h => by
    have ih := blt_snoc as bs x y (by simpa using h)
    simp only [List.cons_append]
    unfold blt
    rcases u8_tri a b with g | g | g
    · simp [g]
    · subst g
      simp only [u8_lt_irrefl, if_false, ih, List.cons.injEq, true_and]
    · have : a ≠ b := fun e => u8_lt_irrefl b (by rw [e] at g; exact g)
      simp [g, u8_lt_asymm g, this]

/-- A state behind another by one byte: their order is that of the parents, then of the bytes. -/
theorem slt_snoc (a b : Str) (x y : UInt8) : slt (a ++ [x]) (b ++ [y]) ↔ slt a b ∨ (a = b ∧ x < y) := by
  unfold slt
  simp only [List.length_append, List.length_cons, List.length_nil]
  by_cases h : a.length = b.length
  · have hb := blt_snoc a b x y h
    rw [hb]
    constructor
    · rintro (k | ⟨_, k⟩)
      · omega
      · rcases k with k | k
        · exact Or.inl (Or.inr ⟨h, k⟩)
        · exact Or.inr k
    · rintro ((k | ⟨_, k⟩) | k)
      · omega
      · exact Or.inr ⟨by omega, Or.inl k⟩
      · exact Or.inr ⟨by omega, Or.inr k⟩
  · constructor
    · rintro (k | ⟨k, _⟩)
      · exact Or.inl (Or.inl (by omega))
      · omega
    · rintro ((k | ⟨k, _⟩) | ⟨k, _⟩)
      · exact Or.inl (by omega)
      · omega
      · exact absurd (by rw [k]) h

/-- The longest ending of a text that is a state. -/
def lsuf (S : List Str) : Str → Str
  | [] => []
  | c :: cs => if (c :: cs) ∈ S then c :: cs else lsuf S cs

theorem lsuf_mem (S : List Str) (h0 : [] ∈ S) : ∀ x, lsuf S x ∈ S
  | [] => h0
  | c :: cs => by
    unfold lsuf
    split
    · assumption
    · exact lsuf_mem S h0 cs

theorem lsuf_of_mem (S : List Str) : ∀ x, x ∈ S → lsuf S x = x
  | [], _ => rfl
  | c :: cs, h => by unfold lsuf; rw [if_pos h]

theorem lsuf_len (S : List Str) : ∀ x, (lsuf S x).length ≤ x.length
  | [] => Nat.le_refl _
  | c :: cs => by
    unfold lsuf
    split
    · exact Nat.le_refl _
    · have := lsuf_len S cs; simp; omega

/-- A state without its last byte is a state. -/
def Closed (S : List Str) : Prop := ∀ (y : Str) (c : UInt8), y ++ [c] ∈ S → y ∈ S

theorem lsuf_snoc (S : List Str) (hc : Closed S) (b : UInt8) : ∀ x, lsuf S (x ++ [b]) = lsuf S (lsuf S x ++ [b])
  | [] => rfl
  | c :: cs => by
    by_cases h : (c :: cs) ∈ S
    · rw [lsuf_of_mem S _ h]
    · have e1 : lsuf S (c :: cs) = lsuf S cs := by rw [lsuf, if_neg h]
      have e2 : lsuf S (c :: cs ++ [b]) = lsuf S (cs ++ [b]) := by
        rw [List.cons_append, lsuf, if_neg (fun g => h (hc (c :: cs) b (by simpa using g)))]
      rw [e1, e2]
      exact lsuf_snoc S hc b cs

/-- A step to FAIL changes nothing, where there is no way on. -/
theorem lsuf_fail (S : List Str) (hc : Closed S) (b : UInt8) (x : Str) (hx : x ≠ []) (h : x ++ [b] ∉ S) : lsuf S (x ++ [b]) = lsuf S (lsuf S x.tail ++ [b]) := by
  match x, hx with
  | c :: cs, _ =>
    rw [List.cons_append, lsuf, if_neg (by simpa using h)]
    exact lsuf_snoc S hc b cs

/-- The i-th state. -/
def at' (S : List Str) (i : Nat) : Str := S.getD i []

theorem at_mem {S : List Str} {i : Nat} (h : i < S.length) : at' S i ∈ S := by
  unfold at'; simp [List.getD, h]

theorem at_inj {S : List Str} (hs : S.Pairwise slt) {i j : Nat} (hi : i < S.length) (hj : j < S.length) (h : at' S i = at' S j) : i = j := by
  unfold at' at h
  simp [List.getD, hi, hj] at h
  rcases Nat.lt_trichotomy i j with k | k | k
  · have := List.pairwise_iff_getElem.1 hs i j hi hj k
    rw [h] at this
    exact absurd this (slt_irrefl _)
  · exact k
  · have := List.pairwise_iff_getElem.1 hs j i hj hi k
    rw [h] at this
    exact absurd this (slt_irrefl _)

theorem at_lt {S : List Str} (hs : S.Pairwise slt) {i j : Nat} (hj : j < S.length) (h : i < j) : slt (at' S i) (at' S j) := by
  unfold at'
  have hi : i < S.length := by omega
  simp [List.getD, hi, hj]
  exact List.pairwise_iff_getElem.1 hs i j hi hj h

theorem at_idx {S : List Str} {x : Str} (h : x ∈ S) : at' S (S.idxOf x) = x := by
  unfold at'
  have := List.idxOf_lt_length_of_mem h
  simp [List.getD, this]

theorem idx_at {S : List Str} (hs : S.Pairwise slt) {i : Nat} (h : i < S.length) : S.idxOf (at' S i) = i :=
  at_inj hs (List.idxOf_lt_length_of_mem (at_mem h)) h (at_idx (at_mem h))

theorem at_lt_iff {S : List Str} (hs : S.Pairwise slt) {i j : Nat} (hi : i < S.length) (hj : j < S.length) : slt (at' S i) (at' S j) ↔ i < j := by
  constructor
  · intro h
    rcases Nat.lt_trichotomy i j with k | k | k
    · exact k
    · subst k; exact absurd h (slt_irrefl _)
    · exact absurd (slt_trans h (at_lt hs hi k)) (slt_irrefl _)
  · exact at_lt hs hj

end Scour

namespace Go.Proofs.YthbbhpbkoankhaaGreat
open Go.RowKit Scour

theorem cmpI_neg (x y : Int) : cmpI x y < 0 ↔ x < y := by
  unfold cmpI; split
  · simp [*]
  · split <;> simp [*]
theorem cmpI_zero (x y : Int) : cmpI x y = 0 ↔ x = y := by
  unfold cmpI; split
  · simp; omega
  · split
    · simp; omega
    · simp; omega
theorem cmpS_zero (pa la pb lb : Int) : cmpS pa la pb lb = 0 ↔ pa = pb ∧ la = lb := by
  unfold cmpS orI
  split
  · rename_i h; rw [cmpI_zero] at h; rw [cmpI_zero]; simp [h]
  · rename_i h; rw [cmpI_zero] at h
    have : cmpI pa pb ≠ 0 := fun k => h ((cmpI_zero _ _).1 k)
    simp [this, h]
theorem cmpS_neg (pa la pb lb : Int) : cmpS pa la pb lb < 0 ↔ pa < pb ∨ (pa = pb ∧ la < lb) := by
  unfold cmpS orI
  split
  · rename_i h; rw [cmpI_zero] at h; rw [cmpI_neg]; simp [h]
  · rename_i h; rw [cmpI_zero] at h; rw [cmpI_neg]; simp [h]

/-- The states' parents and last bytes tell the states S, in their order. -/
structure Rep (S : List Str) (par lst : Nat → Int) : Prop where
  pos : 0 < S.length
  head : at' S 0 = []
  sorted : S.Pairwise slt
  kids : ∀ i, 0 < i → i < S.length → ∃ (p : Nat) (c : UInt8), par i = (p : Int) ∧ p < i ∧ lst i = (c.toNat : Int) ∧ at' S i = at' S p ++ [c]

theorem Rep.nil_mem {S : List Str} {par lst : Nat → Int} (h : Rep S par lst) : [] ∈ S := h.head ▸ at_mem h.pos

theorem Rep.closed {S : List Str} {par lst : Nat → Int} (h : Rep S par lst) : Closed S := by
  intro y c hm
  have hi := List.idxOf_lt_length_of_mem hm
  have he := at_idx hm
  generalize S.idxOf (y ++ [c]) = i at hi he
  by_cases h0 : i = 0
  · subst h0; rw [h.head] at he; simp at he
  · obtain ⟨p, c', _, hp, _, e⟩ := h.kids i (by omega) hi
    rw [e] at he
    have := List.append_inj' he rfl
    rw [← this.1]
    exact at_mem (by omega)

theorem u8i (a b : UInt8) : (a.toNat : Int) < (b.toNat : Int) ↔ a < b := by rw [UInt8.lt_iff_toNat_lt]; omega
theorem u8e (a b : UInt8) : (a.toNat : Int) = (b.toNat : Int) ↔ a = b := by
  constructor
  · intro h; exact UInt8.toNat_inj.1 (by omega)
  · rintro rfl; rfl

theorem Rep.stand_neg {S : List Str} {par lst : Nat → Int} (h : Rep S par lst) {p : Nat} (hp : p < S.length) (b : UInt8) {k : Nat} (hk : k + 1 < S.length) :
    stand par lst p b.toNat k < 0 ↔ slt (at' S (k + 1)) (at' S p ++ [b]) := by
  obtain ⟨q, c, e1, hq, e2, e3⟩ := h.kids (k + 1) (by omega) hk
  unfold stand
  rw [cmpS_neg, e1, e2, e3, slt_snoc, at_lt_iff h.sorted (by omega) hp, u8i]
  constructor
  · rintro (g | ⟨g, g'⟩)
    · left; omega
    · right; exact ⟨by rw [show q = p by omega], g'⟩
  · rintro (g | ⟨g, g'⟩)
    · left; omega
    · right; exact ⟨by rw [at_inj h.sorted (by omega) hp g], g'⟩

theorem Rep.stand_zero {S : List Str} {par lst : Nat → Int} (h : Rep S par lst) {p : Nat} (hp : p < S.length) (b : UInt8) {k : Nat} (hk : k + 1 < S.length) :
    stand par lst p b.toNat k = 0 ↔ at' S (k + 1) = at' S p ++ [b] := by
  obtain ⟨q, c, e1, hq, e2, e3⟩ := h.kids (k + 1) (by omega) hk
  unfold stand
  rw [cmpS_zero, e1, e2, e3, u8e]
  constructor
  · rintro ⟨g, rfl⟩; rw [show q = p by omega]
  · intro g
    have := List.append_inj' g rfl
    exact ⟨by rw [at_inj h.sorted (by omega) hp this.1], by simpa using this.2⟩

theorem Rep.mono {S : List Str} {par lst : Nat → Int} (h : Rep S par lst) {p : Nat} (hp : p < S.length) (b : UInt8) (n : Nat) (hn : S.length = n + 1) :
    ∀ k k', k ≤ k' → k' < n → stand par lst p b.toNat k' < 0 → stand par lst p b.toNat k < 0 := by
  intro k k' hk hk' hs
  rw [h.stand_neg hp b (by omega)] at hs ⊢
  rcases Nat.lt_or_eq_of_le hk with g | g
  · exact slt_trans (at_lt h.sorted (by omega) (by omega)) hs
  · rw [g]; exact hs

/-- What the search comes to, of states. -/
theorem Rep.yes {S : List Str} {par lst : Nat → Int} (h : Rep S par lst) {p : Nat} (hp : p < S.length) (b : UInt8) (n : Nat) (hn : S.length = n + 1) {i : Nat} (hs : SEnd par lst p b.toNat n i)
    (hm : at' S p ++ [b] ∈ S) : okB par lst p b.toNat n i = true ∧ S.idxOf (at' S p ++ [b]) = i + 1 := by
  have hj := List.idxOf_lt_length_of_mem hm
  have he := at_idx hm
  generalize S.idxOf (at' S p ++ [b]) = j at hj he
  have hj0 : j ≠ 0 := by rintro rfl; rw [h.head] at he; simp at he
  obtain ⟨k, rfl⟩ : ∃ k, j = k + 1 := ⟨j - 1, by omega⟩
  have hz := (h.stand_zero hp b hj).2 he
  have hik : i = k := by
    rcases Nat.lt_trichotomy i k with g | g | g
    · have h1 := hs.hi i (Nat.le_refl _) (by omega)
      have h2 := (h.stand_neg hp b (k := i) (by omega)).2 (by rw [← he]; exact at_lt h.sorted hj (by omega))
      omega
    · exact g
    · have := hs.lo k g; omega
  subst hik
  refine ⟨?_, rfl⟩
  unfold okB
  simp [hz]
  omega

theorem Rep.no {S : List Str} {par lst : Nat → Int} (h : Rep S par lst) {p : Nat} (hp : p < S.length) (b : UInt8) (n : Nat) (hn : S.length = n + 1) {i : Nat}
    (hm : at' S p ++ [b] ∉ S) : okB par lst p b.toNat n i = false := by
  cases hk : okB par lst p b.toNat n i with
  | false => rfl
  | true =>
    unfold okB at hk
    simp at hk
    exact absurd ((h.stand_zero hp b (by omega)).1 hk.2 ▸ at_mem (by omega)) hm

theorem find_yes (bt bs cap : Nat) (S : List Str) (par lst fl : Nat → Int) (p : Nat) (b : UInt8) (w : World) (hR : Rep S par lst) (hp : p < S.length) (hbs : bs < w.heap.size) (hn : S.length < 1000000) (hcap : S.length ≤ cap)
    (ht : w.cell? ⟨bt, 0, none⟩ = some (.slice (some ⟨bs, 0, none⟩) S.length cap)) (hs : Sts w bs S.length par lst fl) (hm : at' S p ++ [b] ∈ S) :
    Calls Tryz.prog 69 #[.pointer (some ⟨bt, 0, none⟩), .int .i64 p, .int .u8 b.toNat] w fun e w' => e = .returned (.tuple #[.int .i64 (S.idxOf (at' S p ++ [b]) : Nat), .bool true]) ∧ Below w.heap.size w w' := by
  obtain ⟨n, hl⟩ : ∃ n, S.length = n + 1 := ⟨S.length - 1, by have := hR.pos; omega⟩
  rw [hl] at ht hs
  refine (find_any bt bs n cap par lst fl p b.toNat w hbs (by omega) (by omega) ht hs (hR.mono hp b n hl)).mono ?_
  rintro e w' ⟨i, rfl, hse, hbw⟩
  obtain ⟨h1, h2⟩ := hR.yes hp b n hl hse hm
  rw [h1, h2]
  exact ⟨rfl, hbw⟩

theorem find_no (bt bs cap : Nat) (S : List Str) (par lst fl : Nat → Int) (p : Nat) (b : UInt8) (w : World) (hR : Rep S par lst) (hp : p < S.length) (hbs : bs < w.heap.size) (hn : S.length < 1000000) (hcap : S.length ≤ cap)
    (ht : w.cell? ⟨bt, 0, none⟩ = some (.slice (some ⟨bs, 0, none⟩) S.length cap)) (hs : Sts w bs S.length par lst fl) (hm : at' S p ++ [b] ∉ S) :
    Calls Tryz.prog 69 #[.pointer (some ⟨bt, 0, none⟩), .int .i64 p, .int .u8 b.toNat] w fun e w' => ∃ i : Nat, e = .returned (.tuple #[.int .i64 i, .bool false]) ∧ Below w.heap.size w w' := by
  obtain ⟨n, hl⟩ : ∃ n, S.length = n + 1 := ⟨S.length - 1, by have := hR.pos; omega⟩
  rw [hl] at ht hs
  refine (find_any bt bs n cap par lst fl p b.toNat w hbs (by omega) (by omega) ht hs (hR.mono hp b n hl)).mono ?_
  rintro e w' ⟨i, rfl, hse, hbw⟩
  rw [hR.no hp b n hl hm]
  exact ⟨i + 1, rfl, hbw⟩
end Go.Proofs.YthbbhpbkoankhaaGreat

namespace Go.Proofs.YthbbhpbkoankhaaGreat
open Go.RowKit Scour

/-- The number of FAIL of the k-th state. -/
def failN (S : List Str) (k : Nat) : Nat := S.idxOf (lsuf S (at' S k).tail)
/-- The number of NEXT of the k-th state and a byte. -/
def nextN (S : List Str) (k : Nat) (b : UInt8) : Nat := S.idxOf (lsuf S (at' S k ++ [b]))

theorem Rep.fail_lt {S : List Str} {par lst : Nat → Int} (h : Rep S par lst) {k : Nat} (h0 : 0 < k) (hk : k < S.length) : failN S k < k := by
  have hm := lsuf_mem S h.nil_mem (at' S k).tail
  have hl := lsuf_len S (at' S k).tail
  obtain ⟨p, c, _, _, _, e⟩ := h.kids k h0 hk
  have hi := List.idxOf_lt_length_of_mem hm
  have : slt (at' S (failN S k)) (at' S k) := by
    unfold failN; rw [at_idx hm]
    left
    have : (at' S k).tail.length = (at' S k).length - 1 := by simp
    have : 0 < (at' S k).length := by rw [e]; simp
    omega
  exact (at_lt_iff h.sorted hi hk).1 this

theorem Rep.at_fail {S : List Str} {par lst : Nat → Int} (h : Rep S par lst) (k : Nat) : at' S (failN S k) = lsuf S (at' S k).tail :=
  at_idx (lsuf_mem S h.nil_mem _)

theorem Rep.next_lt {S : List Str} {par lst : Nat → Int} (h : Rep S par lst) (k : Nat) (b : UInt8) : nextN S k b < S.length :=
  List.idxOf_lt_length_of_mem (lsuf_mem S h.nil_mem _)

theorem Rep.next_yes {S : List Str} {k : Nat} {b : UInt8} (hm : at' S k ++ [b] ∈ S) : nextN S k b = S.idxOf (at' S k ++ [b]) := by
  unfold nextN; rw [lsuf_of_mem S _ hm]

theorem Rep.next_zero {S : List Str} {par lst : Nat → Int} (h : Rep S par lst) {b : UInt8} (hm : at' S 0 ++ [b] ∉ S) : nextN S 0 b = 0 := by
  unfold nextN
  rw [h.head] at hm ⊢
  simp only [List.nil_append] at hm ⊢
  rw [lsuf, if_neg hm, lsuf]
  have := idx_at h.sorted h.pos
  rwa [h.head] at this

theorem Rep.next_fail {S : List Str} {par lst : Nat → Int} (h : Rep S par lst) {k : Nat} {b : UInt8} (h0 : 0 < k) (hk : k < S.length) (hm : at' S k ++ [b] ∉ S) : nextN S k b = nextN S (failN S k) b := by
  obtain ⟨p, c, _, _, _, e⟩ := h.kids k h0 hk
  unfold nextN
  rw [h.at_fail, lsuf_fail S h.closed b (at' S k) (by rw [e]; simp) hm]

set_option maxHeartbeats 1000000 in
theorem next_any (bt bs cap : Nat) (S : List Str) (par lst fl : Nat → Int) (p : Nat) (b : UInt8) (w : World) (hR : Rep S par lst) (hp : p < S.length) (hbt : bt < w.heap.size) (hbs : bs < w.heap.size) (hn : S.length < 1000000) (hcap : S.length ≤ cap)
    (ht : w.cell? ⟨bt, 0, none⟩ = some (.slice (some ⟨bs, 0, none⟩) S.length cap)) (hs : Sts w bs S.length par lst fl) (hf : ∀ k, k ≤ p → fl k = (failN S k : Nat)) :
    Calls Tryz.prog 47 #[.pointer (some ⟨bt, 0, none⟩), .int .i64 p, .int .u8 b.toNat] w fun e w' => e = .returned (.int .i64 (nextN S p b)) ∧ Below w.heap.size w w' := by
  have HF := hide hf
  have HT := hide ht
  clear hf ht
  go_enter Tryz.func47, Tryz.ntmps47
  go_wp2_with fail
  go_loopw [1] (fun v wr => ∃ q : Nat, v = .int .i64 q ∧ q ≤ p ∧ Hid (nextN S q b = nextN S p b) ∧ Below w.heap.size w wr) (fun v _ => (intOf v).toNat)
  case atStart => exact ⟨p, rfl, Nat.le_refl _, hide rfl, Below.refl _ _⟩
  case round =>
    obtain ⟨q, rfl, hqp, HN, hnx⟩ := hrel
    have hsz := hnx.size
    have ht' := (hnx.cell (p := ⟨bt, 0, none⟩) hbt).trans (unhide HT)
    have hs' := hs.below hnx hbs
    by_cases hm : at' S q ++ [b] ∈ S
    · have HC := hide (find_yes bt bs cap S par lst fl q b wr hR (by omega) (by omega) hn hcap ht' hs' hm)
      have e : nextN S p b = S.idxOf (at' S q ++ [b]) := by rw [← unhide HN]; exact Rep.next_yes hm
      have HE := hide e
      clear e hs' ht' hs hm
      go_wp2_with (go_at_call 69; refine (unhide HC).mono ?_; rintro e w' ⟨rfl, hbw⟩)
      go_ret
      exact ⟨by rw [unhide HE]; rfl, hnx.trans (hbw.mono hsz)⟩
    · have HC := hide (find_no bt bs cap S par lst fl q b wr hR (by omega) (by omega) hn hcap ht' hs' hm)
      by_cases h0 : q = 0
      · subst h0
        have HE := hide ((unhide HN).symm.trans (hR.next_zero hm))
        clear hs' ht' hs hm
        go_wp2_with (go_at_call 69; refine (unhide HC).mono ?_; rintro e w' ⟨i, rfl, hbw⟩)
        go_ret
        exact ⟨by rw [unhide HE]; rfl, hnx.trans (hbw.mono hsz)⟩
      · have HE := hide ((hR.next_fail (by omega) (by omega) hm).symm.trans (unhide HN))
        have hlt := hR.fail_lt (k := q) (by omega) (by omega)
        have hfq := unhide HF q hqp
        obtain ⟨c1, c2, c3⟩ := hs' q (by omega)
        rw [hfq] at c3
        have hq1 : ((q : Int) == 0) = false := by simp; omega
        have hi1 : (q : Int) < (S.length : Int) := by omega
        have hb1 : bt < wr.heap.size := by omega
        have hb2 : bs < wr.heap.size := by omega
        clear hs' hs hm c1 c2 hfq
        go_wp2_with (go_at_call 69; refine (unhide HC).mono ?_; rintro e w' ⟨i, rfl, hbw⟩; obtain ⟨hbc, hbf⟩ := bcell hbw)
        go_roundw
        case rel => exact ⟨failN S q, rfl, by omega, HE, hnx.trans (hbw.mono hsz)⟩
        case measure => simp [intOf]; omega
end Go.Proofs.YthbbhpbkoankhaaGreat
