import Derived.Test.YtibkhphbilfckaaGreatDoorSortA
namespace Go.Proofs.YtibkhphbilfckaaGreatDoor
open Scour

theorem push_mem {S : List Str} {x y : Str} : y ∈ push S x ↔ y ∈ S ∨ y = x := by
  unfold push; split
  · rename_i h
    constructor
    · exact Or.inl
    · rintro (k | rfl)
      · exact k
      · exact List.mem_of_getLast? h
  · simp

theorem push_getLast {S : List Str} {x : Str} : (push S x).getLast? = some x := by
  unfold push; split
  · assumption
  · simp

theorem le_last {S : List Str} (h : S.Pairwise slt) {l : Str} (hl : S.getLast? = some l) : ∀ a ∈ S, a = l ∨ slt a l := by
  intro a ha
  have hpos : 0 < S.length := List.length_pos_of_mem ha
  have he := (push_last hpos).1 hl
  have hi := List.idxOf_lt_length_of_mem ha
  have hat := at_idx ha
  generalize S.idxOf a = i at hi hat
  rcases Nat.lt_or_eq_of_le (show i ≤ S.length - 1 by omega) with g | g
  · right; rw [← hat, ← he]; exact at_lt h (by omega) g
  · left; rw [← hat, ← he, g]

theorem push_sorted {S : List Str} (h : S.Pairwise slt) {l x : Str} (hl : S.getLast? = some l) (hx : x = l ∨ slt l x) : (push S x).Pairwise slt := by
  unfold push; split
  · exact h
  · rename_i hne
    rw [List.pairwise_append]
    refine ⟨h, by simp, ?_⟩
    intro a ha b hb
    simp only [List.mem_singleton] at hb
    subst hb
    have hlx : slt l b := by
      rcases hx with e | e
      · subst e; exact absurd hl hne
      · exact e
    rcases le_last h hl a ha with e | e
    · rw [e]; exact hlx
    · exact slt_trans e hlx

section
variable {ps : List Str} {os : List Nat} {L : Nat} {S : List Str}

/-- What a level adds. -/
def lx (ps : List Str) (os : List Nat) (L j : Nat) : Str := (pat ps (os.getD j 0)).take L

theorem lev_mem (j : Nat) (x : Str) : x ∈ lev ps os L S j ↔ x ∈ S ∨ ∃ i, i < j ∧ x = lx ps os L i := by
  induction j with
  | zero => simp [lev]
  | succ j ih =>
    unfold lev
    rw [push_mem, ih]
    constructor
    · rintro ((k | ⟨i, hi, e⟩) | e)
      · exact Or.inl k
      · exact Or.inr ⟨i, by omega, e⟩
      · exact Or.inr ⟨j, by omega, e⟩
    · rintro (k | ⟨i, hi, e⟩)
      · exact Or.inl (Or.inl k)
      · by_cases g : i = j
        · subst g; exact Or.inr e
        · exact Or.inl (Or.inr ⟨i, by omega, e⟩)

theorem lev_sorted (hs : S.Pairwise slt) (hpos : 0 < S.length) (hlen : ∀ x ∈ S, x.length < L) (hL : ∀ j, j < os.length → L ≤ (pat ps (os.getD j 0)).length)
    (hasc : ∀ i j, i < j → j < os.length → blt (pat ps (os.getD j 0)) (pat ps (os.getD i 0)) = false) :
    ∀ j, j ≤ os.length → (lev ps os L S j).Pairwise slt ∧ ∃ l, (lev ps os L S j).getLast? = some l ∧ (l.length < L ∨ ∃ i, i < j ∧ l = lx ps os L i ∧ i + 1 = j) := by
  intro j
  induction j with
  | zero =>
    intro _
    refine ⟨hs, at' S (S.length - 1), (push_last hpos).2 rfl, Or.inl (hlen _ (at_mem (by omega)))⟩
  | succ j ih =>
    intro hj
    obtain ⟨h1, l, hl, h2⟩ := ih (by omega)
    have hxl : (lx ps os L j).length = L := by unfold lx; rw [List.length_take]; have := hL j (by omega); omega
    refine ⟨?_, lx ps os L j, push_getLast, Or.inr ⟨j, by omega, rfl, rfl⟩⟩
    refine push_sorted h1 hl ?_
    show lx ps os L j = l ∨ slt l (lx ps os L j)
    rcases h2 with h2 | ⟨i, hi, rfl, hij⟩
    · right; left; rw [hxl]; exact h2
    · have hxi : (lx ps os L i).length = L := by unfold lx; rw [List.length_take]; have := hL i (by omega); omega
      rcases blt_tri (lx ps os L j) (lx ps os L i) (by rw [hxl, hxi]) with g | g | g
      · have := blt_take L _ _ (hL j (by omega)) (hL i (by omega)) g
        rw [hasc i j (by omega) (by omega)] at this
        cases this
      · exact Or.inl g
      · exact Or.inr (Or.inr ⟨by rw [hxl, hxi], g⟩)

theorem lev_at_le {i j k : Nat} (h : i < (lev ps os L S j).length) (hjk : j ≤ k) : at' (lev ps os L S k) i = at' (lev ps os L S j) i ∧ i < (lev ps os L S k).length := by
  induction k with
  | zero => have : j = 0 := by omega
            subst this; exact ⟨rfl, h⟩
  | succ k ih =>
    by_cases e : j = k + 1
    · subst e; exact ⟨rfl, h⟩
    · obtain ⟨h1, h2⟩ := ih (by omega)
      refine ⟨?_, ?_⟩
      · rw [lev, push_at h2, h1]
      · rw [lev]; unfold push; split
        · exact h2
        · simp; omega

theorem lev_last (hpos : 0 < S.length) (j : Nat) : at' (lev ps os L S (j + 1)) ((lev ps os L S (j + 1)).length - 1) = lx ps os L j :=
  (push_last (lev_pos hpos (j + 1))).1 push_getLast

theorem ends_in (E : Nat → Int) (hnd : os.Nodup) (hpos : 0 < S.length) (k : Nat) (hk : k ≤ os.length) : ∀ j, j < k → ∃ p, p < (lev ps os L S k).length ∧ endsTo ps os L S E k (os.getD j 0) = (p : Nat) ∧ at' (lev ps os L S k) p = lx ps os L j := by
  induction k with
  | zero => intro j hj; omega
  | succ k ih =>
    intro j hj
    by_cases e : j = k
    · subst e
      refine ⟨(lev ps os L S (j + 1)).length - 1, by have := lev_pos (ps := ps) (os := os) (L := L) hpos (j + 1); omega, ?_, lev_last hpos j⟩
      rw [endsTo]; unfold upd; rw [if_pos rfl]
    · obtain ⟨p, hp, h1, h2⟩ := ih (by omega) j (by omega)
      obtain ⟨h3, h4⟩ := lev_at_le hp (Nat.le_succ k)
      refine ⟨p, h4, ?_, h3.trans h2⟩
      rw [endsTo]; unfold upd
      rw [if_neg, h1]
      intro e'
      have g1 : os.getD j 0 = os[j] := by simp [List.getD, show j < os.length by omega]
      have g2 : os.getD k 0 = os[k] := by simp [List.getD, show k < os.length by omega]
      rw [g1, g2] at e'
      exact List.pairwise_iff_getElem.1 hnd j k (by omega) (by omega) (by omega) e'

theorem ends_out (E : Nat → Int) (i : Nat) (hi : i ∉ os) (k : Nat) (hk : k ≤ os.length) : endsTo ps os L S E k i = E i := by
  induction k with
  | zero => rfl
  | succ k ih =>
    rw [endsTo]; unfold upd
    rw [if_neg, ih (by omega)]
    intro e
    apply hi
    rw [e]
    simp [List.getD, show k < os.length by omega]
end

/-! ### All levels -/
/-- The patterns of a length or more, in their order. -/
def ordL (ps : List Str) (os : List Nat) (L : Nat) : List Nat := os.filter fun i => decide (L ≤ (pat ps i).length)
/-- The states behind L levels. -/
def SL (ps : List Str) (os : List Nat) : Nat → List Str
  | 0 => [[]]
  | L + 1 => lev ps (ordL ps os (L + 1)) (L + 1) (SL ps os L) (ordL ps os (L + 1)).length
/-- The ends behind L levels. -/
def EL (ps : List Str) (os : List Nat) : Nat → Nat → Int
  | 0 => fun _ => 0
  | L + 1 => endsTo ps (ordL ps os (L + 1)) (L + 1) (SL ps os L) (EL ps os L) (ordL ps os (L + 1)).length

theorem ordL_succ (ps : List Str) (os : List Nat) (L : Nat) : (ordL ps os L).filter (fun i => !decide ((pat ps i).length < L + 1)) = ordL ps os (L + 1) := by
  unfold ordL
  rw [List.filter_filter]
  apply List.filter_congr
  intro i _
  rw [Bool.eq_iff_iff]
  simp only [Bool.and_eq_true, Bool.not_eq_true', decide_eq_false_iff_not, decide_eq_true_eq]
  omega

theorem ordL_zero (ps : List Str) (os : List Nat) : ordL ps os 0 = os := by
  unfold ordL; simp

theorem mem_ordL {ps : List Str} {os : List Nat} {L i : Nat} : i ∈ ordL ps os L ↔ i ∈ os ∧ L ≤ (pat ps i).length := by
  unfold ordL; simp

theorem IsOrder.nodup {ps : List Str} {os : List Nat} (h : IsOrder ps os) : os.Nodup := h.perm.nodup_iff.2 List.nodup_range
theorem IsOrder.mem {ps : List Str} {os : List Nat} (h : IsOrder ps os) {i : Nat} : i ∈ os ↔ i < ps.length := by rw [h.perm.mem_iff]; simp

theorem IsOrder.pw {ps : List Str} {os : List Nat} (h : IsOrder ps os) : os.Pairwise (fun a b => blt (pat ps b) (pat ps a) = false) := by
  rw [List.pairwise_iff_getElem]
  intro i j hi hj hij
  have := h.asc i j hij (by rw [← h.len]; exact hj)
  simpa [List.getD, hi, hj] using this

theorem ordL_asc {ps : List Str} {os : List Nat} (h : IsOrder ps os) (L : Nat) : ∀ i j, i < j → j < (ordL ps os L).length → blt (pat ps ((ordL ps os L).getD j 0)) (pat ps ((ordL ps os L).getD i 0)) = false := by
  intro i j hij hj
  have := (h.pw.filter (fun i => decide (L ≤ (pat ps i).length)))
  have := List.pairwise_iff_getElem.1 this i j (by exact Nat.lt_trans hij hj) hj hij
  have g1 : (ordL ps os L).getD j 0 = (ordL ps os L)[j] := by simp [List.getD, hj]
  have g2 : (ordL ps os L).getD i 0 = (ordL ps os L)[i] := by simp [List.getD, show i < (ordL ps os L).length by omega]
  rw [g1, g2]
  exact this

/-- What holds behind L levels. -/
structure Levels (ps : List Str) (os : List Nat) (L : Nat) : Prop where
  sorted : (SL ps os L).Pairwise slt
  pos : 0 < (SL ps os L).length
  head : at' (SL ps os L) 0 = []
  len : ∀ x ∈ SL ps os L, x.length ≤ L
  mem : ∀ x, x ∈ SL ps os L ↔ x = [] ∨ ∃ i, i < ps.length ∧ 1 ≤ x.length ∧ x.length ≤ L ∧ x.length ≤ (pat ps i).length ∧ x = (pat ps i).take x.length
  ends : ∀ i, i < ps.length → ∃ p, p < (SL ps os L).length ∧ EL ps os L i = (p : Nat) ∧ at' (SL ps os L) p = (pat ps i).take L

theorem levels {ps : List Str} {os : List Nat} (h : IsOrder ps os) : ∀ L, Levels ps os L
  | 0 => by
    refine ⟨by simp [SL], by simp [SL], rfl, by simp [SL], ?_, ?_⟩
    · intro x
      simp only [SL, List.mem_singleton]
      constructor
      · exact Or.inl
      · rintro (e | ⟨i, _, h1, h2, _⟩)
        · exact e
        · omega
    · intro i _
      exact ⟨0, by simp [SL], rfl, by simp [SL, at']⟩
  | L + 1 => by
    have ih := levels h L
    have hnd : (ordL ps os (L + 1)).Nodup := h.nodup.filter _
    have hL : ∀ j, j < (ordL ps os (L + 1)).length → L + 1 ≤ (pat ps ((ordL ps os (L + 1)).getD j 0)).length := fun j hj => by
      have : (ordL ps os (L + 1)).getD j 0 ∈ ordL ps os (L + 1) := by simp [List.getD, hj]
      exact (mem_ordL.1 this).2
    have hm : ∀ j, j < (ordL ps os (L + 1)).length → (ordL ps os (L + 1)).getD j 0 < ps.length := fun j hj => by
      have : (ordL ps os (L + 1)).getD j 0 ∈ ordL ps os (L + 1) := by simp [List.getD, hj]
      exact h.mem.1 (mem_ordL.1 this).1
    have hsr := lev_sorted (ps := ps) (os := ordL ps os (L + 1)) (L := L + 1) ih.sorted ih.pos (fun x hx => by have := ih.len x hx; omega) hL (ordL_asc h (L + 1))
    have hxl : ∀ j, j < (ordL ps os (L + 1)).length → (lx ps (ordL ps os (L + 1)) (L + 1) j).length = L + 1 := fun j hj => by
      unfold lx; rw [List.length_take]; have := hL j hj; omega
    refine ⟨(hsr _ (Nat.le_refl _)).1, lev_pos ih.pos _, ?_, ?_, ?_, ?_⟩
    · rw [SL, lev_at ih.pos]; exact ih.head
    · intro x hx
      rw [SL, lev_mem] at hx
      rcases hx with hx | ⟨j, hj, rfl⟩
      · have := ih.len x hx; omega
      · rw [hxl j hj]; omega
    · intro x
      rw [SL, lev_mem, ih.mem]
      constructor
      · rintro ((e | ⟨i, h1, h2, h3, h4, h5⟩) | ⟨j, hj, rfl⟩)
        · exact Or.inl e
        · exact Or.inr ⟨i, h1, h2, by omega, h4, h5⟩
        · refine Or.inr ⟨_, hm j hj, ?_, ?_, ?_, ?_⟩
          · rw [hxl j hj]; omega
          · rw [hxl j hj]; omega
          · rw [hxl j hj]; exact hL j hj
          · rw [hxl j hj]; rfl
      · rintro (e | ⟨i, h1, h2, h3, h4, h5⟩)
        · exact Or.inl (Or.inl e)
        · by_cases g : x.length = L + 1
          · right
            have hi : i ∈ ordL ps os (L + 1) := mem_ordL.2 ⟨h.mem.2 h1, by omega⟩
            obtain ⟨j, hj, e⟩ := List.getElem_of_mem hi
            refine ⟨j, hj, ?_⟩
            unfold lx
            rw [h5, g]
            simp [List.getD, hj, e]
          · exact Or.inl (Or.inr ⟨i, h1, h2, by omega, h4, h5⟩)
    · intro i hi
      by_cases g : i ∈ ordL ps os (L + 1)
      · obtain ⟨j, hj, e⟩ := List.getElem_of_mem g
        obtain ⟨p, hp, h1, h2⟩ := ends_in (ps := ps) (L := L + 1) (S := SL ps os L) (EL ps os L) hnd ih.pos _ (Nat.le_refl _) j hj
        have hge : (ordL ps os (L + 1)).getD j 0 = i := by simp [List.getD, hj, e]
        rw [hge] at h1
        unfold lx at h2
        rw [hge] at h2
        exact ⟨p, hp, h1, h2⟩
      · obtain ⟨p, hp, h1, h2⟩ := ih.ends i hi
        have hlt : ¬ L + 1 ≤ (pat ps i).length := fun k => g (mem_ordL.2 ⟨h.mem.2 hi, k⟩)
        refine ⟨p, Nat.lt_of_lt_of_le hp (lev_ge _), ?_, ?_⟩
        · rw [EL, ends_out _ i g _ (Nat.le_refl _)]; exact h1
        · rw [SL, lev_at hp, h2, List.take_of_length_le (by omega), List.take_of_length_le (by omega)]
end Go.Proofs.YtibkhphbilfckaaGreatDoor
