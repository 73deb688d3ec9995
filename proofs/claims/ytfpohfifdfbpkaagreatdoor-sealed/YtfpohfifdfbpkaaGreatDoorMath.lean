namespace Scour
abbrev Str := List UInt8
def blt : Str -> Str -> Bool
 | a :: as, b :: bs => if a < b then true else if b < a then false else blt as bs
 | [], _ :: _ => true
 | _, [] => false
def slt (a b : Str) : Prop := a.length < b.length \/ (a.length = b.length /\ blt a b = true)
theorem yh (a : UInt8) : ¬ a < a := UInt8.lt_irrefl a
theorem u8_lt_asymm {a b : UInt8} (h : a < b) : ¬ b < a := UInt8.lt_asymm h
theorem u8_tri (a b : UInt8) : a < b \/ a = b \/ b < a := by
 rcases Nat.lt_trichotomy a.toNat b.toNat with h | h | h
 ·exact Or.inl (UInt8.lt_iff_toNat_lt.2 h)
 ·exact Or.inr (Or.inl (UInt8.toNat_inj.1 h))
 ·exact Or.inr (Or.inr (UInt8.lt_iff_toNat_lt.2 h))
theorem blt_irrefl : ∀ a : Str, blt a a = false
 | [] => rfl
 | a :: as => by simp [blt, blt_irrefl as]
theorem blt_trans : ∀ {a b c : Str}, blt a b = true -> blt b c = true -> blt a c = true
 | [], [], _, h, _ => by simp [blt] at h
 | [], _ :: _, [], _, h => by simp [blt] at h
 | [], _ :: _, _ :: _, _, _ => rfl
 | _ :: _, [], _, h, _ => by simp [blt] at h
 | _ :: _, _ :: _, [], _, h => by simp [blt] at h
 | a :: as, b :: bs, c :: cs, h1, h2 => by
   unfold blt at h1 h2 ⊢
   rcases u8_tri a b with h | h | h
   ·rcases u8_tri b c with g | g | g
    ·rw [if_pos (UInt8.lt_trans h g)]
    ·subst g; rw [if_pos h]
    ·simp [u8_lt_asymm g, g] at h2
   ·subst h
    simp only [yh, if_false] at h1
    rcases u8_tri a c with g | g | g
    ·rw [if_pos g]
    ·subst g
     simp only [yh, if_false] at h2 ⊢
     exact blt_trans h1 h2
    ·simp [u8_lt_asymm g, g] at h2
   ·simp [u8_lt_asymm h, h] at h1
theorem blt_tri : ∀ a b : Str, a.length = b.length -> blt a b = true \/ a = b \/ blt b a = true
 | [], [], _ => Or.inr (Or.inl rfl)
 | [], _ :: _, h => by simp at h
 | _ :: _, [], h => by simp at h
 | a :: as, b :: bs, h => by
   unfold blt
   rcases u8_tri a b with g | g | g
   ·left; rw [if_pos g]
   ·subst g
    simp only [yh, if_false]
    rcases blt_tri as bs (by simpa using h) with k | k | k
    ·exact Or.inl k
    ·exact Or.inr (Or.inl (by rw [k]))
    ·exact Or.inr (Or.inr k)
   ·right; right; rw [if_pos g]
theorem jF (a : Str) : ¬ slt a a := by
 rintro (h | ⟨_, h⟩)
 ·exact Nat.lt_irrefl _ h
 ·rw [blt_irrefl] at h; cases h
theorem slt_trans {a b c : Str} (h1 : slt a b) (h2 : slt b c) : slt a c := by
 rcases h1 with h1 | ⟨h1, g1⟩ <;> rcases h2 with h2 | ⟨h2, g2⟩
 ·left; omega
 ·left; omega
 ·left; omega
 ·right; exact ⟨by omega, blt_trans g1 g2⟩
theorem slt_tri (a b : Str) : slt a b \/ a = b \/ slt b a := by
 rcases Nat.lt_trichotomy a.length b.length with h | h | h
 ·exact Or.inl (Or.inl h)
 ·rcases blt_tri a b h with k | k | k
  ·exact Or.inl (Or.inr ⟨h, k⟩)
  ·exact Or.inr (Or.inl k)
  ·exact Or.inr (Or.inr (Or.inr ⟨h.symm, k⟩))
 ·exact Or.inr (Or.inr (Or.inl h))
theorem blt_snoc : ∀ (a b : Str) (x y : UInt8), a.length = b.length -> (blt (a ++ [x]) (b ++ [y]) = true ↔ blt a b = true \/ (a = b /\ x < y))
 | [], [], x, y, _ => by
   simp [blt]
 | [], _ :: _, _, _, h => by simp at h
 | _ :: _, [], _, _, h => by simp at h
 | a :: as, b :: bs, x, y, h => by
   have ih := blt_snoc as bs x y (by simpa using h)
   simp only [List.cons_append]
   unfold blt
   rcases u8_tri a b with g | g | g
   ·simp [g]
   ·subst g
    simp only [yh, if_false, ih, List.cons.injEq, true_and]
   ·have : a ≠ b := fun e => yh b (by rw [e] at g; exact g)
    simp [g, u8_lt_asymm g, this]
theorem slt_snoc (a b : Str) (x y : UInt8) : slt (a ++ [x]) (b ++ [y]) ↔ slt a b \/ (a = b /\ x < y) := by
 unfold slt
 simp only [List.length_append, List.length_cons, List.length_nil]
 by_cases h : a.length = b.length
 ·have hb := blt_snoc a b x y h
  rw [hb]
  constructor
  ·rintro (k | ⟨_, k⟩)
   ·omega
   ·rcases k with k | k
    ·exact Or.inl (Or.inr ⟨h, k⟩)
    ·exact Or.inr k
  ·rintro ((k | ⟨_, k⟩) | k)
   ·omega
   ·exact Or.inr ⟨by omega, Or.inl k⟩
   ·exact Or.inr ⟨by omega, Or.inr k⟩
 ·constructor
  ·rintro (k | ⟨k, _⟩)
   ·exact Or.inl (Or.inl (by omega))
   ·omega
  ·rintro ((k | ⟨k, _⟩) | ⟨k, _⟩)
   ·exact Or.inl (by omega)
   ·omega
   ·exact absurd (by rw [k]) h
def yI (S : List Str) : Str -> Str
 | [] => []
 | c :: cs => if (c :: cs) ∈ S then c :: cs else yI S cs
theorem lsuf_mem (S : List Str) (h0 : [] ∈ S) : ∀ x, yI S x ∈ S
 | [] => h0
 | c :: cs => by
   unfold yI
   split
   ·assumption
   ·exact lsuf_mem S h0 cs
theorem lsuf_of_mem (S : List Str) : ∀ x, x ∈ S -> yI S x = x
 | [], _ => rfl
 | c :: cs, h => by unfold yI; rw [if_pos h]
theorem lsuf_len (S : List Str) : ∀ x, (yI S x).length <= x.length
 | [] => Nat.le_refl _
 | c :: cs => by
   unfold yI
   split
   ·exact Nat.le_refl _
   ·have := lsuf_len S cs; simp; omega
def Closed (S : List Str) : Prop := ∀ (y : Str) (c : UInt8), y ++ [c] ∈ S -> y ∈ S
theorem lsuf_snoc (S : List Str) (hc : Closed S) (b : UInt8) : ∀ x, yI S (x ++ [b]) = yI S (yI S x ++ [b])
 | [] => rfl
 | c :: cs => by
   by_cases h : (c :: cs) ∈ S
   ·rw [lsuf_of_mem S _ h]
   ·have e1 : yI S (c :: cs) = yI S cs := by rw [yI, if_neg h]
    have e2 : yI S (c :: cs ++ [b]) = yI S (cs ++ [b]) := by
     rw [List.cons_append, yI, if_neg (fun g => h (hc (c :: cs) b (by simpa using g)))]
    rw [e1, e2]
    exact lsuf_snoc S hc b cs
theorem lsuf_fail (S : List Str) (hc : Closed S) (b : UInt8) (x : Str) (hx : x ≠ []) (h : x ++ [b] ∉ S) : yI S (x ++ [b]) = yI S (yI S x.tail ++ [b]) := by
 match x, hx with
 | c :: cs, _ =>
   rw [List.cons_append, yI, if_neg (by simpa using h)]
   exact lsuf_snoc S hc b cs
def at' (S : List Str) (i : Nat) : Str := S.getD i []
theorem jO {S : List Str} {i : Nat} (h : i < S.length) : at' S i ∈ S := by
 unfold at'; simp [List.getD, h]
theorem at_inj {S : List Str} (hs : S.Pairwise slt) {i j : Nat} (hi : i < S.length) (hj : j < S.length) (h : at' S i = at' S j) : i = j := by
 unfold at' at h
 simp [List.getD, hi, hj] at h
 rcases Nat.lt_trichotomy i j with k | k | k
 ·have := List.pairwise_iff_getElem.1 hs i j hi hj k
  rw [h] at this
  exact absurd this (jF _)
 ·exact k
 ·have := List.pairwise_iff_getElem.1 hs j i hj hi k
  rw [h] at this
  exact absurd this (jF _)
theorem at_lt {S : List Str} (hs : S.Pairwise slt) {i j : Nat} (hj : j < S.length) (h : i < j) : slt (at' S i) (at' S j) := by
 unfold at'
 have hi : i < S.length := by omega
 simp [List.getD, hi, hj]
 exact List.pairwise_iff_getElem.1 hs i j hi hj h
theorem jV {S : List Str} {x : Str} (h : x ∈ S) : at' S (S.idxOf x) = x := by
 unfold at'
 have := List.idxOf_lt_length_of_mem h
 simp [List.getD, this]
theorem idx_at {S : List Str} (hs : S.Pairwise slt) {i : Nat} (h : i < S.length) : S.idxOf (at' S i) = i :=
 at_inj hs (List.idxOf_lt_length_of_mem (jO h)) h (jV (jO h))
theorem at_lt_iff {S : List Str} (hs : S.Pairwise slt) {i j : Nat} (hi : i < S.length) (hj : j < S.length) : slt (at' S i) (at' S j) ↔ i < j := by
 constructor
 ·intro h
  rcases Nat.lt_trichotomy i j with k | k | k
  ·exact k
  ·subst k; exact absurd h (jF _)
  ·exact absurd (slt_trans h (at_lt hs hi k)) (jF _)
 ·exact at_lt hs hj
end Scour
namespace Scour
def endsN (ps : List Str) (t : Str) (n : Nat) : List Nat := (List.range ps.length).filter fun i => decide ((ps.getD i []).length = n /\ ps.getD i [] <:+ t)
def jE (ps : List Str) (t : Str) : Nat -> List Nat
 | 0 => []
 | n + 1 => endsN ps t (n + 1) ++ jE ps t n
def jJ (ps : List Str) (t : Str) : List Nat := jE ps t 64
def zJ (ps : List Str) : Str -> Str -> List (Nat × Nat)
 | _, [] => []
 | t, c :: cs => (jJ ps (t ++ [c])).map (fun p => (p, t.length + 1)) ++ zJ ps (t ++ [c]) cs
theorem feedS_append (ps : List Str) : ∀ (a b t : Str), zJ ps t (a ++ b) = zJ ps t a ++ zJ ps (t ++ a) b
 | [], b, t => by simp [zJ]
 | c :: a, b, t => by
   rw [List.cons_append, zJ, zJ, feedS_append ps a b (t ++ [c]), List.append_assoc, List.append_assoc]
   rfl
theorem lsuf_suffix (S : List Str) : ∀ x, yI S x <:+ x
 | [] => List.suffix_refl _
 | c :: cs => by
   unfold yI
   split
   ·exact List.suffix_refl _
   ·exact (lsuf_suffix S cs).trans (List.suffix_cons c cs)
theorem suffix_cons_of {p : Str} {c : UInt8} {cs : Str} (h : p <:+ c :: cs) : p = c :: cs \/ p <:+ cs := List.suffix_cons_iff.1 h
theorem lsuf_longest (S : List Str) {p : Str} (hp : p ∈ S) : ∀ {x : Str}, p <:+ x -> p <:+ yI S x
 | [], h => h
 | c :: cs, h => by
   unfold yI
   split
   ·exact h
   ·rename_i hn
    rcases suffix_cons_of h with e | e
    ·exact absurd (e ▸ hp) hn
    ·exact lsuf_longest S hp e
theorem endsN_congr {ps : List Str} {t u : Str} {n : Nat} (h : ∀ i, i < ps.length -> (ps.getD i []).length = n -> (ps.getD i [] <:+ t ↔ ps.getD i [] <:+ u)) : endsN ps t n = endsN ps u n := by
 unfold endsN
 apply List.filter_congr
 intro i hi
 have hi' : i < ps.length := by simpa using hi
 rw [decide_eq_decide]
 constructor
 ·rintro ⟨a, b⟩; exact ⟨a, (h i hi' a).1 b⟩
 ·rintro ⟨a, b⟩; exact ⟨a, (h i hi' a).2 b⟩
theorem tellTo_congr {ps : List Str} {t u : Str} : ∀ (n : Nat), (∀ i, i < ps.length -> (ps.getD i []).length <= n -> (ps.getD i [] <:+ t ↔ ps.getD i [] <:+ u)) -> jE ps t n = jE ps u n
 | 0, _ => rfl
 | n + 1, h => by
   rw [jE, jE, endsN_congr (fun i hi e => h i hi (by omega)), tellTo_congr n (fun i hi e => h i hi (by omega))]
theorem endsAll_lsuf {ps S : List Str} (hS : ∀ i, i < ps.length -> ps.getD i [] ∈ S) (t : Str) : jJ ps t = jJ ps (yI S t) :=
 tellTo_congr 64 (fun i hi _ => ⟨fun h => lsuf_longest S (hS i hi) h, fun h => h.trans (lsuf_suffix S t)⟩)
def isPat (ps : List Str) (s : Str) : List Nat := (List.range ps.length).filter fun i => decide (ps.getD i [] = s)
theorem endsN_short {ps : List Str} {t : Str} {n : Nat} (h : t.length < n) : endsN ps t n = [] := by
 unfold endsN
 rw [List.filter_eq_nil_iff]
 intro i _ hd
 have := of_decide_eq_true hd
 have := this.2.length_le
 omega
theorem endsN_is {ps : List Str} {t : Str} : endsN ps t t.length = isPat ps t := by
 unfold endsN isPat
 apply List.filter_congr
 intro i _
 rw [decide_eq_decide]
 constructor
 ·rintro ⟨a, b⟩; exact b.eq_of_length a
 ·intro e; rw [e]; exact ⟨rfl, List.suffix_refl _⟩
theorem suffix_tail {p s : Str} (h : p <:+ s) (hl : p.length < s.length) : p <:+ s.tail := by
 match s, h with
 | [], h => simp at hl
 | c :: cs, h =>
   rcases suffix_cons_of h with e | e
   ·rw [e] at hl; exact absurd hl (Nat.lt_irrefl _)
   ·exact e
theorem tellTo_step {ps S : List Str} (hS : ∀ i, i < ps.length -> ps.getD i [] ∈ S) {s : Str} (h0 : s ≠ []) : ∀ n, jE ps s n = (if s.length <= n then isPat ps s else []) ++ jE ps (yI S s.tail) n
 | 0 => by
   have : 0 < s.length := List.length_pos_iff.2 h0
   rw [if_neg (by omega)]; rfl
 | n + 1 => by
   have h1 : 0 < s.length := List.length_pos_iff.2 h0
   have hf : (yI S s.tail).length < s.length := by
    have := lsuf_len S s.tail
    rw [List.length_tail] at this
    omega
   have ih := tellTo_step hS h0 n
   rw [jE, jE, ih]
   by_cases hn : s.length <= n
   ·rw [if_pos hn, if_pos (by omega), endsN_short (t := s) (by omega), endsN_short (t := yI S s.tail) (by omega)]
    rfl
   ·rw [if_neg hn, List.nil_append]
    by_cases he : s.length = n + 1
    ·rw [if_pos (by omega), ← he, endsN_is, endsN_short (t := yI S s.tail) hf, List.nil_append]
    ·rw [if_neg (by omega), List.nil_append]
     congr 1
     refine endsN_congr (fun i hi e => ⟨fun h => ?_, fun h => ?_⟩)
     ·exact lsuf_longest S (hS i hi) (suffix_tail h (by omega))
     ·exact (h.trans (lsuf_suffix S s.tail)).trans (List.tail_suffix s)
theorem endsAll_step {ps S : List Str} (hS : ∀ i, i < ps.length -> ps.getD i [] ∈ S) {s : Str} (h0 : s ≠ []) (hl : s.length <= 64) : jJ ps s = isPat ps s ++ jJ ps (yI S s.tail) := by
 unfold jJ
 rw [tellTo_step hS h0 64, if_pos hl]
theorem tellTo_nil {ps : List Str} : ∀ n, jE ps [] n = []
 | 0 => rfl
 | n + 1 => by rw [jE, endsN_short (by simp), tellTo_nil n]; rfl
theorem endsAll_nil {ps : List Str} : jJ ps [] = [] := tellTo_nil 64
theorem endsN_lt {ps : List Str} {t : Str} {n i : Nat} (h : i ∈ endsN ps t n) : i < ps.length /\ (ps.getD i []).length = n /\ ps.getD i [] <:+ t := by
 unfold endsN at h
 have := List.mem_filter.1 h
 exact ⟨by simpa using this.1, (of_decide_eq_true this.2)⟩
theorem tellTo_mem {ps : List Str} {t : Str} {i : Nat} : ∀ {n}, i ∈ jE ps t n ↔ i < ps.length /\ 1 <= (ps.getD i []).length /\ (ps.getD i []).length <= n /\ ps.getD i [] <:+ t
 | 0 => by
   constructor
   ·intro h; cases h
   ·rintro ⟨_, a, b, _⟩; omega
 | n + 1 => by
   rw [jE, List.mem_append, tellTo_mem (n := n)]
   constructor
   ·rintro (h | ⟨a, b, c, d⟩)
    ·obtain ⟨a, b, c⟩ := endsN_lt h
     exact ⟨a, by omega, by omega, c⟩
    ·exact ⟨a, b, by omega, d⟩
   ·rintro ⟨a, b, c, d⟩
    by_cases e : (ps.getD i []).length = n + 1
    ·left
     unfold endsN
     exact List.mem_filter.2 ⟨by simpa using a, decide_eq_true ⟨e, d⟩⟩
    ·exact Or.inr ⟨a, b, by omega, d⟩
def tellLt (ps : List Str) (i j : Nat) : Prop := (ps.getD j []).length < (ps.getD i []).length \/ ((ps.getD i []).length = (ps.getD j []).length /\ i < j)
theorem tellTo_sorted {ps : List Str} {t : Str} : ∀ n, (jE ps t n).Pairwise (tellLt ps)
 | 0 => List.Pairwise.nil
 | n + 1 => by
   rw [jE, List.pairwise_append]
   refine ⟨?_, tellTo_sorted n, ?_⟩
   ·have h : (endsN ps t (n + 1)).Pairwise (· < ·) := List.Pairwise.filter _ List.pairwise_lt_range
    refine (List.pairwise_iff_forall_sublist.2 ?_)
    intro a b hab
    have h1 := List.pairwise_iff_forall_sublist.1 h hab
    have ma : a ∈ endsN ps t (n + 1) := hab.subset (by simp)
    have mb : b ∈ endsN ps t (n + 1) := hab.subset (by simp)
    exact Or.inr ⟨by rw [(endsN_lt ma).2.1, (endsN_lt mb).2.1], h1⟩
   ·intro a ha b hb
    have h1 := (endsN_lt ha).2.1
    have h2 := (tellTo_mem.1 hb).2.2.1
    exact Or.inl (by omega)
theorem nodup_leN : ∀ (S T : List Nat), S.Nodup -> (∀ x ∈ S, x ∈ T) -> S.length <= T.length
 | [], _, _, _ => Nat.zero_le _
 | a :: S, T, hn, hs => by
   have ha := hs a List.mem_cons_self
   have hn' := List.nodup_cons.1 hn
   have := nodup_leN S (T.erase a) hn'.2 (fun x hx => by
    have hne : x ≠ a := fun e => hn'.1 (e ▸ hx)
    exact (List.mem_erase_of_ne hne).2 (hs x (List.mem_cons_of_mem _ hx)))
   rw [List.length_erase_of_mem ha] at this
   have hp := List.length_pos_of_mem ha
   simp
   omega
theorem endsAll_len (ps : List Str) (t : Str) : (jJ ps t).length <= ps.length := by
 have hnd : (jJ ps t).Nodup := (tellTo_sorted 64).imp (fun {a b} h e => by
  subst e
  rcases h with h | h
  ·exact Nat.lt_irrefl _ h
  ·exact Nat.lt_irrefl _ h.2)
 have hsub : ∀ i, i ∈ jJ ps t -> i ∈ List.range ps.length := fun i hi => by simpa using (tellTo_mem.1 hi).1
 have := nodup_leN _ _ hnd hsub
 simpa using this
theorem yB (ps : List Str) : ∀ (b t : Str), (zJ ps t b).length <= ps.length * b.length
 | [], t => by simp [zJ]
 | c :: cs, t => by
   have h1 := endsAll_len ps (t ++ [c])
   have h2 := yB ps cs (t ++ [c])
   rw [zJ, List.length_append, List.length_map, List.length_cons, Nat.mul_succ]
   omega
theorem feedS_mem {ps : List Str} {p e : Nat} : ∀ {b t : Str}, (p, e) ∈ zJ ps t b -> p < ps.length /\ e <= t.length + b.length /\ 1 <= e
 | [], t, h => by cases h
 | c :: cs, t, h => by
   rw [zJ, List.mem_append] at h
   rcases h with h | h
   ·obtain ⟨q, hq, he⟩ := List.mem_map.1 h
    simp only [Prod.mk.injEq] at he
    obtain ⟨rfl, rfl⟩ := he
    exact ⟨(tellTo_mem.1 hq).1, by simp, by omega⟩
   ·obtain ⟨a, b, c⟩ := feedS_mem h
    simp at b
    exact ⟨a, by simp; omega, c⟩
end Scour
