import Derived.Test.YtfpohfifdfbpkaaGreatDoorMath
namespace Scour
theorem blt_total : ∀ a b : Str, blt a b = true \/ a = b \/ blt b a = true
 | [], [] => Or.inr (Or.inl rfl)
 | [], _ :: _ => Or.inl rfl
 | _ :: _, [] => Or.inr (Or.inr rfl)
 | a :: as, b :: bs => by
   unfold blt
   rcases u8_tri a b with g | g | g
   ·left; rw [if_pos g]
   ·subst g
    simp only [yh, if_false]
    rcases blt_total as bs with k | k | k
    ·exact Or.inl k
    ·exact Or.inr (Or.inl (by rw [k]))
    ·exact Or.inr (Or.inr k)
   ·right; right; rw [if_pos g]
theorem blt_take : ∀ (L : Nat) (a b : Str), L <= a.length -> L <= b.length -> blt (a.take L) (b.take L) = true -> blt a b = true
 | 0, a, b, _, _, h => by simp [blt] at h
 | L + 1, [], _, h, _, _ => by simp at h
 | L + 1, _ :: _, [], _, h, _ => by simp at h
 | L + 1, a :: as, b :: bs, h1, h2, h => by
   simp only [List.take_succ_cons] at h
   unfold blt at h ⊢
   rcases u8_tri a b with g | g | g
   ·rw [if_pos g]
   ·subst g
    simp only [yh, if_false] at h ⊢
    exact blt_take L as bs (by simpa using h1) (by simpa using h2) h
   ·simp [u8_lt_asymm g, g] at h
theorem blt_ntrans {a b c : Str} (h1 : blt a b = false) (h2 : blt b c = false) : blt a c = false := by
 cases h : blt a c with
 | false => rfl
 | true =>
   rcases blt_total a b with k | k | k
   ·rw [k] at h1; cases h1
   ·subst k; rw [h] at h2; cases h2
   ·rw [blt_trans k h] at h2; cases h2
end Scour
