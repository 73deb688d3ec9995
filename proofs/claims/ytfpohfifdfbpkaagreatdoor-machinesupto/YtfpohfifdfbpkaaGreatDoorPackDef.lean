import Derived.Test.YtfpohfifdfbpkaaGreatDoorLevelMath
import Derived.Sort.LotB
import Derived.Sort.LotA
namespace Go.Proofs.YtfpohfifdfbpkaaGreatDoor
open Go.RowKit Scour Go.Lib
def occB (ps : List Str) (b : Nat) : Bool := ps.any fun p => p.any fun c => c.toNat == b
def jN (ps : List Str) (b : Nat) : Str := ((List.range b).filter (occB ps)).map UInt8.ofNat
def zL (ps : List Str) : Str := jN ps 256
theorem clsTo_succ (ps : List Str) (b : Nat) : jN ps (b + 1) = jN ps b ++ if occB ps b then [UInt8.ofNat b] else [] := by
 unfold jN
 rw [List.range_succ, List.filter_append, List.map_append]
 congr 1
 cases h : occB ps b <;> simp [h]
theorem clsTo_len (ps : List Str) (b : Nat) : (jN ps b).length <= b := by
 unfold jN
 rw [List.length_map]
 exact Nat.le_trans (List.length_filter_le _ _) (by simp)
def zt (S : List Str) (c : Str) (s : Nat) : Nat -> List (Nat × Nat)
 | 0 => []
 | k + 1 => zt S c s k ++ if zO S s (c.getD k 0) = zO S 0 (c.getD k 0) then [] else [(k + 1, zO S s (c.getD k 0))]
def zU (S : List Str) (c : Str) (s : Nat) : List (Nat × Nat) := zt S c s c.length
theorem excTo_len (S : List Str) (c : Str) (s : Nat) : ∀ k, (zt S c s k).length <= k
 | 0 => Nat.le_refl _
 | k + 1 => by
   have := excTo_len S c s k
   rw [zt, List.length_append]
   split <;> simp <;> omega
def encP (l : List (Nat × Nat)) : List Value := l.flatMap fun p => [.int .i64 p.1, .int .i64 p.2]
theorem encP_append (l r : List (Nat × Nat)) : encP (l ++ r) = encP l ++ encP r := by simp [encP]
theorem encP_len (l : List (Nat × Nat)) : (encP l).length = 2 * l.length := by
 induction l with
 | nil => rfl
 | cons x l ih =>
   have : encP (x :: l) = [.int .i64 x.1, .int .i64 x.2] ++ encP l := rfl
   rw [this, List.length_append, ih]; simp; omega
theorem encP_get : ∀ (l : List (Nat × Nat)) (i : Nat) (p : Nat × Nat), l[i]? = some p -> (encP l)[2 * i]? = some (.int .i64 p.1) /\ (encP l)[2 * i + 1]? = some (.int .i64 p.2)
 | [], i, p, h => by simp at h
 | x :: l, 0, p, h => by
   obtain rfl : x = p := by simpa using h
   exact ⟨rfl, rfl⟩
 | x :: l, i + 1, p, h => by
   have := encP_get l i p (by simpa using h)
   rw [show 2 * (i + 1) = 2 * i + 2 by omega]
   exact this
def zv (cl : List (Int × Int)) : List Value := cl.flatMap fun p => [.int .i64 p.1, .int .i64 p.2]
theorem cellsV_append (l r : List (Int × Int)) : zv (l ++ r) = zv l ++ zv r := by simp [zv]
theorem cellsV_len (l : List (Int × Int)) : (zv l).length = l.length * 2 := by
 induction l with
 | nil => rfl
 | cons x l ih =>
   have : zv (x :: l) = [.int .i64 x.1, .int .i64 x.2] ++ zv l := rfl
   rw [this, List.length_append, ih]; simp; omega
theorem cellsV_get : ∀ (l : List (Int × Int)) (i : Nat) (p : Int × Int), l[i]? = some p -> (zv l)[i * 2]? = some (.int .i64 p.1) /\ (zv l)[i * 2 + 1]? = some (.int .i64 p.2)
 | [], i, p, h => by simp at h
 | x :: l, 0, p, h => by
   obtain rfl : x = p := by simpa using h
   exact ⟨rfl, rfl⟩
 | x :: l, i + 1, p, h => by
   have := cellsV_get l i p (by simpa using h)
   rw [show (i + 1) * 2 = i * 2 + 2 by omega]
   exact this
theorem cellsV_set : ∀ (l : List (Int × Int)) (i : Nat) (a b : Int), ((zv l).set (i * 2) (.int .i64 a)).set (i * 2 + 1) (.int .i64 b) = zv (l.set i (a, b))
 | [], i, a, b => by simp [zv]
 | x :: l, 0, a, b => rfl
 | x :: l, i + 1, a, b => by
   have h := cellsV_set l i a b
   rw [show (i + 1) * 2 = i * 2 + 1 + 1 by omega]
   have e1 : zv (x :: l) = .int .i64 x.1 :: .int .i64 x.2 :: zv l := rfl
   have e2 : zv ((x :: l).set (i + 1) (a, b)) = .int .i64 x.1 :: .int .i64 x.2 :: zv (l.set i (a, b)) := rfl
   rw [e1, e2, ← h]
   rfl
def yo (cl : List (Int × Int)) (l : List (Nat × Nat)) (a : Nat) : Bool := l.all fun p => decide (cl.length <= a + p.1) || decide ((cl.getD (a + p.1) (0, 0)).1 < 0)
def padC (cl : List (Int × Int)) (k : Nat) : List (Int × Int) := cl ++ List.replicate (k + 1 - cl.length) (-1, 0)
def layOne (s a : Nat) (cl : List (Int × Int)) (p : Nat × Nat) : List (Int × Int) := (padC cl (a + p.1)).set (a + p.1) ((s : Int), (p.2 : Int))
def lay (cl : List (Int × Int)) (s : Nat) (l : List (Nat × Nat)) (a : Nat) : List (Int × Int) := l.foldl (layOne s a) cl
theorem padC_len (cl : List (Int × Int)) (k : Nat) : (padC cl k).length = max cl.length (k + 1) := by
 unfold padC; rw [List.length_append, List.length_replicate]; omega
theorem layOne_len (s a : Nat) (cl : List (Int × Int)) (p : Nat × Nat) : (layOne s a cl p).length = max cl.length (a + p.1 + 1) := by
 unfold layOne; rw [List.length_set, padC_len]
theorem all_take {α : Type} (l : List α) (f : α -> Bool) (k : Nat) (h : k < l.length) : (l.take (k + 1)).all f = ((l.take k).all f && f l[k]) := by
 rw [List.take_succ_eq_append_getElem h, List.all_append]; simp
theorem all_false {α : Type} (l : List α) (f : α -> Bool) (k : Nat) (h : k < l.length) (hf : f l[k] = false) : l.all f = false := by
 rw [Bool.eq_false_iff]
 intro h2
 rw [List.all_eq_true] at h2
 rw [h2 _ (List.getElem_mem h)] at hf
 cases hf
structure Mod (P : Nat -> Prop) (w w' : World) : Prop where
 os : w'.os = w.os
 tape : w'.tape = w.tape
 output : w'.output = w.output
 size : w.heap.size <= w'.heap.size
 out : ∀ k, k < w.heap.size -> ¬ P k -> w'.heap[k]? = w.heap[k]?
theorem Mod.refl (P : Nat -> Prop) (w : World) : Mod P w w := ⟨rfl, rfl, rfl, Nat.le_refl _, fun _ _ _ => rfl⟩
theorem Mod.trans {P Q : Nat -> Prop} {w w1 w2 : World} (h : Mod P w w1) (k : Mod Q w1 w2) (hQ : ∀ b, b < w.heap.size -> Q b -> P b) : Mod P w w2 :=
 ⟨k.os.trans h.os, k.tape.trans h.tape, k.output.trans h.output, Nat.le_trans h.size k.size, fun b hb hp => (k.out b (Nat.lt_of_lt_of_le hb h.size) (fun q => hp (hQ b hb q))).trans (h.out b hb hp)⟩
theorem Mod.setCell (w : World) (b o : Nat) (v : Value) : Mod (fun k => k = b) w (w.setCell ⟨b, o, none⟩ v) :=
 ⟨rfl, rfl, rfl, by simp [World.setCell], fun k _ hk => Below.heap_setCell w _ _ k hk⟩
theorem Mod.drewN {P : Nat -> Prop} (w : World) (n : Nat) : Mod P w (w.drewN n) := by
 have h := below_drewN (Below.refl w.heap.size w) n
 exact ⟨h.os, h.tape, h.output, h.size, fun k hk _ => h.block k hk⟩
theorem Mod.below {P : Nat -> Prop} {w w' : World} {B : Nat} (h : Mod P w w') (hB : B <= w.heap.size) (hP : ∀ k, P k -> B <= k) : Below B w w' :=
 ⟨h.os, h.tape, h.output, h.size, fun k hk => h.out k (by omega) (fun p => by have := hP k p; omega)⟩
theorem lay_len {cl : List (Int × Int)} {s a : Nat} : ∀ (l : List (Nat × Nat)), (∀ p, p ∈ l -> p.1 < 1000) -> (lay cl s l a).length <= max cl.length (a + 1000) := by
 intro l
 induction l generalizing cl with
 | nil => intro _; exact Nat.le_max_left _ _
 | cons p l ih =>
   intro h
   have h1 := ih (cl := layOne s a cl p) (fun q hq => h q (List.mem_cons_of_mem _ hq))
   have h2 := h p List.mem_cons_self
   rw [layOne_len] at h1
   have e : lay cl s (p :: l) a = lay (layOne s a cl p) s l a := rfl
   rw [e]
   omega
theorem lay_take {cl : List (Int × Int)} {s a j : Nat} {l : List (Nat × Nat)} {p : Nat × Nat} (hp : l[j]? = some p) : lay cl s (l.take (j + 1)) a = layOne s a (lay cl s (l.take j) a) p := by
 unfold lay
 rw [List.take_add_one, hp, Option.toList_some, List.foldl_append]
 rfl
def za (L : Nat -> List (Nat × Nat)) (d : Nat -> Bool) : Nat -> Int
 | 0 => -1
 | s + 1 => if d s = false /\ 0 < (L s).length /\ (za L d s < 0 \/ (L (za L d s).toNat).length < (L s).length) then (s : Int) else za L d s
theorem jB (L : Nat -> List (Nat × Nat)) (d : Nat -> Bool) : ∀ s, za L d s = -1 \/ ∃ b : Nat, b < s /\ za L d s = b /\ d b = false /\ 0 < (L b).length
 | 0 => Or.inl rfl
 | s + 1 => by
   rw [za]
   split
   ·rename_i h; exact Or.inr ⟨s, by omega, rfl, h.1, h.2.1⟩
   ·rcases jB L d s with h | ⟨b, h1, h2, h3⟩
    ·exact Or.inl h
    ·exact Or.inr ⟨b, by omega, h2, h3⟩
def offOf (cl : List (Int × Int)) (l : List (Nat × Nat)) : Nat := ((List.range (cl.length + 1)).find? (yo cl l)).getD 0
theorem offOf_eq {cl : List (Int × Int)} {l : List (Nat × Nat)} {a : Nat} (ha : a <= cl.length) (hf : yo cl l a = true) (hn : ∀ i, i < a -> yo cl l i = false) : offOf cl l = a := by
 unfold offOf
 have : (List.range (cl.length + 1)).find? (yo cl l) = some a := by
  rw [List.find?_range_eq_some]
  exact ⟨hf, by simp; omega, fun j hj => by simp [hn j hj]⟩
 rw [this]; rfl
theorem free_end {cl : List (Int × Int)} {l : List (Nat × Nat)} : yo cl l cl.length = true := by
 unfold yo
 rw [List.all_eq_true]
 intro p _
 rw [decide_eq_true (show cl.length <= cl.length + p.1 by omega), Bool.true_or]
structure PSt where
 d : Nat -> Bool
 o : Nat -> Int
 cl : List (Int × Int)
def yA (L : Nat -> List (Nat × Nat)) (n : Nat) (p : PSt) : PSt :=
 if za L p.d n < 0 then p else ⟨fun k => if k = (za L p.d n).toNat then true else p.d k, upd p.o (za L p.d n).toNat (offOf p.cl (L (za L p.d n).toNat) : Nat), lay p.cl (za L p.d n).toNat (L (za L p.d n).toNat) (offOf p.cl (L (za L p.d n).toNat))⟩
def zP (L : Nat -> List (Nat × Nat)) (n : Nat) : Nat -> PSt
 | 0 => ⟨fun _ => false, fun _ => 0, []⟩
 | k + 1 => yA L n (zP L n k)
def zI (L : Nat -> List (Nat × Nat)) (n : Nat) : PSt := zP L n n
theorem packTo_end (L : Nat -> List (Nat × Nat)) (n k : Nat) (h : za L (zP L n k).d n < 0) : ∀ m, k <= m -> zP L n m = zP L n k := by
 intro m hm
 obtain ⟨j, rfl⟩ : ∃ j, m = k + j := ⟨m - k, by omega⟩
 induction j with
 | zero => rfl
 | succ j ih =>
   have e := ih (by omega)
   show yA L n (zP L n (k + j)) = zP L n k
   rw [e, yA, if_pos h]
def leftN (d : Nat -> Bool) (n : Nat) : Nat := (List.range n).countP fun s => !d s
theorem leftN_succ (d : Nat -> Bool) (n : Nat) : leftN d (n + 1) = leftN d n + if d n then 0 else 1 := by
 unfold leftN
 rw [List.range_succ, List.countP_append]
 cases h : d n <;> simp [h]
theorem leftN_upd (d : Nat -> Bool) (b : Nat) (hd : d b = false) : ∀ n, b < n -> leftN (fun k => if k = b then true else d k) n + 1 = leftN d n := by
 intro n hn
 have low : ∀ m, m <= b -> leftN (fun k => if k = b then true else d k) m = leftN d m := by
  intro m
  induction m with
  | zero => intro _; rfl
  | succ m ih =>
    intro hm
    rw [leftN_succ, leftN_succ, ih (by omega)]
    simp only [if_neg (show m ≠ b by omega)]
 obtain ⟨j, rfl⟩ : ∃ j, n = b + 1 + j := ⟨n - (b + 1), by omega⟩
 clear hn
 induction j with
 | zero =>
   rw [Nat.add_zero, leftN_succ, leftN_succ, low b (Nat.le_refl _)]
   simp [hd]
 | succ j ih =>
   rw [show b + 1 + (j + 1) = (b + 1 + j) + 1 by omega, leftN_succ, leftN_succ, ← ih]
   simp only [if_neg (show b + 1 + j ≠ b by omega)]
   omega
theorem leftN_none (n : Nat) : leftN (fun _ => false) n = n := by
 induction n with
 | zero => rfl
 | succ n ih => rw [leftN_succ, ih]; simp
theorem lay_le {cl : List (Int × Int)} {s a : Nat} {l : List (Nat × Nat)} (hl : ∀ p, p ∈ l -> p.1 < 1000) (ha : a <= cl.length) : (lay cl s l a).length <= cl.length + 1000 := by
 have := lay_len (cl := cl) (s := s) (a := a) l hl
 omega
theorem excTo_mem {S : List Str} {c : Str} {s : Nat} (hn : ∀ k b, zO S k b < 10000) : ∀ k (p : Nat × Nat), p ∈ zt S c s k -> p.1 <= k /\ p.2 < 10000
 | 0, p, h => by simp [zt] at h
 | k + 1, p, h => by
   rw [zt] at h
   rcases List.mem_append.1 h with h | h
   ·have := excTo_mem hn k p h; omega
   ·split at h
    ·simp at h
    ·obtain rfl : p = (k + 1, zO S s (c.getD k 0)) := by simpa using h
     exact ⟨Nat.le_refl _, hn _ _⟩
end Go.Proofs.YtfpohfifdfbpkaaGreatDoor
namespace Go.Proofs.YtfpohfifdfbpkaaGreatDoor
open Go.Sort
section
variable {α : Type} [Inhabited α]
def siftUp (lt : α -> α -> Bool) (j : Nat) (d : Array α) : Array α :=
 if _h : j = 0 then d else if lt d[(j - 1) / 2]! d[j]! then siftUp lt ((j - 1) / 2) (swp d ((j - 1) / 2) j) else d
termination_by j
decreasing_by omega
theorem siftUp_zero (lt : α -> α -> Bool) (d : Array α) : siftUp lt 0 d = d := by rw [siftUp, dif_pos rfl]
theorem siftUp_go {lt : α -> α -> Bool} {j : Nat} {d : Array α} (h0 : j ≠ 0) (h : lt d[(j - 1) / 2]! d[j]! = true) : siftUp lt j d = siftUp lt ((j - 1) / 2) (swp d ((j - 1) / 2) j) := by
 rw [siftUp, dif_neg h0, if_pos h]
theorem siftUp_stop {lt : α -> α -> Bool} {j : Nat} {d : Array α} (h0 : j ≠ 0) (h : lt d[(j - 1) / 2]! d[j]! = false) : siftUp lt j d = d := by
 rw [siftUp, dif_neg h0, if_neg (by simp [h])]
theorem siftUp_size (lt : α -> α -> Bool) : ∀ (n j : Nat) (d : Array α), j <= n -> (siftUp lt j d).size = d.size := by
 intro n
 induction n with
 | zero => intro j d h; obtain rfl : j = 0 := by omega
           rw [siftUp_zero]
 | succ n ih =>
   intro j d h
   by_cases h0 : j = 0
   ·subst h0; rw [siftUp_zero]
   ·cases hl : lt d[(j - 1) / 2]! d[j]! with
    | false => rw [siftUp_stop h0 hl]
    | true => rw [siftUp_go h0 hl, ih _ _ (by omega), size_swp]
def HeapD (lt : α -> α -> Bool) (n : Nat) (d : Array α) : Prop := ∀ k, 0 < k -> k < n -> lt d[(k - 1) / 2]! d[k]! = false
theorem HeapD.ok {lt : α -> α -> Bool} {n : Nat} {d : Array α} (h : HeapD lt n d) : ∀ i, i < n -> Ok lt 0 n d i := by
 intro i _ k hk hkn
 have := h k (by omega) hkn
 rw [show (k - 1) / 2 = i by omega] at this
 simpa using this
theorem HeapD.of_ok {lt : α -> α -> Bool} {n : Nat} {d : Array α} (h : ∀ i, i < n -> Ok lt 0 n d i) : HeapD lt n d := by
 intro k hk hkn
 have := h ((k - 1) / 2) (by omega) k (by omega) hkn
 simpa using this
structure UpInv (lt : α -> α -> Bool) (n : Nat) (d : Array α) (j : Nat) : Prop where
 rest : ∀ k, 0 < k -> k < n -> k ≠ j -> lt d[(k - 1) / 2]! d[k]! = false
 over : 0 < j -> ∀ k, 0 < k -> k < n -> (k - 1) / 2 = j -> lt d[(j - 1) / 2]! d[k]! = false
theorem siftUp_spec {lt : α -> α -> Bool} (hS : SWO lt) (n : Nat) : ∀ (m j : Nat) (d : Array α), j <= m -> j < n -> n <= d.size -> UpInv lt n d j -> HeapD lt n (siftUp lt j d) /\ PermIn 0 n d (siftUp lt j d) := by
 intro m
 induction m with
 | zero =>
   intro j d hj hn hs hU
   obtain rfl : j = 0 := by omega
   rw [siftUp_zero]
   exact ⟨fun k h1 h2 => hU.rest k h1 h2 (by omega), permIn_refl d _ _⟩
 | succ m ih =>
   intro j d hj hn hs hU
   by_cases h0 : j = 0
   ·subst h0
    rw [siftUp_zero]
    exact ⟨fun k h1 h2 => hU.rest k h1 h2 (by omega), permIn_refl d _ _⟩
   ·cases hl : lt d[(j - 1) / 2]! d[j]! with
    | false =>
      rw [siftUp_stop h0 hl]
      refine ⟨fun k h1 h2 => ?_, permIn_refl d _ _⟩
      by_cases e : k = j
      ·rw [e]; exact hl
      ·exact hU.rest k h1 h2 e
    | true =>
      rw [siftUp_go h0 hl]
      have gI : (swp d ((j - 1) / 2) j)[(j - 1) / 2]! = d[j]! := swp_left d _ _ (by omega) (by omega)
      have gJ : (swp d ((j - 1) / 2) j)[j]! = d[(j - 1) / 2]! := swp_right d _ _ (by omega)
      have gO : ∀ k, k ≠ (j - 1) / 2 -> k ≠ j -> (swp d ((j - 1) / 2) j)[k]! = d[k]! := fun k h1 h2 => swp_other d _ _ _ h1 h2
      have hU2 : UpInv lt n (swp d ((j - 1) / 2) j) ((j - 1) / 2) := by
       refine ⟨fun k h1 h2 hne => ?_, fun hi k h1 h2 hk => ?_⟩
       ·by_cases e : k = j
        ·subst e; rw [gI, gJ]; exact hS.asym hl
        ·rw [gO k hne e]
         by_cases e2 : (k - 1) / 2 = j
         ·rw [e2, gJ]; exact hU.over (by omega) k h1 h2 e2
         ·by_cases e3 : (k - 1) / 2 = (j - 1) / 2
          ·rw [e3, gI]
           have h3 := hU.rest k h1 h2 e
           rw [e3] at h3
           cases h4 : lt d[j]! d[k]! with
           | false => rfl
           | true => rw [hS.trans _ _ _ hl h4] at h3; cases h3
          ·rw [gO _ e3 e2]; exact hU.rest k h1 h2 e
       ·rw [gO (((j - 1) / 2 - 1) / 2) (by omega) (by omega)]
        have h5 := hU.rest ((j - 1) / 2) hi (by omega) (by omega)
        by_cases e : k = j
        ·subst e; rw [gJ]; exact h5
        ·rw [gO k (by omega) e]
         have h6 := hU.rest k h1 h2 e
         rw [hk] at h6
         exact hS.ntrans _ _ _ h5 h6
      obtain ⟨k1, k2⟩ := ih ((j - 1) / 2) (swp d ((j - 1) / 2) j) (by omega) (by omega) (by rw [size_swp]; exact hs) hU2
      exact ⟨k1, permIn_trans _ _ _ _ _ (swp_permIn d 0 n _ _ (by omega) (by omega) (by omega) hn hs) k2⟩
theorem HeapD.push {lt : α -> α -> Bool} {d : Array α} (h : HeapD lt d.size d) (x : α) : UpInv lt (d.size + 1) (d.push x) d.size := by
 have g : ∀ k, k < d.size -> (d.push x)[k]! = d[k]! := fun k hk => by simp [getElem!_def, Array.getElem?_push, Nat.ne_of_lt hk]
 refine ⟨fun k h1 h2 h3 => ?_, fun h0 k h1 h2 h3 => by omega⟩
 rw [g _ (by omega), g _ (by omega)]
 exact h k h1 (by omega)
def heapPush (lt : α -> α -> Bool) (d : Array α) (x : α) : Array α := siftUp lt d.size (d.push x)
theorem heapPush_spec {lt : α -> α -> Bool} (hS : SWO lt) {d : Array α} (h : HeapD lt d.size d) (x : α) : HeapD lt (d.size + 1) (heapPush lt d x) /\ (heapPush lt d x).size = d.size + 1 /\ (heapPush lt d x).toList.Perm (d.toList ++ [x]) := by
 have hz : (d.push x).size = d.size + 1 := by simp
 obtain ⟨h1, h2⟩ := siftUp_spec hS (d.size + 1) d.size d.size (d.push x) (Nat.le_refl _) (by omega) (by omega) (h.push x)
 refine ⟨h1, ?_, ?_⟩
 ·unfold heapPush; rw [siftUp_size lt _ _ _ (Nat.le_refl _)]; exact hz
 ·have h3 := h2.2.2
  have hs2 : (siftUp lt d.size (d.push x)).size = d.size + 1 := by rw [siftUp_size lt _ _ _ (Nat.le_refl _)]; exact hz
  have e1 : (d.push x).extract 0 (d.size + 1) = d.push x := by rw [← hz]; simp
  have e2 : (siftUp lt d.size (d.push x)).extract 0 (d.size + 1) = siftUp lt d.size (d.push x) := by rw [← hs2]; simp
  rw [e1, e2] at h3
  unfold heapPush
  simpa using h3
end
end Go.Proofs.YtfpohfifdfbpkaaGreatDoor
