import Derived.Test.YtfpohfifdfbpkaaGreatDoorSortA
import Derived.Deep.DeepCutAuto
import Derived.Deep.OwnRows
import Derived.BigRegion
import Derived.Deep.LoopGhost
namespace Go.Proofs.YtfpohfifdfbpkaaGreatDoor
open Scour
theorem push_mem {S : List Str} {x y : Str} : y ∈ push S x ↔ y ∈ S \/ y = x := by
 unfold push; split
 ·rename_i h
  constructor
  ·exact Or.inl
  ·rintro (k | rfl)
   ·exact k
   ·exact List.mem_of_getLast? h
 ·simp
theorem push_getLast {S : List Str} {x : Str} : (push S x).getLast? = some x := by
 unfold push; split
 ·assumption
 ·simp
theorem le_last {S : List Str} (h : S.Pairwise slt) {l : Str} (hl : S.getLast? = some l) : ∀ a ∈ S, a = l \/ slt a l := by
 intro a ha
 have hpos : 0 < S.length := List.length_pos_of_mem ha
 have he := (push_last hpos).1 hl
 have hi := List.idxOf_lt_length_of_mem ha
 have hat := jV ha
 generalize S.idxOf a = i at hi hat
 rcases Nat.lt_or_eq_of_le (show i <= S.length - 1 by omega) with g | g
 ·right; rw [← hat, ← he]; exact at_lt h (by omega) g
 ·left; rw [← hat, ← he, g]
theorem push_sorted {S : List Str} (h : S.Pairwise slt) {l x : Str} (hl : S.getLast? = some l) (hx : x = l \/ slt l x) : (push S x).Pairwise slt := by
 unfold push; split
 ·exact h
 ·rename_i hne
  rw [List.pairwise_append]
  refine ⟨h, by simp, ?_⟩
  intro a ha b hb
  simp only [List.mem_singleton] at hb
  subst hb
  have hlx : slt l b := by
   rcases hx with e | e
   ·subst e; exact absurd hl hne
   ·exact e
  rcases le_last h hl a ha with e | e
  ·rw [e]; exact hlx
  ·exact slt_trans e hlx
section
variable {ps : List Str} {os : List Nat} {L : Nat} {S : List Str}
def lx (ps : List Str) (os : List Nat) (L j : Nat) : Str := (pat ps (os.getD j 0)).take L
theorem lev_mem (j : Nat) (x : Str) : x ∈ lev ps os L S j ↔ x ∈ S \/ ∃ i, i < j /\ x = lx ps os L i := by
 induction j with
 | zero => simp [lev]
 | succ j ih =>
   unfold lev
   rw [push_mem, ih]
   constructor
   ·rintro ((k | ⟨i, hi, e⟩) | e)
    ·exact Or.inl k
    ·exact Or.inr ⟨i, by omega, e⟩
    ·exact Or.inr ⟨j, by omega, e⟩
   ·rintro (k | ⟨i, hi, e⟩)
    ·exact Or.inl (Or.inl k)
    ·by_cases g : i = j
     ·subst g; exact Or.inr e
     ·exact Or.inl (Or.inr ⟨i, by omega, e⟩)
theorem lev_sorted (hs : S.Pairwise slt) (hpos : 0 < S.length) (hlen : ∀ x ∈ S, x.length < L) (hL : ∀ j, j < os.length -> L <= (pat ps (os.getD j 0)).length)
 (hasc : ∀ i j, i < j -> j < os.length -> blt (pat ps (os.getD j 0)) (pat ps (os.getD i 0)) = false) :
 ∀ j, j <= os.length -> (lev ps os L S j).Pairwise slt /\ ∃ l, (lev ps os L S j).getLast? = some l /\ (l.length < L \/ ∃ i, i < j /\ l = lx ps os L i /\ i + 1 = j) := by
 intro j
 induction j with
 | zero =>
   intro _
   refine ⟨hs, at' S (S.length - 1), (push_last hpos).2 rfl, Or.inl (hlen _ (jO (by omega)))⟩
 | succ j ih =>
   intro hj
   obtain ⟨h1, l, hl, h2⟩ := ih (by omega)
   have hxl : (lx ps os L j).length = L := by unfold lx; rw [List.length_take]; have := hL j (by omega); omega
   refine ⟨?_, lx ps os L j, push_getLast, Or.inr ⟨j, by omega, rfl, rfl⟩⟩
   refine push_sorted h1 hl ?_
   show lx ps os L j = l \/ slt l (lx ps os L j)
   rcases h2 with h2 | ⟨i, hi, rfl, hij⟩
   ·right; left; rw [hxl]; exact h2
   ·have hxi : (lx ps os L i).length = L := by unfold lx; rw [List.length_take]; have := hL i (by omega); omega
    rcases blt_tri (lx ps os L j) (lx ps os L i) (by rw [hxl, hxi]) with g | g | g
    ·have := blt_take L _ _ (hL j (by omega)) (hL i (by omega)) g
     rw [hasc i j (by omega) (by omega)] at this
     cases this
    ·exact Or.inl g
    ·exact Or.inr (Or.inr ⟨by rw [hxl, hxi], g⟩)
theorem lev_at_le {i j k : Nat} (h : i < (lev ps os L S j).length) (hjk : j <= k) : at' (lev ps os L S k) i = at' (lev ps os L S j) i /\ i < (lev ps os L S k).length := by
 induction k with
 | zero => have : j = 0 := by omega
           subst this; exact ⟨rfl, h⟩
 | succ k ih =>
   by_cases e : j = k + 1
   ·subst e; exact ⟨rfl, h⟩
   ·obtain ⟨h1, h2⟩ := ih (by omega)
    refine ⟨?_, ?_⟩
    ·rw [lev, push_at h2, h1]
    ·rw [lev]; unfold push; split
     ·exact h2
     ·simp; omega
theorem lev_last (hpos : 0 < S.length) (j : Nat) : at' (lev ps os L S (j + 1)) ((lev ps os L S (j + 1)).length - 1) = lx ps os L j :=
 (push_last (lev_pos hpos (j + 1))).1 push_getLast
theorem ends_in (E : Nat -> Int) (hnd : os.Nodup) (hpos : 0 < S.length) (k : Nat) (hk : k <= os.length) : ∀ j, j < k -> ∃ p, p < (lev ps os L S k).length /\ endsTo ps os L S E k (os.getD j 0) = (p : Nat) /\ at' (lev ps os L S k) p = lx ps os L j := by
 induction k with
 | zero => intro j hj; omega
 | succ k ih =>
   intro j hj
   by_cases e : j = k
   ·subst e
    refine ⟨(lev ps os L S (j + 1)).length - 1, by have := lev_pos (ps := ps) (os := os) (L := L) hpos (j + 1); omega, ?_, lev_last hpos j⟩
    rw [endsTo]; unfold upd; rw [if_pos rfl]
   ·obtain ⟨p, hp, h1, h2⟩ := ih (by omega) j (by omega)
    obtain ⟨h3, h4⟩ := lev_at_le hp (Nat.le_succ k)
    refine ⟨p, h4, ?_, h3.trans h2⟩
    rw [endsTo]; unfold upd
    rw [if_neg, h1]
    intro e'
    have g1 : os.getD j 0 = os[j] := by simp [List.getD, show j < os.length by omega]
    have g2 : os.getD k 0 = os[k] := by simp [List.getD, show k < os.length by omega]
    rw [g1, g2] at e'
    exact List.pairwise_iff_getElem.1 hnd j k (by omega) (by omega) (by omega) e'
theorem ends_out (E : Nat -> Int) (i : Nat) (hi : i ∉ os) (k : Nat) (hk : k <= os.length) : endsTo ps os L S E k i = E i := by
 induction k with
 | zero => rfl
 | succ k ih =>
   rw [endsTo]; unfold upd
   rw [if_neg, ih (by omega)]
   intro e
   apply hi
   rw [e]
   simp [List.getD, show k < os.length by omega]
end
/-! ### All levels -/
def yF (ps : List Str) (os : List Nat) (L : Nat) : List Nat := os.filter fun i => decide (L <= (pat ps i).length)
def SL (ps : List Str) (os : List Nat) : Nat -> List Str
 | 0 => [[]]
 | L + 1 => lev ps (yF ps os (L + 1)) (L + 1) (SL ps os L) (yF ps os (L + 1)).length
def EL (ps : List Str) (os : List Nat) : Nat -> Nat -> Int
 | 0 => fun _ => 0
 | L + 1 => endsTo ps (yF ps os (L + 1)) (L + 1) (SL ps os L) (EL ps os L) (yF ps os (L + 1)).length
theorem ordL_succ (ps : List Str) (os : List Nat) (L : Nat) : (yF ps os L).filter (fun i => !decide ((pat ps i).length < L + 1)) = yF ps os (L + 1) := by
 unfold yF
 rw [List.filter_filter]
 apply List.filter_congr
 intro i _
 rw [Bool.eq_iff_iff]
 simp only [Bool.and_eq_true, Bool.not_eq_true', decide_eq_false_iff_not, decide_eq_true_eq]
 omega
theorem ordL_zero (ps : List Str) (os : List Nat) : yF ps os 0 = os := by
 unfold yF; simp
theorem mem_ordL {ps : List Str} {os : List Nat} {L i : Nat} : i ∈ yF ps os L ↔ i ∈ os /\ L <= (pat ps i).length := by
 unfold yF; simp
theorem IsOrder.nodup {ps : List Str} {os : List Nat} (h : IsOrder ps os) : os.Nodup := h.perm.nodup_iff.2 List.nodup_range
theorem IsOrder.mem {ps : List Str} {os : List Nat} (h : IsOrder ps os) {i : Nat} : i ∈ os ↔ i < ps.length := by rw [h.perm.mem_iff]; simp
theorem IsOrder.pw {ps : List Str} {os : List Nat} (h : IsOrder ps os) : os.Pairwise (fun a b => blt (pat ps b) (pat ps a) = false) := by
 rw [List.pairwise_iff_getElem]
 intro i j hi hj hij
 have := h.asc i j hij (by rw [← h.len]; exact hj)
 simpa [List.getD, hi, hj] using this
theorem ordL_asc {ps : List Str} {os : List Nat} (h : IsOrder ps os) (L : Nat) : ∀ i j, i < j -> j < (yF ps os L).length -> blt (pat ps ((yF ps os L).getD j 0)) (pat ps ((yF ps os L).getD i 0)) = false := by
 intro i j hij hj
 have := (h.pw.filter (fun i => decide (L <= (pat ps i).length)))
 have := List.pairwise_iff_getElem.1 this i j (by exact Nat.lt_trans hij hj) hj hij
 have g1 : (yF ps os L).getD j 0 = (yF ps os L)[j] := by simp [List.getD, hj]
 have g2 : (yF ps os L).getD i 0 = (yF ps os L)[i] := by simp [List.getD, show i < (yF ps os L).length by omega]
 rw [g1, g2]
 exact this
structure Levels (ps : List Str) (os : List Nat) (L : Nat) : Prop where
 sorted : (SL ps os L).Pairwise slt
 pos : 0 < (SL ps os L).length
 head : at' (SL ps os L) 0 = []
 len : ∀ x ∈ SL ps os L, x.length <= L
 mem : ∀ x, x ∈ SL ps os L ↔ x = [] \/ ∃ i, i < ps.length /\ 1 <= x.length /\ x.length <= L /\ x.length <= (pat ps i).length /\ x = (pat ps i).take x.length
 ends : ∀ i, i < ps.length -> ∃ p, p < (SL ps os L).length /\ EL ps os L i = (p : Nat) /\ at' (SL ps os L) p = (pat ps i).take L
theorem levels {ps : List Str} {os : List Nat} (h : IsOrder ps os) : ∀ L, Levels ps os L
 | 0 => by
   refine ⟨by simp [SL], by simp [SL], rfl, by simp [SL], ?_, ?_⟩
   ·intro x
    simp only [SL, List.mem_singleton]
    constructor
    ·exact Or.inl
    ·rintro (e | ⟨i, _, h1, h2, _⟩)
     ·exact e
     ·omega
   ·intro i _
    exact ⟨0, by simp [SL], rfl, by simp [SL, at']⟩
 | L + 1 => by
   have ih := levels h L
   have hnd : (yF ps os (L + 1)).Nodup := h.nodup.filter _
   have hL : ∀ j, j < (yF ps os (L + 1)).length -> L + 1 <= (pat ps ((yF ps os (L + 1)).getD j 0)).length := fun j hj => by
    have : (yF ps os (L + 1)).getD j 0 ∈ yF ps os (L + 1) := by simp [List.getD, hj]
    exact (mem_ordL.1 this).2
   have hm : ∀ j, j < (yF ps os (L + 1)).length -> (yF ps os (L + 1)).getD j 0 < ps.length := fun j hj => by
    have : (yF ps os (L + 1)).getD j 0 ∈ yF ps os (L + 1) := by simp [List.getD, hj]
    exact h.mem.1 (mem_ordL.1 this).1
   have hsr := lev_sorted (ps := ps) (os := yF ps os (L + 1)) (L := L + 1) ih.sorted ih.pos (fun x hx => by have := ih.len x hx; omega) hL (ordL_asc h (L + 1))
   have hxl : ∀ j, j < (yF ps os (L + 1)).length -> (lx ps (yF ps os (L + 1)) (L + 1) j).length = L + 1 := fun j hj => by
    unfold lx; rw [List.length_take]; have := hL j hj; omega
   refine ⟨(hsr _ (Nat.le_refl _)).1, lev_pos ih.pos _, ?_, ?_, ?_, ?_⟩
   ·rw [SL, lev_at ih.pos]; exact ih.head
   ·intro x hx
    rw [SL, lev_mem] at hx
    rcases hx with hx | ⟨j, hj, rfl⟩
    ·have := ih.len x hx; omega
    ·rw [hxl j hj]; omega
   ·intro x
    rw [SL, lev_mem, ih.mem]
    constructor
    ·rintro ((e | ⟨i, h1, h2, h3, h4, h5⟩) | ⟨j, hj, rfl⟩)
     ·exact Or.inl e
     ·exact Or.inr ⟨i, h1, h2, by omega, h4, h5⟩
     ·refine Or.inr ⟨_, hm j hj, ?_, ?_, ?_, ?_⟩
      ·rw [hxl j hj]; omega
      ·rw [hxl j hj]; omega
      ·rw [hxl j hj]; exact hL j hj
      ·rw [hxl j hj]; rfl
    ·rintro (e | ⟨i, h1, h2, h3, h4, h5⟩)
     ·exact Or.inl (Or.inl e)
     ·by_cases g : x.length = L + 1
      ·right
       have hi : i ∈ yF ps os (L + 1) := mem_ordL.2 ⟨h.mem.2 h1, by omega⟩
       obtain ⟨j, hj, e⟩ := List.getElem_of_mem hi
       refine ⟨j, hj, ?_⟩
       unfold lx
       rw [h5, g]
       simp [List.getD, hj, e]
      ·exact Or.inl (Or.inr ⟨i, h1, h2, by omega, h4, h5⟩)
   ·intro i hi
    by_cases g : i ∈ yF ps os (L + 1)
    ·obtain ⟨j, hj, e⟩ := List.getElem_of_mem g
     obtain ⟨p, hp, h1, h2⟩ := ends_in (ps := ps) (L := L + 1) (S := SL ps os L) (EL ps os L) hnd ih.pos _ (Nat.le_refl _) j hj
     have hge : (yF ps os (L + 1)).getD j 0 = i := by simp [List.getD, hj, e]
     rw [hge] at h1
     unfold lx at h2
     rw [hge] at h2
     exact ⟨p, hp, h1, h2⟩
    ·obtain ⟨p, hp, h1, h2⟩ := ih.ends i hi
     have hlt : ¬ L + 1 <= (pat ps i).length := fun k => g (mem_ordL.2 ⟨h.mem.2 hi, k⟩)
     refine ⟨p, Nat.lt_of_lt_of_le hp (lev_ge _), ?_, ?_⟩
     ·rw [EL, ends_out _ i g _ (Nat.le_refl _)]; exact h1
     ·rw [SL, lev_at hp, h2, List.take_of_length_le (by omega), List.take_of_length_le (by omega)]
end Go.Proofs.YtfpohfifdfbpkaaGreatDoor
namespace Go.Proofs.YtfpohfifdfbpkaaGreatDoor
open Go.RowKit Scour Go.Shelf Go.Lib Go.Sort
def shortB (ps : List Str) (L i : Nat) : Bool := decide ((pat ps i).length < L)
set_option maxHeartbeats 1000000 in
theorem shortClosure_any (W : World) (B1 B2 bp op m cp x L : Nat) (ps : List Str) (ao : Option Addr) (c : Nat) (hx : x < m)
 (h0 : W.cell? ⟨B1, 0, none⟩ = some (.slice (some ⟨bp, op, none⟩) m cp)) (h1 : W.cell? ⟨bp, op + x, none⟩ = some (.slice ao (pat ps x).length c)) (h2 : W.cell? ⟨B2, 0, none⟩ = some (.int .i64 L)) :
 Calls Tryz.prog 72 #[.int .i64 x, .pointer (some ⟨B1, 0, none⟩), .pointer (some ⟨B2, 0, none⟩)] W fun e w' => e = .returned (.bool (shortB ps L x)) /\ ∃ q, w' = W.drewN q := by
 unfold shortB
 have i1 : (x : Int) < (m : Int) := by omega
 have i3 : (0 : Int) <= (x : Int) := by omega
 generalize (pat ps x).length = n at *
 go_enter Tryz.func72, Tryz.ntmps72
 go_wp2
 go_quiet (fail)
 go_wp2
 go_ret
 refine ⟨?_, _, rfl⟩
 by_cases h : n < L
 ·simp [h]
 ·simp [h]
theorem exists_fin (k : Nat) : ∀ os : List Nat, (∀ x ∈ os, x < k) -> ∃ d : List (Fin k), d.map Fin.val = os
 | [], _ => ⟨[], rfl⟩
 | x :: os, h => by
   obtain ⟨d, hd⟩ := exists_fin k os (fun y hy => h y (List.mem_cons_of_mem _ hy))
   exact ⟨⟨x, h x List.mem_cons_self⟩ :: d, by simp [hd]⟩
theorem filter_vals (k : Nat) (p : Nat -> Bool) : ∀ d : List (Fin k), (d.filter fun x => p x.val).map Fin.val = (d.map Fin.val).filter p
 | [] => rfl
 | x :: d => by
   have ih := filter_vals k p d
   simp only [List.filter_cons, List.map_cons]
   split <;> simp [ih]
theorem delete_any (W : World) (B1 B2 bp op cp bo cap k L : Nat) (ps : List Str) (os : List Nat) (hos : ∀ x ∈ os, x < k + 1) (hl : os.length <= cap) (hbig : os.length < 100000)
 (hO : OrdAt W bo os) (n1 : B1 < W.heap.size /\ B1 ≠ bo) (n2 : B2 < W.heap.size /\ B2 ≠ bo) (n3 : bp < W.heap.size /\ bp ≠ bo)
 (h0 : W.cell? ⟨B1, 0, none⟩ = some (.slice (some ⟨bp, op, none⟩) (k + 1) cp)) (h2 : W.cell? ⟨B2, 0, none⟩ = some (.int .i64 L))
 (hP : ∀ i, i < k + 1 -> ∃ ao c, W.cell? ⟨bp, op + i, none⟩ = some (.slice ao (pat ps i).length c)) :
 Calls Tryz.prog 71 #[.slice (some ⟨bo, 0, none⟩) os.length cap, .func (.func 72) #[] #[.pointer (some ⟨B1, 0, none⟩), .pointer (some ⟨B2, 0, none⟩)]] W fun e w' =>
  e = .returned (.slice (some ⟨bo, 0, none⟩) (os.filter fun i => !shortB ps L i).length cap) /\ OrdAt w' bo (os.filter fun i => !shortB ps L i) /\ W.grownBy w' (some bo) := by
 obtain ⟨d, hd⟩ := exists_fin (k + 1) os hos
 obtain ⟨cur, c1, c2, c3⟩ := hO.ex
 have hdl : d.length = os.length := by rw [← hd]; simp
 have hg : ∀ (V : World), (∀ b o, b < W.heap.size -> b ≠ bo -> V.cell? ⟨b, o, none⟩ = W.cell? ⟨b, o, none⟩) -> ∀ x : Fin (k + 1), FnGives Tryz.prog 72 #[.pointer (some ⟨B1, 0, none⟩), .pointer (some ⟨B2, 0, none⟩)] #[encN (k + 1) x] (.bool (shortB ps L x.val)) V := by
  intro V hV x
  obtain ⟨ao, c, h1⟩ := hP x.val x.isLt
  exact shortClosure_any V B1 B2 bp op (k + 1) cp x.val L ps ao c x.isLt (by rw [hV _ _ n1.1 n1.2]; exact h0) (by rw [hV _ _ n3.1 n3.2]; exact h1) (by rw [hV _ _ n2.1 n2.2]; exact h2)
 have hH : Holds (encN (k + 1)) W bo 0 d.toArray := by
  intro j hj
  simp only [List.size_toArray] at hj
  refine ⟨?_, frozen_of_row W bo (0 + j) cur _ c1⟩
  rw [Nat.zero_add, zC c1, c3 j (by omega), getElem!_pos d.toArray j (by simpa using hj)]
  have : os.getD j 0 = (d[j]).val := by rw [← hd]; simp [List.getD, hj]
  rw [this]
  simp [encN]
 have hS := AnyE.slices_DeleteFunc Tryz.delL (encN (k + 1)) (fun _ => rfl) (fun x => shortB ps L x.val) 72 #[.pointer (some ⟨B1, 0, none⟩), .pointer (some ⟨B2, 0, none⟩)] (enters_of Tryz.func72 (by kernel_rfl) rfl) (0 : Fin (k + 1)) (fun w => by kernel_rfl)
  bo 0 cap d.toArray W (fun V x hb => hg V (fun b o h _ => hb.cell (p := ⟨b, o, none⟩) h) x) (fun n oo dk x hdk => hg _ (fun b o h hne => World.cell?_of_block (a := ⟨b, o, none⟩) ((grown_put (w := W) (g := bo) (n := n) (os := oo) (encN (k + 1)) dk).block b h (by simp [hne]))) x) hH (by simp; omega) (by simp; omega)
 simp only [List.size_toArray, hdl] at hS
 change Calls Tryz.prog 71 _ _ _ at hS
 refine hS.mono ?_
 rintro e w' ⟨rfl, q, rfl⟩
 have hf := filter_vals (k + 1) (fun i => !shortB ps L i) d
 rw [hd] at hf
 have hfl : (d.filter fun x => !shortB ps L x.val).length = (os.filter fun i => !shortB ps L i).length := by rw [← hf]; simp
 have hle : (os.filter fun i => !shortB ps L i).length <= os.length := List.length_filter_le _ _
 refine ⟨by rw [hfl], ?_, ?_⟩
 ·rw [← grow_empty (putRow _ _ _ _ _)]
  refine ⟨_, heap_put (encN (k + 1)) _ c1, by rw [putCells_size]; omega, ?_⟩
  intro j hj
  rw [putCells_get _ _ _ _ (by simp [hfl]; omega) (by simp [hfl]; omega)]
  have hjd : j < (d.filter fun x => !shortB ps L x.val).length := by omega
  have : (os.filter fun i => !shortB ps L i).getD j 0 = ((d.filter fun x => !shortB ps L x.val)[j]).val := by
   rw [← hf]; simp [List.getD, hjd]
  rw [this, getElem!_pos _ j (by simp [hfl]; omega)]
  simp only [List.getElem_toArray]
  rw [List.getElem_append_left hjd]
  rfl
 ·rw [← grow_empty (putRow _ _ _ _ _)]
  exact grown_put (encN (k + 1)) _
end Go.Proofs.YtfpohfifdfbpkaaGreatDoor
namespace Go.Proofs.YtfpohfifdfbpkaaGreatDoor
open Go.RowKit Scour Go.Shelf Go.Lib Go.Sort
theorem mkStates (w : World) : (Instr.makeSlice 142 (.int .i64 1) (.int .i64 1)).run Tryz.prog w = .ok (.slice (some ⟨w.heap.size, 0, none⟩) 1 1) (w.alloc (.cells #[.int .i64 0, .int .u8 0, .int .i64 0] 154)) := by kernel_rfl
theorem rep_root : Rep [[]] (fun _ => 0) (fun _ => 0) := ⟨by simp, rfl, by simp, fun i h0 hi => by simp at hi; omega⟩
theorem zeros_ints (m : Nat) : (madeCells #[Value.int .i64 0] m).toList = zZ (fun _ => 0) m := by
 rw [toList_madeCells_one, ← iota_zero]
 unfold zZ iota
 simp
theorem trie_init_a (w0 : World) (base m H : Nat) (hH : w0.heap.size = H) (hb : base <= H) (hm : m < 100000) :
 Trie (((w0.alloc (.cells #[.int .i64 0, .int .u8 0, .int .i64 0] 154)).alloc (.cells (madeCells #[.int .i64 0] m) 3)).alloc (.cells #[.slice (some ⟨H, 0, none⟩) 1 1, .slice (some ⟨H + 1, 0, none⟩) m m] 144)).drew base (H + 1 + 1) (H + 1) m H 1 [[]] (fun _ => 0) (fun _ => 0) (fun _ => 0) (fun _ => 0) := by
 subst hH
 have h1 := World.ownsRow_lit (base := base) (e := 154) (size := 3) w0 #[.int .i64 0, .int .u8 0, .int .i64 0] 1 hb (by unfold maxLen; omega) rfl
 have h2 := World.ownsRow_lit (base := base) (e := 3) (size := 1) (w0.alloc (.cells #[.int .i64 0, .int .u8 0, .int .i64 0] 154)) (madeCells #[.int .i64 0] m) m (by simp; omega) (by unfold maxLen; omega) (by simp [madeCells])
 rw [zeros_ints, show (w0.alloc (.cells #[.int .i64 0, .int .u8 0, .int .i64 0] 154)).heap.size = w0.heap.size + 1 by simp] at h2
 refine ⟨?_, ((h1.alloc _).alloc _).drew, (h2.alloc _).drew, rep_root, by omega, by omega, by omega⟩
 have := heap_alloc_new ((w0.alloc (.cells #[.int .i64 0, .int .u8 0, .int .i64 0] 154)).alloc (.cells (madeCells #[.int .i64 0] m) 3)) (.cells #[.slice (some ⟨w0.heap.size, 0, none⟩) 1 1, .slice (some ⟨w0.heap.size + 1, 0, none⟩) m m] 144)
 rw [show ((w0.alloc (.cells #[.int .i64 0, .int .u8 0, .int .i64 0] 154)).alloc (.cells (madeCells #[.int .i64 0] m) 3)).heap.size = w0.heap.size + 1 + 1 by simp] at this
 exact this
theorem trie_init_b (w0 : World) (base m H : Nat) (hH : w0.heap.size = H) (hb : base <= H) (hm : m < 100000) :
 Trie (((w0.alloc (.cells (madeCells #[.int .i64 0] m) 3)).alloc (.cells #[.int .i64 0, .int .u8 0, .int .i64 0] 154)).alloc (.cells #[.slice (some ⟨H + 1, 0, none⟩) 1 1, .slice (some ⟨H, 0, none⟩) m m] 144)).drew base (H + 1 + 1) H m (H + 1) 1 [[]] (fun _ => 0) (fun _ => 0) (fun _ => 0) (fun _ => 0) := by
 subst hH
 have h1 := World.ownsRow_lit (base := base) (e := 154) (size := 3) (w0.alloc (.cells (madeCells #[.int .i64 0] m) 3)) #[.int .i64 0, .int .u8 0, .int .i64 0] 1 (by simp; omega) (by unfold maxLen; omega) rfl
 have h2 := World.ownsRow_lit (base := base) (e := 3) (size := 1) w0 (madeCells #[.int .i64 0] m) m hb (by unfold maxLen; omega) (by simp [madeCells])
 rw [zeros_ints] at h2
 rw [show (w0.alloc (.cells (madeCells #[.int .i64 0] m) 3)).heap.size = w0.heap.size + 1 by simp] at h1
 refine ⟨?_, (h1.alloc _).drew, ((h2.alloc _).alloc _).drew, rep_root, by omega, by omega, by omega⟩
 have := heap_alloc_new ((w0.alloc (.cells (madeCells #[.int .i64 0] m) 3)).alloc (.cells #[.int .i64 0, .int .u8 0, .int .i64 0] 154)) (.cells #[.slice (some ⟨w0.heap.size + 1, 0, none⟩) 1 1, .slice (some ⟨w0.heap.size, 0, none⟩) m m] 144)
 rw [show ((w0.alloc (.cells (madeCells #[.int .i64 0] m) 3)).alloc (.cells #[.int .i64 0, .int .u8 0, .int .i64 0] 154)).heap.size = w0.heap.size + 1 + 1 by simp] at this
 exact this
structure zm (ps : List Str) (S : List Str) (E : Nat -> Int) : Prop where
 mem : ∀ x, x ∈ S ↔ x = [] \/ ∃ i, i < ps.length /\ 1 <= x.length /\ x.length <= (pat ps i).length /\ x = (pat ps i).take x.length
 ends : ∀ i, i < ps.length -> ∃ p, p < S.length /\ E i = (p : Nat) /\ at' S p = pat ps i
 len : S.length < 5000
theorem SL_len (ps : List Str) (os : List Nat) (L : Nat) : (SL ps os L).length <= 1 + L * os.length := by
 induction L with
 | zero => simp [SL]
 | succ L ih =>
   rw [SL]
   have h1 := lev_len (ps := ps) (os := yF ps os (L + 1)) (L := L + 1) (S := SL ps os L) (yF ps os (L + 1)).length
   have h2 : (yF ps os (L + 1)).length <= os.length := List.length_filter_le _ _
   rw [Nat.succ_mul]
   omega
theorem SL_bound {ps : List Str} {os : List Nat} {L : Nat} (ho : os.length <= 64) (hL : L <= 65) : (SL ps os L).length <= 4161 := by
 have h1 := SL_len ps os L
 have h2 : L * os.length <= 65 * 64 := Nat.mul_le_mul hL ho
 omega
theorem statesOf {ps : List Str} {os : List Nat} {L : Nat} (h : IsOrder ps os) (h64 : ps.length <= 64) (hL : L <= 65) (he : (yF ps os L).length = 0) : zm ps (SL ps os L) (EL ps os L) := by
 have hl := levels h L
 have hs : ∀ i, i < ps.length -> (pat ps i).length < L := fun i hi => by
  by_cases g : L <= (pat ps i).length
  ·have : i ∈ yF ps os L := mem_ordL.2 ⟨h.mem.2 hi, g⟩
   rw [List.length_eq_zero_iff.1 he] at this
   cases this
  ·omega
 refine ⟨?_, ?_, ?_⟩
 ·intro x
  rw [hl.mem]
  constructor
  ·rintro (e | ⟨i, h1, h2, _, h4, h5⟩)
   ·exact Or.inl e
   ·exact Or.inr ⟨i, h1, h2, h4, h5⟩
  ·rintro (e | ⟨i, h1, h2, h4, h5⟩)
   ·exact Or.inl e
   ·exact Or.inr ⟨i, h1, h2, by have := hs i h1; omega, h4, h5⟩
 ·intro i hi
  obtain ⟨p, h1, h2, h3⟩ := hl.ends i hi
  exact ⟨p, h1, h2, by rw [h3, List.take_of_length_le (by have := hs i hi; omega)]⟩
 ·have := SL_bound (ps := ps) (os := os) (L := L) (by rw [h.len]; exact h64) hL
  omega
theorem ordL_bound {ps : List Str} {os : List Nat} {L : Nat} (h : IsOrder ps os) (hlen : ∀ i, i < ps.length -> (pat ps i).length <= 64) (hne : 0 < (yF ps os L).length) : L <= 64 := by
 obtain ⟨i, hi⟩ := List.exists_mem_of_length_pos hne
 have := mem_ordL.1 hi
 have := hlen i (h.mem.1 this.1)
 omega
theorem failTo_zero {S : List Str} {par lst : Nat -> Int} (h : Rep S par lst) : failTo S 1 = fun _ => 0 := by
 funext k
 unfold failTo
 by_cases e : k = 0
 ·subst e
  have : zc S 0 = 0 := by
   unfold zc
   rw [h.head]
   have := idx_at h.sorted h.pos
   rwa [h.head] at this
  simp [this]
 ·rw [if_neg (by omega)]
structure NewInv (w wr : World) (ap : Option Addr) (cp : Nat) (ps : List Str) (os : List Nat) (bt be bo L bl g cap : Nat) (par lst : Nat -> Int) : Prop where
 trie : Trie wr w.heap.size bt be ps.length g cap (SL ps os L) par lst (fun _ => 0) (EL ps os L)
 ord : OrdAt wr bo (yF ps os L)
 len : wr.heap[bl]? = some (.cells #[.int .i64 ((L + 1 : Nat) : Int)] 3 (0, 0))
 box : wr.heap[w.heap.size]? = some (.cells #[.slice ap ps.length cp] 30 (0, 0))
 below : Below w.heap.size w wr
 ne1 : bo ≠ bt /\ bo ≠ be /\ bo ≠ g
 ne2 : bl ≠ bt /\ bl ≠ be /\ bl ≠ g /\ bl ≠ bo
 big : w.heap.size < bt /\ w.heap.size < be /\ w.heap.size < g /\ w.heap.size < bo /\ w.heap.size < bl
 lt : be < wr.heap.size
theorem blk_alloc {w : World} {o : Obj} {k : Nat} {x : Obj} (h : w.heap[k]? = some x) : (w.alloc o).heap[k]? = some x := by
 rw [Below.heap_alloc w o k (Array.getElem?_eq_some_iff.1 h).1]; exact h
theorem NewInv.start {w wc w2 : World} {ap : Option Addr} {cp : Nat} {ps : List Str} {os : List Nat} {bt be bo g0 : Nat}
 (hT : Trie wc w.heap.size bt be ps.length g0 1 [[]] (fun _ => 0) (fun _ => 0) (fun _ => 0) (fun _ => 0)) (hz : w.heap.size < be /\ w.heap.size < bt /\ w.heap.size < g0 /\ be < wc.heap.size)
 (hbx : wc.heap[w.heap.size]? = some (.cells #[.slice ap ps.length cp] 30 (0, 0))) (hbw : Below w.heap.size w wc) (hbo : wc.heap.size <= bo) (hord : OrdAt w2 bo os) (hbl : Below wc.heap.size wc w2) :
 NewInv w (w2.alloc (.cells #[.int .i64 1] 3)) ap cp ps os bt be bo 0 w2.heap.size g0 1 (fun _ => 0) (fun _ => 0) := by
 have h1 : Below w2.heap.size w2 (w2.alloc (.cells #[.int .i64 1] 3)) := (Below.refl _ _).alloc (Nat.le_refl _) _
 have hbt : bt < wc.heap.size := (Array.getElem?_eq_some_iff.1 hT.blk).1
 have hg := (jI hT.row (by simp)).2.1
 have hws := (Array.getElem?_eq_some_iff.1 hbx).1
 have hsz := hbl.size
 have hbo2 := hord.lt
 refine ⟨(hT.kept hbl).kept h1, ?_, heap_alloc_new w2 _, blk_alloc ((hbl.block _ hws).trans hbx), ?_, ⟨by omega, by omega, by omega⟩, ⟨by omega, by omega, by omega, by omega⟩, ⟨by omega, by omega, by omega, by omega, by omega⟩, by simp; omega⟩
 ·rw [ordL_zero]; exact hord.kept (Below.heap_alloc w2 _ bo hbo2)
 ·exact hbw.trans ((hbl.mono (by omega)).trans (h1.mono (by omega)))
theorem NewInv.mid {w wr w3 : World} {ap : Option Addr} {cp : Nat} {ps : List Str} {os : List Nat} {bt be bo L bl g cap : Nat} {par lst : Nat -> Int} (h : NewInv w wr ap cp ps os bt be bo L bl g cap par lst) (hg : wr.grownBy w3 (some bo)) :
 Trie w3 w.heap.size bt be ps.length g cap (SL ps os L) par lst (fun _ => 0) (EL ps os L) /\ w3.heap[w.heap.size]? = some (.cells #[.slice ap ps.length cp] 30 (0, 0)) /\
  w3.heap[bl]? = some (.cells #[.int .i64 ((L + 1 : Nat) : Int)] 3 (0, 0)) /\ Below w.heap.size w w3 := by
 have n1 := h.ne1
 have n2 := h.ne2
 have nb := h.big
 have hws := (Array.getElem?_eq_some_iff.1 h.box).1
 refine ⟨⟨(hg.block bt (Array.getElem?_eq_some_iff.1 h.trie.blk).1 (by simp; omega)).trans h.trie.blk, h.trie.row.kept hg (Or.inr (by simp only [Value.ownBlock, ne_eq, Option.some.injEq]; omega)), h.trie.ends.kept hg (Or.inr (by simp only [Value.ownBlock, ne_eq, Option.some.injEq]; omega)), h.trie.rep, h.trie.ne⟩, (hg.block _ hws (by simp; omega)).trans h.box, (hg.block bl (Array.getElem?_eq_some_iff.1 h.len).1 (by simp; omega)).trans h.len, h.below.trans (zG hg h.below.size (fun k e => by cases e; omega))⟩
theorem NewInv.next {w wr w3 w4 : World} {ap : Option Addr} {cp : Nat} {ps : List Str} {os : List Nat} {bt be bo L bl g cap g' cap' : Nat} {par lst par' lst' : Nat -> Int} (h : NewInv w wr ap cp ps os bt be bo L bl g cap par lst) (hg : wr.grownBy w3 (some bo))
 (ho : OrdAt w3 bo (yF ps os (L + 1))) (hT : Trie w4 w.heap.size bt be ps.length g' cap' (SL ps os (L + 1)) par' lst' (fun _ => 0) (EL ps os (L + 1))) (hk : Keeps [bt, g, be] w3 w4) (hgg : g' = g \/ w3.heap.size <= g') :
 NewInv w (w4.alloc (.cells #[.int .i64 ((L + 1 + 1 : Nat) : Int)] 3)) ap cp ps os bt be bo (L + 1) w4.heap.size g' cap' par' lst' /\ w4.heap[bl]? = some (.cells #[.int .i64 ((L + 1 : Nat) : Int)] 3 (0, 0)) := by
 obtain ⟨_, m2, m3, m4⟩ := h.mid hg
 have n1 := h.ne1
 have n2 := h.ne2
 have nb := h.big
 have s3 := hg.size
 have s4 := hk.size
 have hlt := h.lt
 have hbo := ho.lt
 have hl3 := (Array.getElem?_eq_some_iff.1 m3).1
 have hw3 := (Array.getElem?_eq_some_iff.1 m2).1
 have hg' := (jI hT.row hT.rep.pos).2.1
 have hbt' : bt < w4.heap.size := (Array.getElem?_eq_some_iff.1 hT.blk).1
 have h5 : Below w4.heap.size w4 (w4.alloc (.cells #[.int .i64 ((L + 1 + 1 : Nat) : Int)] 3)) := (Below.refl _ _).alloc (Nat.le_refl _) _
 have hb4 : Below w.heap.size w w4 := m4.trans (hk.below (by omega) (by intro x hx; simp at hx; rcases hx with rfl | rfl | rfl <;> omega))
 refine ⟨⟨hT.kept h5, ?_, heap_alloc_new w4 _, blk_alloc ((hk.block _ hw3 (by simp; omega)).trans m2), hb4.trans (h5.mono (by omega)), ⟨by omega, by omega, ?_⟩, ⟨by omega, by omega, by omega, by omega⟩, ⟨by omega, by omega, by omega, by omega, by omega⟩, by simp; omega⟩, (hk.block bl hl3 (by simp; omega)).trans m3⟩
 ·exact (ho.kept (hk.block bo hbo (by simp; omega))).kept (Below.heap_alloc w4 _ bo (by omega))
 ·rcases hgg with e | e
  ·rw [e]; exact n1.2.2
  ·omega
set_option maxHeartbeats 2000000 in
theorem new_any (ap : Option Addr) (cp : Nat) (ps : List Str) (w : World) (hP : yO w w.heap.size ap ps) (hne : ∀ i, i < ps.length -> 0 < (pat ps i).length) (hm64 : ps.length <= 64) (hlen : ∀ i, i < ps.length -> (pat ps i).length <= 64) :
 Calls Tryz.prog 45 #[.slice ap ps.length cp] w fun e w' => ∃ (bt be g cap : Nat) (par lst E : Nat -> Int) (S : List Str), e = .returned (.pointer (some ⟨bt, 0, none⟩)) /\ Trie w' w.heap.size bt be ps.length g cap S par lst (fun k => (zc S k : Nat)) E /\ zm ps S E /\ be < w'.heap.size /\ w.heap.size < bt /\ Below w.heap.size w w' := by
 have hm : ps.length < 100000 := by omega
 have HP := zB hP
 have HNE := zB hne
 have hms := mkStates
 have hmi := fun W => run_make_row' (P := Tryz.prog) 24 3 (.int .i64 0) 8 Tryz.underlying24 Tryz.infoI rfl .i64 .i64 ps.length (by omega) (by omega) W
 clear hP hne
 go_enter Tryz.func45, Tryz.ntmps45
 go_wp2
 go_cut [3] (fun v wx => ∃ bt be g, v = .pointer (some ⟨bt, 0, none⟩) /\ Hid (Trie wx w.heap.size bt be ps.length g 1 [[]] (fun _ => 0) (fun _ => 0) (fun _ => 0) (fun _ => 0)) /\ Hid (w.heap.size < be /\ w.heap.size < bt /\ w.heap.size < g /\ be < wx.heap.size) /\ Hid (Below (w.heap.size + 1) (w.alloc (.cells #[.slice ap ps.length cp] 30)) wx))
 case first =>
  go_region
  all_goals go_wp2_with fail
  all_goals go_meet
  ·exact ⟨_, _, _, rfl, zB (trie_init_a _ _ _ (w.heap.size + 1) (by simp) (by omega) hm), zB ⟨by omega, by omega, by omega, by simp⟩, zB ((((Below.refl _ _).alloc (by simp) _).alloc (by simp) _).alloc (by simp) _).drew⟩
  ·exact ⟨_, _, _, rfl, zB (trie_init_b _ _ _ (w.heap.size + 1) (by simp) (by omega) hm), zB ⟨by omega, by omega, by omega, by simp⟩, zB ((((Below.refl _ _).alloc (by simp) _).alloc (by simp) _).alloc (by simp) _).drew⟩
 case rest =>
  obtain ⟨bt, be, g0, rfl, HT, HZ, HB⟩ := hcut
  have hbw : Below w.heap.size w wc := ((Below.refl _ _).alloc (Nat.le_refl _) _).trans ((zA HB).mono (Nat.le_succ _))
  have hzc := (zA HB).size
  simp at hzc
  have hbk : wc.heap[w.heap.size]? = some (.cells #[.slice ap ps.length cp] 30 (0, 0)) := ((zA HB).block w.heap.size (by omega)).trans (heap_alloc_new w _)
  have cbx : wc.cell? ⟨w.heap.size, 0, none⟩ = some (.slice ap ps.length cp) := by rw [zC hbk]; rfl
  have HBK := zB hbk
  have HBW := zB hbw
  have HC := zB (sorted_any ap cp w.heap.size ps wc ((zA HP).below hbw (Nat.le_refl _)) (by omega) (zA HNE) hm)
  clear hbk hbw hms hmi
  go_wp2_with (go_at_call 70; refine (zA HC).mono ?_; rintro e w2 ⟨bo, os, rfl, hbo, hord, hio, hbl⟩; have HORD := zB hord; have HIO := zB hio; have HBL := zB hbl; clear hord hio hbl)
  have HS0 := zB (NewInv.start (zA HT) (zA HZ) (zA HBK) (zA HBW) hbo (zA HORD) (zA HBL))
  clear cbx hzc
  go_loopg [4, 5] 65 (fun n v4 v5 wr => ∃ (L bl g cap : Nat) (par lst : Nat -> Int), v4 = .slice (some ⟨bo, 0, none⟩) (yF ps os L).length ps.length /\ v5 = .pointer (some ⟨bl, 0, none⟩) /\ n + L = 65 /\ Hid (NewInv w wr ap cp ps os bt be bo L bl g cap par lst))
  case atStart => exact ⟨0, w2.heap.size, g0, 1, fun _ => 0, fun _ => 0, by rw [ordL_zero, (zA HIO).len], rfl, rfl, HS0⟩
  case round =>
   obtain ⟨L, bl, g, cap, par, lst, rfl, rfl, hnL, HI⟩ := hrel
   by_cases hlt : 0 < (yF ps os L).length
   ·have hI := zA HI
    have hio := zA HIO
    have hL64 := ordL_bound hio hlen hlt
    obtain ⟨k, hk1⟩ : ∃ k, ps.length = k + 1 := ⟨ps.length - 1, by
     obtain ⟨i, hi⟩ := List.exists_mem_of_length_pos hlt
     have := hio.mem.1 (mem_ordL.1 hi).1
     omega⟩
    have hol : (yF ps os L).length <= ps.length := by rw [← hio.len]; exact List.length_filter_le _ _
    have hol' : (yF ps os (L + 1)).length <= ps.length := by rw [← hio.len]; exact List.length_filter_le _ _
    have hPr := (zA HP).below hI.below (Nat.le_refl _)
    obtain ⟨bp, op, hbp, hap, hpat⟩ := hPr (by omega)
    have hnb := hI.big
    have hn2 := hI.ne2
    have hn1 := hI.ne1
    have hszr := hI.below.size
    have hord := hI.ord.lt
    have hbll := (Array.getElem?_eq_some_iff.1 hI.len).1
    have hwx := (Array.getElem?_eq_some_iff.1 hI.box).1
    have e1 : ((L + 1 : Nat) : Int) = (L : Int) + 1 := by omega
    have cbx : wr.cell? ⟨w.heap.size, 0, none⟩ = some (.slice ap ps.length cp) := by rw [zC hI.box]; rfl
    have cln : wr.cell? ⟨bl, 0, none⟩ = some (.int .i64 ((L : Int) + 1)) := by rw [zC hI.len, e1]; rfl
    have HD := zB (delete_any wr w.heap.size bl bp op cp bo ps.length k (L + 1) ps (yF ps os L) (fun x hx => by have := hio.mem.1 (mem_ordL.1 hx).1; omega) hol (by omega) hI.ord ⟨hwx, by omega⟩ ⟨hbll, by omega⟩ ⟨by omega, by omega⟩ (by rw [cbx, hap, hk1]) (by rw [cln, e1]) (fun i hi => by obtain ⟨ao, c, h4, _⟩ := hpat i (by omega); exact ⟨ao, c, h4⟩))
    have hfo : ((yF ps os L).filter fun i => !shortB ps (L + 1) i) = yF ps os (L + 1) := ordL_succ ps os L
    rw [hfo] at HD
    have HLV : Hid (∀ w3, wr.grownBy w3 (some bo) -> OrdAt w3 bo (yF ps os (L + 1)) -> Calls Tryz.prog 73 #[.pointer (some ⟨bt, 0, none⟩), .slice ap ps.length cp, .slice (some ⟨bo, 0, none⟩) (yF ps os (L + 1)).length ps.length, .int .i64 ((L : Int) + 1)] w3 fun e w' => ∃ (g' cap' : Nat) (par' lst' : Nat -> Int), e = .returned (.tuple #[]) /\ NewInv w (w'.alloc (.cells #[.int .i64 ((L : Int) + 1 + 1)] 3)) ap cp ps os bt be bo (L + 1) w'.heap.size g' cap' par' lst' /\ w'.cell? ⟨bl, 0, none⟩ = some (.int .i64 ((L : Int) + 1))) := zB (by
     intro w3 hg ho
     obtain ⟨m1, m2, m3, m4⟩ := hI.mid hg
     have hs3 := hg.size
     have hlv := levels hio L
     have hc := level_any w.heap.size bt be ps.length g cap bo ps.length ap cp ps (yF ps os (L + 1)) (L + 1) (SL ps os L) par lst (EL ps os L) w3 m1 rfl ((zA HP).below m4 (Nat.le_refl _)) ho.ints (by omega) ⟨by omega, by omega, by omega⟩ (by omega) (by omega) (by omega) (by have := hI.lt; omega)
      (by have := SL_bound (ps := ps) (os := os) (L := L) (by rw [hio.len]; exact hm64) (by omega); omega) ⟨by omega, by omega⟩ (hio.nodup.filter _)
      (fun j hj => by
       have hmem : (yF ps os (L + 1)).getD j 0 ∈ yF ps os (L + 1) := by simp [List.getD, hj]
       have h1 := mem_ordL.1 hmem
       have h2 := hio.mem.1 h1.1
       exact ⟨h2, h1.2, hlv.ends _ h2⟩)
      (fun j hj => (lev_sorted (ps := ps) (os := yF ps os (L + 1)) (L := L + 1) hlv.sorted hlv.pos (fun x hx => by have := hlv.len x hx; omega)
       (fun j hj => by
        have hmem : (yF ps os (L + 1)).getD j 0 ∈ yF ps os (L + 1) := by simp [List.getD, hj]
        exact (mem_ordL.1 hmem).2) (ordL_asc hio (L + 1)) j hj).1)
     rw [e1] at hc
     refine hc.mono ?_
     rintro e w' ⟨g', cap', par', lst', rfl, hT, hK, hgg⟩
     obtain ⟨r1, r2⟩ := hI.next hg ho hT hK hgg
     have e2 : ((L + 1 + 1 : Nat) : Int) = (L : Int) + 1 + 1 := by omega
     rw [e2] at r1
     exact ⟨g', cap', par', lst', rfl, r1, by rw [zC r2, e1]; rfl⟩)
    have HAP := zB hap
    have HK1 := zB hk1
    have hi0 : (0 : Int) < ((yF ps os L).length : Int) := by omega
    have hz0 : w.heap.size < wr.heap.size := by omega
    have hzbo : w.heap.size ≠ bo := by omega
    have hzbl : bl ≠ bo := by omega
    clear hI hio hpat hPr hfo e1 hap hk1 HI
    go_wp2_with (first | (go_at_call 71; refine (zA HD).mono ?_; rintro e w3 ⟨rfl, ho3, hg3⟩; have d0 := (World.cell?_of_block (a := ⟨w.heap.size, 0, none⟩) (hg3.block w.heap.size hz0 (by simp [hzbo]))).trans cbx; have d1 := (World.cell?_of_block (a := ⟨bl, 0, none⟩) (hg3.block bl hbll (by simp [hzbl]))).trans cln; have HO3 := zB ho3; have HG3 := zB hg3; clear ho3 hg3) | (go_at_call 73; refine (zA HLV _ (zA HG3) (zA HO3)).mono ?_; rintro e w4 ⟨g', cap', par', lst', rfl, hI4, c4⟩; have HI4 := zB hI4; clear hI4))
    go_roundg (gk - 1)
    case measure => omega
    case rel => exact ⟨L + 1, w4.heap.size, g', cap', par', lst', rfl, rfl, by omega, HI4⟩
   ·have he : (yF ps os L).length = 0 := by omega
    have hI := zA HI
    have hnb := hI.big
    have hszr := hI.below.size
    have hrow := hI.trie.row
    rw [← failTo_zero hI.trie.rep] at hrow
    have hSO := statesOf (zA HIO) hm64 (by omega) he
    have HSO := zB hSO
    have HE := zB he
    have HC := zB (fails_any bt g cap w.heap.size 144 (SL ps os L) par lst _ wr hI.trie.rep (by have := hSO.len; omega) hI.trie.ne.1 hI.trie.blk hrow)
    have hi0 : ¬ (0 : Int) < ((yF ps os L).length : Int) := by omega
    clear hI hrow hSO he
    go_wp2_with (go_at_call 74; refine (zA HC).mono ?_; rintro e w5 ⟨rfl, ho5, hg5⟩; have HO5 := zB ho5; have HG5 := zB hg5; clear ho5 hg5)
    go_ret
    have hI := zA HI
    have hg5 := zA HG5
    have hbt : bt < wr.heap.size := (Array.getElem?_eq_some_iff.1 hI.trie.blk).1
    refine ⟨bt, be, g, cap, par, lst, EL ps os L, SL ps os L, rfl, ⟨(hg5.block bt hbt (by simp; exact hI.trie.ne.1)).trans hI.trie.blk, zA HO5, hI.trie.ends.kept hg5 (Or.inr (by simp only [Value.ownBlock, ne_eq, Option.some.injEq]; exact hI.trie.ne.2.2)), hI.trie.rep, hI.trie.ne⟩, zA HSO, by have := hI.lt; have := hg5.size; omega, hnb.1, hI.below.trans (zG hg5 hszr (fun x e => by cases e; omega))⟩
end Go.Proofs.YtfpohfifdfbpkaaGreatDoor
