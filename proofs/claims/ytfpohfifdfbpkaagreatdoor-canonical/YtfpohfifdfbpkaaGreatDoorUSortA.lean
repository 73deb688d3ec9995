import Derived.Test.YtfpohfifdfbpkaaGreatDoorLeafA
import Derived.Shelf.GgSortFunc.SW
import Derived.Sort.LotA
import Derived.Sort.LotB
import Derived.Sort.WalkA
import Derived.Sort.WalkB3
import Derived.Deep.LoopGhost
import Derived.Deep.QuietTactic
import Derived.BigQuiet
import Derived.BigRegion
namespace Go.Proofs.YtfpohfifdfbpkaaGreatDoor
open Go.RowKit Go.Shelf Go.Lib Go.Sort
theorem zF (x y : Int) (w : World) :
 Calls Tryz.prog 172 #[.int .u8 x, .int .u8 y] w fun e w' => e = .returned (.bool (ltInt x y)) /\ w' = w := by
 have nan : ∀ x w, Calls Tryz.prog 155 #[.int .u8 x] w fun e w' => e = .returned (.bool false) /\ w' = w := by
  intro x w
  go_enter Tryz.func155, Tryz.ntmps155
  go_wp2
  go_ret
  exact ⟨rfl, rfl⟩
 unfold ltInt
 go_enter Tryz.func172, Tryz.ntmps172
 go_wp2_with (go_at_call 155; refine (nan _ _).mono ?_; rintro e w' ⟨rfl, rfl⟩)
 go_ret
 simp
abbrev eU : Int -> Value := Value.int .u8
structure zR (w0 : World) (blk off : Nat) (d : Array Int) (W : World) : Prop where
 sw : SW eU w0 blk off d W
 hold : Holds eU W blk off d
 lt : blk < w0.heap.size
theorem zR.drewN {w0 W : World} {blk off : Nat} {d : Array Int} (h : zR w0 blk off d W) (q : Nat) : zR w0 blk off d (W.drewN q) := ⟨h.sw.drewN q, h.hold, h.lt⟩
theorem zR.drew {w0 W : World} {blk off : Nat} {d : Array Int} (h : zR w0 blk off d W) : zR w0 blk off d W.drew := h.drewN 1
theorem zR.swap {w0 W : World} {blk off : Nat} {d : Array Int} (h : zR w0 blk off d W) (i j : Nat) (hi : i < d.size) (hj : j < d.size) :
 zR w0 blk off (swp d i j) ((W.setCell ⟨blk, off + i, none⟩ (eU d[j]!)).setCell ⟨blk, off + j, none⟩ (eU d[i]!)) := by
 have h2 := h.sw.swap h.lt i j hi hj
 refine ⟨h2, ?_, h.lt⟩
 obtain ⟨n, os, e⟩ := h.sw
 intro k hk
 have hks : k < d.size := by rwa [size_swp] at hk
 have hfz := (h.hold k hks).2
 refine ⟨?_, by rw [World.frozen?_setCell, World.frozen?_setCell]; exact hfz⟩
 by_cases ej : k = j
 ·subst ej
  rw [World.cell?_setCell_same' _ _ _ (by
   by_cases e : i = k
   ·subst e; rw [World.cell?_setCell_same' _ _ _ (by rw [(h.hold i hi).1]; rfl)]; rfl
   ·rw [World.cell?_setCell_other _ _ _ _ (by intro e'; simp only [Addr.mk.injEq] at e'; omega), (h.hold k hks).1]; rfl), swp_right d i k hj]
 ·rw [World.cell?_setCell_other _ _ _ _ (by intro e'; simp only [Addr.mk.injEq] at e'; omega)]
  by_cases ei : k = i
  ·subst ei
   rw [World.cell?_setCell_same' _ _ _ (by rw [(h.hold k hi).1]; rfl), swp_left d k j hi ej]
  ·rw [World.cell?_setCell_other _ _ _ _ (by intro e'; simp only [Addr.mk.injEq] at e'; omega), (h.hold k hks).1, swp_other d i j k ei ej]
structure UCells (W : World) (blk off n : Nat) (G : Nat -> Int) : Prop where
 c : ∀ t, t < n -> W.cell? ⟨blk, off + t, none⟩ = some (.int .u8 (G t))
 f : ∀ t, t < n -> W.frozen? ⟨blk, off + t, none⟩ = false
theorem zR.cells {w0 W : World} {blk off : Nat} {d : Array Int} (h : zR w0 blk off d W) : ∃ G : Nat -> Int, (∀ t, G t = d[t]!) /\ UCells W blk off d.size G :=
 ⟨fun t => d[t]!, fun _ => rfl, ⟨fun t ht => (h.hold t ht).1, fun t ht => (h.hold t ht).2⟩⟩
end Go.Proofs.YtfpohfifdfbpkaaGreatDoor
namespace Go.Proofs.YtfpohfifdfbpkaaGreatDoor
open Go.RowKit Go.Shelf Go.Lib Go.Sort
theorem uins_size (a : Nat) : ∀ (j : Nat) (d : Array Int), (insInner ltInt a j d).size = d.size
 | 0, d => by rw [insInner]
 | j + 1, d => by
   rw [insInner]
   split
   ·rw [uins_size a j, size_swp]
   ·rfl
set_option maxHeartbeats 4000000 in
set_option maxRecDepth 100000 in
theorem uInsertion (w0 : World) (blk off cap a b n : Nat) (d : Array Int) (w : World) (hn : d.size = n) (h : zR w0 blk off d w) (hab : a <= b) (hb : b <= n) (hsz : n < 4611686018427387904) :
 Calls Tryz.prog 166 #[.slice (some ⟨blk, off, none⟩) n cap, .int .i64 a, .int .i64 b] w fun e w' => e = .returned (.tuple #[]) /\ zR w0 blk off (insertionSort ltInt d a b) w' := by
 have H := zB h
 have HN := zB hn
 clear h hn
 go_enter Tryz.func166, Tryz.ntmps166
 go_wp2
 go_loopw [6] (fun vi wr => ∃ (i : Nat) (dk : Array Int), vi = .int .i64 i /\ a < i /\ i <= b + 1 /\ Hid (dk.size = n /\ zR w0 blk off dk wr /\ insOuter ltInt a b i dk = insOuter ltInt a b (a + 1) d)) (fun vi _ => b + 1 - (intOf vi).toNat)
 case atStart => exact ⟨a + 1, d, by go_num, by omega, by omega, zB ⟨zA HN, zA H, rfl⟩⟩
 case round =>
  obtain ⟨i, dk, rfl, hai, hib, HK⟩ := hrel
  go_wp2
  ·have hlt : i < b := by assumption
   go_loopw [7] (fun vj wr2 => ∃ (j : Nat) (dj : Array Int), vj = .int .i64 j /\ a <= j /\ j <= i /\ Hid (dj.size = n /\ zR w0 blk off dj wr2 /\ insInner ltInt a j dj = insInner ltInt a i dk)) (fun vj _ => (intOf vj).toNat)
   case atStart => exact ⟨i, dk, rfl, by omega, Nat.le_refl _, zB ⟨(zA HK).1, (zA HK).2.1, rfl⟩⟩
   case round =>
    obtain ⟨j, dj, rfl, haj, hji, HJ⟩ := hrel
    obtain ⟨G, hG, hU⟩ := (zA HJ).2.1.cells
    rw [(zA HJ).1] at hU
    have hcw := hU.c
    have hfw := hU.f
    have HG := zB hG
    clear hG hU
    have OUT : Hid ((j <= a \/ ltInt dj[j]! dj[j - 1]! = false) -> ∀ q, ∃ i' dk', Value.int .i64 ((i : Int) + 1) = .int .i64 (i' : Nat) /\ a < i' /\ i' <= b + 1 /\ Hid (dk'.size = n /\ zR w0 blk off dk' (wr.drewN q) /\ insOuter ltInt a b i' dk' = insOuter ltInt a b (a + 1) d)) := zB fun hs q =>
     ⟨i + 1, dj, by go_num, by omega, by omega, zB ⟨(zA HJ).1, (zA HJ).2.1.drewN q, by rw [← (zA HK).2.2, insOuter_go _ _ _ _ _ hlt, ← (zA HJ).2.2, insInner_stop _ _ _ _ hs]⟩⟩
    go_wp2
    by_cases hja : a < j
    ·go_quiet (first | (go_at_call 172; refine Calls.quiet_of_same (zF _ _ _)))
     go_wp2
     ·have hl : ltInt (G j) (G (j - 1)) = true := by assumption
      go_region
      all_goals go_wp2
      go_roundw
      case rel =>
       refine ⟨j - 1, swp dj j (j - 1), by congr 1; omega, by omega, by omega, zB ⟨by rw [size_swp]; exact (zA HJ).1, ?_, ?_⟩⟩
       ·rw [zA HG, zA HG]
        exact ((zA HJ).2.1.drewN (nq + 1)).swap j (j - 1) (by rw [(zA HJ).1]; omega) (by rw [(zA HJ).1]; omega)
       ·rw [← (zA HJ).2.2, insInner_go ltInt a j dj hja (by rw [← zA HG, ← zA HG]; exact hl)]
      case measure => simp [intOf]; omega
     ·have hl : ltInt (G j) (G (j - 1)) = false := by assumption
      go_roundw
      case rel => exact zA OUT (Or.inr (by rw [← zA HG, ← zA HG]; exact hl)) nq
      case measure => simp [intOf]; omega
    ·go_quiet (first | (go_at_call 172; refine Calls.quiet_of_same (zF _ _ _)))
     go_wp2
     go_roundw
     case rel => exact zA OUT (Or.inl (by omega)) nq
     case measure => simp [intOf]; omega
  ·have hge : ¬ i < b := by assumption
   go_end0
   refine ⟨rfl, ?_⟩
   have e : dk = insertionSort ltInt d a b := by unfold insertionSort; rw [← (zA HK).2.2, insOuter_stop _ _ _ _ _ hge]
   rw [← e]
   exact (zA HK).2.1
end Go.Proofs.YtfpohfifdfbpkaaGreatDoor
namespace Go.Proofs.YtfpohfifdfbpkaaGreatDoor
open Go.RowKit Go.Shelf Go.Lib Go.Sort
theorem sd_stop {lt : Int -> Int -> Bool} {hi F r : Nat} {d : Array Int} (h : hi <= 2 * r + 1) : siftDown lt hi F r d = d := by rw [siftDown, dif_pos h]
theorem sd_step {lt : Int -> Int -> Bool} {hi F r c : Nat} {d : Array Int} (h : 2 * r + 1 < hi) (hc : (c = 2 * r + 2 /\ 2 * r + 2 < hi /\ lt d[F + (2 * r + 1)]! d[F + (2 * r + 1) + 1]! = true) \/ (c = 2 * r + 1 /\ (¬ 2 * r + 2 < hi \/ lt d[F + (2 * r + 1)]! d[F + (2 * r + 1) + 1]! = false))) :
 siftDown lt hi F r d = if lt d[F + r]! d[F + c]! then siftDown lt hi F c (swp d (F + r) (F + c)) else d := by
 rw [siftDown, dif_neg (by omega)]
 rcases hc with ⟨rfl, h1, h2⟩ | ⟨rfl, h1⟩
 ·rw [if_pos (by rw [h2]; simp; omega), dif_pos h1]
  cases lt d[F + r]! d[F + (2 * r + 2)]! <;> simp
 ·rw [if_neg (by rcases h1 with h1 | h1 <;> simp [h1])]
  cases lt d[F + r]! d[F + (2 * r + 1)]! <;> simp
set_option maxHeartbeats 8000000 in
set_option maxRecDepth 100000 in
theorem uSift (w0 : World) (blk off cap lo hi F n : Nat) (d : Array Int) (w : World) (hn : d.size = n) (h : zR w0 blk off d w) (hlo : lo <= hi) (hF : F + hi <= n) (hsz : n < 2305843009213693952) :
 Calls Tryz.prog 180 #[.slice (some ⟨blk, off, none⟩) n cap, .int .i64 lo, .int .i64 hi, .int .i64 F] w fun e w' => e = .returned (.tuple #[]) /\ zR w0 blk off (siftDown ltInt hi F lo d) w' := by
 have H := zB h
 have HN := zB hn
 clear h hn
 go_enter Tryz.func180, Tryz.ntmps180
 go_wp2
 go_loopw [8] (fun vi wr => ∃ (r : Nat) (dk : Array Int), vi = .int .i64 r /\ r <= hi /\ Hid (dk.size = n /\ zR w0 blk off dk wr /\ siftDown ltInt hi F r dk = siftDown ltInt hi F lo d)) (fun vi _ => hi - (intOf vi).toNat)
 case atStart => exact ⟨lo, d, rfl, hlo, zB ⟨zA HN, zA H, rfl⟩⟩
 case round =>
  obtain ⟨r, dk, rfl, hr, HK⟩ := hrel
  obtain ⟨G, hG, hU⟩ := (zA HK).2.1.cells
  rw [(zA HK).1] at hU
  have hcw := hU.c
  have hfw := hU.f
  have HG := zB hG
  clear hG hU
  by_cases hch : 2 * r + 1 < hi
  ·have hlt : r < hi := by omega
   obtain ⟨c, hc⟩ : ∃ c : Nat, 2 * r + 1 = c := ⟨_, rfl⟩
   have hci : (2 * (r : Int) + 1) = (c : Int) := by omega
   have HCE := zB hc
   have hc1 : c < hi := by omega
   have hc2 : r < c := by omega
   have hw1 : IntKind.i64.wrap ((c : Int) + 1) = (c : Int) + 1 := IntWalk.i64_in _ (by omega)
   have hw2 : IntKind.i64.wrap ((F : Int) + (c : Int)) = (F : Int) + (c : Int) := IntWalk.i64_in _ (by omega)
   have hw3 : IntKind.i64.wrap ((F : Int) + (c : Int) + 1) = (F : Int) + (c : Int) + 1 := IntWalk.i64_in _ (by omega)
   have hw4 : IntKind.i64.wrap ((F : Int) + (r : Int)) = (F : Int) + (r : Int) := IntWalk.i64_in _ (by omega)
   have hw5 : IntKind.i64.wrap ((F : Int) + ((c : Int) + 1)) = (F : Int) + ((c : Int) + 1) := IntWalk.i64_in _ (by omega)
   go_wp2
   clear hci hc hch
   by_cases h2 : c + 1 < hi
   ·have h2i : (c : Int) + 1 < (hi : Int) := by omega
    go_quiet (first | (go_at_call 172; refine Calls.quiet_of_same (zF _ _ _)))
    go_wp2
    ·have hl : ltInt (G (F + c)) (G (F + c + 1)) = true := by assumption
     have HC : Hid (∀ t : Array Int, (∀ x, G x = t[x]!) -> siftDown ltInt hi F r t = if ltInt (G (F + r)) (G (F + (c + 1))) then siftDown ltInt hi F (c + 1) (swp t (F + r) (F + (c + 1))) else t) := zB fun t ht => by
      have hc := zA HCE
      subst hc
      rw [sd_step (c := 2 * r + 2) hc1 (Or.inl ⟨rfl, h2, by rw [← ht, ← ht]; exact hl⟩), ht, ht]
     have hcx : ∀ t, t < n -> (wr.drewN nq).cell? ⟨blk, off + t, none⟩ = some (.int .u8 (G t)) := hcw
     have hfx : ∀ t, t < n -> (wr.drewN nq).frozen? ⟨blk, off + t, none⟩ = false := hfw
     have HX : Hid (zR w0 blk off dk (wr.drewN nq)) := zB ((zA HK).2.1.drewN nq)
     clear hcw hfw
     generalize wr.drewN nq = wq at *
     go_quiet (first | (go_at_call 172; refine Calls.quiet_of_same (zF _ _ _)))
     go_wp2
     ·have hm' : (!ltInt (G (F + r)) (G (F + c + 1))) = true := by assumption
      have hm : ltInt (G (F + r)) (G (F + c + 1)) = false := by simpa using hm'
      clear hm'
      (try simp only [Exit.inBlock, Exit.then])
      refine bodyPost_ret (results_none rfl _ _ _) rfl ?_
      refine ⟨rfl, ?_⟩
      have hq := zA HC dk (zA HG)
      rw [show ltInt (G (F + r)) (G (F + (c + 1))) = false from hm] at hq
      rw [← (zA HK).2.2, hq]
      exact (zA HX).drewN _
     ·have hm' : (!ltInt (G (F + r)) (G (F + c + 1))) = false := by assumption
      have hm : ltInt (G (F + r)) (G (F + c + 1)) = true := by simpa using hm'
      clear hm'
      go_region
      all_goals go_wp2
      go_roundw
      case rel =>
       refine ⟨(c + 1), swp dk (F + r) (F + (c + 1)), by congr 1, by omega, zB ⟨by rw [size_swp]; exact (zA HK).1, ?_, ?_⟩⟩
       ·rw [zA HG, zA HG]
        exact ((zA HX).drewN _).swap (F + r) (F + (c + 1)) (by rw [(zA HK).1]; omega) (by rw [(zA HK).1]; omega)
       ·have hq := zA HC dk (zA HG)
        rw [show ltInt (G (F + r)) (G (F + (c + 1))) = true from hm] at hq
        rw [← (zA HK).2.2, hq]; rfl
      case measure => simp [intOf]; omega
    ·have hl : ltInt (G (F + c)) (G (F + c + 1)) = false := by assumption
     have HC : Hid (∀ t : Array Int, (∀ x, G x = t[x]!) -> siftDown ltInt hi F r t = if ltInt (G (F + r)) (G (F + c)) then siftDown ltInt hi F c (swp t (F + r) (F + c)) else t) := zB fun t ht => by
      have hc := zA HCE
      subst hc
      rw [sd_step (c := 2 * r + 1) hc1 (Or.inr ⟨rfl, Or.inr (by rw [← ht, ← ht]; exact hl)⟩), ht, ht]
     have hcx : ∀ t, t < n -> (wr.drewN nq).cell? ⟨blk, off + t, none⟩ = some (.int .u8 (G t)) := hcw
     have hfx : ∀ t, t < n -> (wr.drewN nq).frozen? ⟨blk, off + t, none⟩ = false := hfw
     have HX : Hid (zR w0 blk off dk (wr.drewN nq)) := zB ((zA HK).2.1.drewN nq)
     clear hcw hfw
     generalize wr.drewN nq = wq at *
     go_quiet (first | (go_at_call 172; refine Calls.quiet_of_same (zF _ _ _)))
     go_wp2
     ·have hm' : (!ltInt (G (F + r)) (G (F + c))) = true := by assumption
      have hm : ltInt (G (F + r)) (G (F + c)) = false := by simpa using hm'
      clear hm'
      (try simp only [Exit.inBlock, Exit.then])
      refine bodyPost_ret (results_none rfl _ _ _) rfl ?_
      refine ⟨rfl, ?_⟩
      have hq := zA HC dk (zA HG)
      rw [show ltInt (G (F + r)) (G (F + c)) = false from hm] at hq
      rw [← (zA HK).2.2, hq]
      exact (zA HX).drewN _
     ·have hm' : (!ltInt (G (F + r)) (G (F + c))) = false := by assumption
      have hm : ltInt (G (F + r)) (G (F + c)) = true := by simpa using hm'
      clear hm'
      go_region
      all_goals go_wp2
      go_roundw
      case rel =>
       refine ⟨c, swp dk (F + r) (F + c), by congr 1, by omega, zB ⟨by rw [size_swp]; exact (zA HK).1, ?_, ?_⟩⟩
       ·rw [zA HG, zA HG]
        exact ((zA HX).drewN _).swap (F + r) (F + c) (by rw [(zA HK).1]; omega) (by rw [(zA HK).1]; omega)
       ·have hq := zA HC dk (zA HG)
        rw [show ltInt (G (F + r)) (G (F + c)) = true from hm] at hq
        rw [← (zA HK).2.2, hq]; rfl
      case measure => simp [intOf]; omega
   ·have h2i : decide ((c : Int) + 1 < (hi : Int)) = false := by simp; omega
    go_quiet (first | (go_at_call 172; refine Calls.quiet_of_same (zF _ _ _)))
    go_wp2
    have HC : Hid (∀ t : Array Int, (∀ x, G x = t[x]!) -> siftDown ltInt hi F r t = if ltInt (G (F + r)) (G (F + c)) then siftDown ltInt hi F c (swp t (F + r) (F + c)) else t) := zB fun t ht => by
     have hc := zA HCE
     subst hc
     rw [sd_step (c := 2 * r + 1) hc1 (Or.inr ⟨rfl, Or.inl h2⟩), ht, ht]
    have hcx : ∀ t, t < n -> (wr.drewN nq).cell? ⟨blk, off + t, none⟩ = some (.int .u8 (G t)) := hcw
    have hfx : ∀ t, t < n -> (wr.drewN nq).frozen? ⟨blk, off + t, none⟩ = false := hfw
    have HX : Hid (zR w0 blk off dk (wr.drewN nq)) := zB ((zA HK).2.1.drewN nq)
    clear hcw hfw
    generalize wr.drewN nq = wq at *
    go_quiet (first | (go_at_call 172; refine Calls.quiet_of_same (zF _ _ _)))
    go_wp2
    ·have hm' : (!ltInt (G (F + r)) (G (F + c))) = true := by assumption
     have hm : ltInt (G (F + r)) (G (F + c)) = false := by simpa using hm'
     clear hm'
     (try simp only [Exit.inBlock, Exit.then])
     refine bodyPost_ret (results_none rfl _ _ _) rfl ?_
     refine ⟨rfl, ?_⟩
     have hq := zA HC dk (zA HG)
     rw [show ltInt (G (F + r)) (G (F + c)) = false from hm] at hq
     rw [← (zA HK).2.2, hq]
     exact (zA HX).drewN _
    ·have hm' : (!ltInt (G (F + r)) (G (F + c))) = false := by assumption
     have hm : ltInt (G (F + r)) (G (F + c)) = true := by simpa using hm'
     clear hm'
     go_region
     all_goals go_wp2
     go_roundw
     case rel =>
      refine ⟨c, swp dk (F + r) (F + c), by congr 1, by omega, zB ⟨by rw [size_swp]; exact (zA HK).1, ?_, ?_⟩⟩
      ·rw [zA HG, zA HG]
       exact ((zA HX).drewN _).swap (F + r) (F + c) (by rw [(zA HK).1]; omega) (by rw [(zA HK).1]; omega)
      ·have hq := zA HC dk (zA HG)
       rw [show ltInt (G (F + r)) (G (F + c)) = true from hm] at hq
       rw [← (zA HK).2.2, hq]; rfl
     case measure => simp [intOf]; omega
  ·go_wp2
   go_end0
   refine ⟨rfl, ?_⟩
   rw [← (zA HK).2.2, sd_stop (by omega)]
   exact (zA HK).2.1
end Go.Proofs.YtfpohfifdfbpkaaGreatDoor
