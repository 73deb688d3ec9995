import Derived.Test.YtfpohfifdfbpkaaGreatDoorChecked
import Derived.WalkKit
import Derived.WalkSpells
import Derived.Deep.RegionWith
import Derived.Deep.QuietTactic
import Derived.BigQuiet
import Derived.Deep.RegionHeld3
import Derived.WalkSmall
namespace Go.Proofs.YtfpohfifdfbpkaaGreatDoor
open Go.RowKit
theorem zB {p : Prop} (h : p) : Hid p := h
theorem zA {p : Prop} (h : Hid p) : p := h.out
def cmpI (x y : Int) : Int := if x < y then -1 else if y < x then 1 else 0
theorem compareInt_any (x y : Int) (w : World) :
 Calls Tryz.prog 139 #[.int .i64 x, .int .i64 y] w fun e w' => e = .returned (.int .i64 (cmpI x y)) /\ w' = w := by
 unfold cmpI
 rcases Int.lt_trichotomy x y with h | h | h
 ·rw [if_pos h]
  go_enter Tryz.func139, Tryz.ntmps139
  go_wp2
  go_ret
  exact ⟨rfl, rfl⟩
 ·subst h
  rw [if_neg (Int.lt_irrefl x), if_neg (Int.lt_irrefl x)]
  go_enter Tryz.func139, Tryz.ntmps139
  go_wp2
  go_ret
  exact ⟨rfl, rfl⟩
 ·have h' : ¬ x < y := by omega
  rw [if_neg h', if_pos h]
  go_enter Tryz.func139, Tryz.ntmps139
  go_wp2
  go_ret
  exact ⟨rfl, rfl⟩
theorem compareByte_any (x y : Int) (w : World) :
 Calls Tryz.prog 140 #[.int .u8 x, .int .u8 y] w fun e w' => e = .returned (.int .i64 (cmpI x y)) /\ w' = w := by
 unfold cmpI
 rcases Int.lt_trichotomy x y with h | h | h
 ·rw [if_pos h]
  go_enter Tryz.func140, Tryz.ntmps140
  go_wp2
  go_ret
  exact ⟨rfl, rfl⟩
 ·subst h
  rw [if_neg (Int.lt_irrefl x), if_neg (Int.lt_irrefl x)]
  go_enter Tryz.func140, Tryz.ntmps140
  go_wp2
  go_ret
  exact ⟨rfl, rfl⟩
 ·have h' : ¬ x < y := by omega
  rw [if_neg h', if_pos h]
  go_enter Tryz.func140, Tryz.ntmps140
  go_wp2
  go_ret
  exact ⟨rfl, rfl⟩
end Go.Proofs.YtfpohfifdfbpkaaGreatDoor
namespace Go.Proofs.YtfpohfifdfbpkaaGreatDoor
open Go.RowKit
def orI (x y : Int) : Int := if x = 0 then y else x
set_option maxHeartbeats 400000 in
theorem or_any (b : Nat) (x y : Int) (w : World) (h0 : w.cell? ⟨b, 0, none⟩ = some (.int .i64 x)) (h1 : w.cell? ⟨b, 1, none⟩ = some (.int .i64 y)) :
 Calls Tryz.prog 138 #[.slice (some ⟨b, 0, none⟩) 2 2] w fun e w' => e = .returned (.int .i64 (orI x y)) /\ w' = w := by
 unfold orI
 by_cases hx : x = 0
 ·subst hx
  rw [if_pos rfl]
  by_cases hy : y = 0
  ·subst hy
   go_enter Tryz.func138, Tryz.ntmps138
   go_wp2
   refine wp_loop_rounds 3 ?_
   rw [rounds_succ]
   go_wp2
   rw [rounds_succ]
   go_wp2
   rw [rounds_succ]
   go_wp2
   go_ret
   exact ⟨rfl, rfl⟩
  ·have hy' : (y != 0) = true := by simpa using hy
   go_enter Tryz.func138, Tryz.ntmps138
   go_wp2
   refine wp_loop_rounds 3 ?_
   rw [rounds_succ]
   go_wp2
   rw [rounds_succ]
   go_wp2
   go_ret
   exact ⟨rfl, rfl⟩
 ·rw [if_neg hx]
  have hx' : (x != 0) = true := by simpa using hx
  go_enter Tryz.func138, Tryz.ntmps138
  go_wp2
  refine wp_loop_rounds 3 ?_
  rw [rounds_succ]
  go_wp2
  go_ret
  exact ⟨rfl, rfl⟩
end Go.Proofs.YtfpohfifdfbpkaaGreatDoor
namespace Go.Proofs.YtfpohfifdfbpkaaGreatDoor
open Go.RowKit
def cmpS (pa la pb lb : Int) : Int := orI (cmpI pa pb) (cmpI la lb)
set_option maxHeartbeats 1000000 in
theorem compare_any (pa la fa pb lb fb : Int) (w : World) :
 Calls Tryz.prog 111 #[.agg #[.int .i64 pa, .int .u8 la, .int .i64 fa], .agg #[.int .i64 pb, .int .u8 lb, .int .i64 fb]] w fun e w' => e = .returned (.int .i64 (cmpS pa la pb lb)) /\ Below w.heap.size w w' := by
 go_enter Tryz.func111, Tryz.ntmps111
 go_wp2_with fail
 go_region_held3 (fun w' => w'.cell? ⟨w.heap.size, 0, none⟩ = some (.int .i64 pa) /\ w'.cell? ⟨w.heap.size, 1, none⟩ = some (.int .u8 la) /\ w'.cell? ⟨w.heap.size + 1, 0, none⟩ = some (.int .i64 pb) /\ w'.cell? ⟨w.heap.size + 1, 1, none⟩ = some (.int .u8 lb)) (go_keep)
  (first | (go_at_call 139; refine (compareInt_any _ _ _).mono ?_; rintro e w' ⟨rfl, rfl⟩) | (go_at_call 140; refine (compareByte_any _ _ _).mono ?_; rintro e w' ⟨rfl, rfl⟩) | (go_at_call 138; refine (or_any _ (cmpI pa pb) (cmpI la lb) _ (by go_simp) (by go_simp)).mono ?_; rintro e w' ⟨rfl, rfl⟩))
 all_goals go_wp2
 all_goals go_ret
 all_goals exact ⟨rfl, ((((Below.refl _ _).alloc (Nat.le_refl _) _).alloc (by simp) _).alloc (by simp; omega) _).drew⟩
end Go.Proofs.YtfpohfifdfbpkaaGreatDoor
namespace Go.Proofs.YtfpohfifdfbpkaaGreatDoor
open Go.RowKit
theorem bcell {W w1 : World} (hb : Below W.heap.size W w1) : (∀ b o, b < W.heap.size -> w1.cell? ⟨b, o, none⟩ = W.cell? ⟨b, o, none⟩) /\ (∀ b o, b < W.heap.size -> w1.frozen? ⟨b, o, none⟩ = W.frozen? ⟨b, o, none⟩) :=
 ⟨fun b o h => hb.cell (p := ⟨b, o, none⟩) h, fun b o h => hb.frozen (p := ⟨b, o, none⟩) h⟩
theorem jU {W w1 : World} (h : Below W.drew.heap.size W.drew w1) : Below W.heap.size W w1 := (Below.refl _ _).drew.trans h
def Sts (w : World) (b n : Nat) (par lst fl : Nat -> Int) : Prop :=
 ∀ i, i < n -> w.cell? ⟨b, i * 3, none⟩ = some (.int .i64 (par i)) /\ w.cell? ⟨b, i * 3 + 1, none⟩ = some (.int .u8 (lst i)) /\ w.cell? ⟨b, i * 3 + 2, none⟩ = some (.int .i64 (fl i))
theorem Sts.below {w w' : World} {b n B : Nat} {par lst fl : Nat -> Int} (h : Sts w b n par lst fl) (hb : Below B w w') (hB : b < B) : Sts w' b n par lst fl := fun i hi =>
 ⟨(hb.cell (p := ⟨b, i * 3, none⟩) hB).trans (h i hi).1, (hb.cell (p := ⟨b, i * 3 + 1, none⟩) hB).trans (h i hi).2.1, (hb.cell (p := ⟨b, i * 3 + 2, none⟩) hB).trans (h i hi).2.2⟩
theorem Sts.tail {w : World} {b n : Nat} {par lst fl : Nat -> Int} (h : Sts w b (n + 1) par lst fl) (i : Nat) (hi : i < n) :
 w.cell? ⟨b, 3 + i * 3, none⟩ = some (.int .i64 (par (i + 1))) /\ w.cell? ⟨b, 3 + i * 3 + 1, none⟩ = some (.int .u8 (lst (i + 1))) /\ w.cell? ⟨b, 3 + i * 3 + 2, none⟩ = some (.int .i64 (fl (i + 1))) := by
 have := h (i + 1) (by omega)
 rw [show (i + 1) * 3 = 3 + i * 3 from by omega] at this
 exact this
theorem box3 {w wr : World} {x y z : Value} {t : TypeId} (h : Below (w.heap.size + 1) (w.alloc (.cells #[x, y, z] t)) wr) :
 wr.cell? ⟨w.heap.size, 0, none⟩ = some x /\ wr.cell? ⟨w.heap.size, 1, none⟩ = some y /\ wr.cell? ⟨w.heap.size, 2, none⟩ = some z /\ w.heap.size < wr.heap.size := by
 have hs := h.size
 simp at hs
 refine ⟨?_, ?_, ?_, by omega⟩ <;> rw [h.cell (by show w.heap.size < w.heap.size + 1; omega)] <;> simp
def stand (par lst : Nat -> Int) (tp tl : Int) (k : Nat) : Int := cmpS (par (k + 1)) (lst (k + 1)) tp tl
def okB (par lst : Nat -> Int) (tp tl : Int) (n i : Nat) : Bool := decide (i < n) && (stand par lst tp tl i == 0)
structure SEnd (par lst : Nat -> Int) (tp tl : Int) (n i : Nat) : Prop where
 le : i <= n
 lo : ∀ k, k < i -> stand par lst tp tl k < 0
 hi : ∀ k, i <= k -> k < n -> 0 <= stand par lst tp tl k
theorem okB_lt {par lst : Nat -> Int} {tp tl : Int} {n i : Nat} (h : i < n) : okB par lst tp tl n i = (cmpS (par (i + 1)) (lst (i + 1)) tp tl == 0) := by
 unfold okB stand; simp [h]
theorem okB_ge {par lst : Nat -> Int} {tp tl : Int} {n : Nat} : okB par lst tp tl n n = false := by
 unfold okB; simp
set_option maxHeartbeats 1000000 in
theorem search_any (b n cap : Nat) (par lst fl : Nat -> Int) (tp tl tf : Int) (w : World) (hb : b < w.heap.size) (hn : n < 1000000) (hs : Sts w b (n + 1) par lst fl)
 (hmono : ∀ k k', k <= k' -> k' < n -> stand par lst tp tl k' < 0 -> stand par lst tp tl k < 0) :
 Calls Tryz.prog 110 #[.slice (some ⟨b, 3, none⟩) n cap, .agg #[.int .i64 tp, .int .u8 tl, .int .i64 tf], .func (.func 111) #[] #[]] w fun e w' => ∃ i : Nat, e = .returned (.tuple #[.int .i64 i, .bool (okB par lst tp tl n i)]) /\ SEnd par lst tp tl n i /\ Below w.heap.size w w' := by
 have HM := zB hmono
 clear hmono
 go_enter Tryz.func110, Tryz.ntmps110
 go_wp2
 go_loopw [9, 10] (fun vi vj wr => ∃ i j : Nat, vi = .int .i64 i /\ vj = .int .i64 j /\ i <= j /\ j <= n /\ Hid (∀ k, k < i -> stand par lst tp tl k < 0) /\ Hid (∀ k, j <= k -> k < n -> 0 <= stand par lst tp tl k) /\ Below (w.heap.size + 1) (w.alloc (.cells #[.int .i64 tp, .int .u8 tl, .int .i64 tf] 154)) wr)
  (fun vi vj _ => (intOf vj).toNat - (intOf vi).toNat)
 case atStart => exact ⟨0, n, rfl, rfl, Nat.zero_le _, Nat.le_refl _, zB (fun k hk => absurd hk (Nat.not_lt_zero k)), zB (fun k h1 h2 => absurd h1 (by omega)), Below.refl _ _⟩
 case round =>
  obtain ⟨i, j, rfl, rfl, hij, hj, H1, H2, hnx⟩ := hrel
  by_cases hlt : i < j
  ·go_wp2
   have eh : ((i : Int) + j) / 2 = ((i + j) / 2 : Nat) := by omega
   have h1 : i <= (i + j) / 2 := by omega
   have h2 : (i + j) / 2 < j := by omega
   rw [eh]
   clear eh
   generalize (i + j) / 2 = h at h1 h2 ⊢
   obtain ⟨s1, s2, s3⟩ := (hs.below (((Below.refl _ _).alloc (Nat.le_refl _) _).trans (hnx.mono (by omega))) hb).tail h (by omega)
   obtain ⟨x1, x2, x3, hz⟩ := box3 hnx
   have hz1 : b < wr.heap.size := by omega
   have hi0 : (0 : Int) <= (h : Int) := by omega
   have hi1 : (h : Int) < (n : Int) := by omega
   go_region_held3 (fun w' => w'.cell? ⟨w.heap.size, 0, none⟩ = some (.int .i64 tp) /\ w'.cell? ⟨w.heap.size, 1, none⟩ = some (.int .u8 tl) /\ w'.cell? ⟨w.heap.size, 2, none⟩ = some (.int .i64 tf) /\ w'.cell? ⟨b, 3 + h * 3, none⟩ = some (.int .i64 (par (h + 1))) /\ w'.cell? ⟨b, 3 + h * 3 + 1, none⟩ = some (.int .u8 (lst (h + 1))) /\ w'.cell? ⟨b, 3 + h * 3 + 2, none⟩ = some (.int .i64 (fl (h + 1)))) (go_keep)
    (first | (go_at_call 111; refine (compare_any _ _ _ _ _ _ _).mono ?_; rintro e w' ⟨rfl, hbw⟩; replace hbw := jU hbw; obtain ⟨hbc, hbf⟩ := bcell hbw))
   rename_i w' hbw hbc hbf
   have hnx' := hnx.trans (hbw.mono (by omega))
   clear hbc hbf hbw x1 x2 x3 s1 s2 s3 hnx hs
   by_cases hc : cmpS (par (h + 1)) (lst (h + 1)) tp tl < 0
   ·go_wp2
    go_roundw
    case rel => exact ⟨h + 1, j, by go_num, rfl, by omega, hj, zB (fun k hk => zA HM k h (by omega) (by omega) hc), H2, hnx'⟩
    case measure => simp [intOf]; omega
   ·go_wp2
    go_roundw
    case rel => exact ⟨i, h, rfl, rfl, by omega, by omega, H1, zB (fun k g1 g2 => Int.not_lt.1 fun g3 => hc (zA HM h k g1 g2 g3)), hnx'⟩
    case measure => simp [intOf]; omega
  ·have hij' : i = j := by omega
   subst hij'
   by_cases hin : i < n
   ·obtain ⟨s1, s2, s3⟩ := (hs.below (((Below.refl _ _).alloc (Nat.le_refl _) _).trans (hnx.mono (by omega))) hb).tail i (by omega)
    obtain ⟨x1, x2, x3, hz⟩ := box3 hnx
    have hz1 : b < wr.heap.size := by omega
    have hi0 : (0 : Int) <= (i : Int) := by omega
    have hi1 : (i : Int) < (n : Int) := by omega
    have hd : decide ((i : Int) < (n : Int)) = true := by simpa using hin
    go_wp2
    go_region_held3 (fun w' => w'.cell? ⟨w.heap.size, 0, none⟩ = some (.int .i64 tp) /\ w'.cell? ⟨w.heap.size, 1, none⟩ = some (.int .u8 tl) /\ w'.cell? ⟨w.heap.size, 2, none⟩ = some (.int .i64 tf) /\ w'.cell? ⟨b, 3 + i * 3, none⟩ = some (.int .i64 (par (i + 1))) /\ w'.cell? ⟨b, 3 + i * 3 + 1, none⟩ = some (.int .u8 (lst (i + 1))) /\ w'.cell? ⟨b, 3 + i * 3 + 2, none⟩ = some (.int .i64 (fl (i + 1)))) (go_keep)
     (first | (go_at_call 111; refine (compare_any _ _ _ _ _ _ _).mono ?_; rintro e w' ⟨rfl, hbw⟩; replace hbw := jU hbw; obtain ⟨hbc, hbf⟩ := bcell hbw))
    rename_i w' hbw hbc hbf
    have hnx' := hnx.trans (hbw.mono (by omega))
    clear hbc hbf hbw x1 x2 x3 s1 s2 s3 hnx hs
    go_wp2
    go_ret2
    exact ⟨i, by rw [okB_lt hin]; rfl, ⟨by omega, zA H1, zA H2⟩, ((Below.refl _ _).alloc (Nat.le_refl _) _).trans (hnx'.mono (by omega))⟩
   ·have hi' : i = n := by omega
    subst hi'
    go_wp2
    go_quiet (fail)
    go_wp2
    go_ret2
    exact ⟨i, by rw [okB_ge]; rfl, ⟨by omega, zA H1, zA H2⟩, below_drewN (((Below.refl _ _).alloc (Nat.le_refl _) _).trans (hnx.mono (Nat.le_succ _))) _⟩
end Go.Proofs.YtfpohfifdfbpkaaGreatDoor
namespace Go.Proofs.YtfpohfifdfbpkaaGreatDoor
open Go.RowKit
set_option maxHeartbeats 1000000 in
theorem search_none (ao : Option Addr) (cap : Nat) (tp tl tf : Int) (w : World) :
 Calls Tryz.prog 110 #[.slice ao 0 cap, .agg #[.int .i64 tp, .int .u8 tl, .int .i64 tf], .func (.func 111) #[] #[]] w fun e w' => e = .returned (.tuple #[.int .i64 0, .bool false]) /\ Below w.heap.size w w' := by
 go_enter Tryz.func110, Tryz.ntmps110
 go_wp2
 refine wp_loop_rounds 1 ?_
 rw [rounds_succ]
 go_wp2
 go_quiet (fail)
 go_wp2
 go_ret2
 exact ⟨rfl, below_drewN ((Below.refl _ _).alloc (Nat.le_refl _) _) _⟩
set_option maxHeartbeats 1000000 in
theorem find_any (bt bs n cap : Nat) (par lst fl : Nat -> Int) (p b : Int) (w : World) (hbs : bs < w.heap.size) (hn : n < 1000000) (hcap : n + 1 <= cap)
 (ht : w.cell? ⟨bt, 0, none⟩ = some (.slice (some ⟨bs, 0, none⟩) (n + 1) cap)) (hs : Sts w bs (n + 1) par lst fl)
 (hmono : ∀ k k', k <= k' -> k' < n -> stand par lst p b k' < 0 -> stand par lst p b k < 0) :
 Calls Tryz.prog 69 #[.pointer (some ⟨bt, 0, none⟩), .int .i64 p, .int .u8 b] w fun e w' => ∃ i : Nat, e = .returned (.tuple #[.int .i64 (i + 1), .bool (okB par lst p b n i)]) /\ SEnd par lst p b n i /\ Below w.heap.size w w' := by
 by_cases hc : cap = 1
 ·subst hc
  obtain rfl : n = 0 := by omega
  clear hmono hs hcap
  go_enter Tryz.func69, Tryz.ntmps69
  go_wp2_with (go_at_call 110; refine (search_none _ _ _ _ _ _).mono ?_; rintro e w' ⟨rfl, hbw⟩)
  go_ret2
  exact ⟨0, by rw [okB_ge]; rfl, ⟨Nat.le_refl _, fun k hk => absurd hk (Nat.not_lt_zero k), fun k _ hk => absurd hk (Nat.not_lt_zero k)⟩, hbw⟩
 ·have HS := zB (search_any bs n (cap - 1) par lst fl p b 0 w hbs hn hs hmono)
  clear hmono hs
  go_enter Tryz.func69, Tryz.ntmps69
  go_wp2_with (go_at_call 110; refine (zA HS).mono ?_; rintro e w' ⟨i, rfl, hse, hbw⟩; have hile := hse.le)
  go_ret2
  exact ⟨_, rfl, by assumption, by assumption⟩
end Go.Proofs.YtfpohfifdfbpkaaGreatDoor
