import Derived.Test.YtfpohfifdfbpkaaGreatDoorNext
import Derived.Deep.AppendLies
import Derived.Deep.RegionLaw
namespace Go.Proofs.YtfpohfifdfbpkaaGreatDoor
open Go.RowKit Scour
theorem grown_trans {a b c : World} {r : Option Nat} (h : a.grownBy b r) (k : b.grownBy c r) : a.grownBy c r :=
 ⟨k.os.trans h.os, k.tape.trans h.tape, k.output.trans h.output, Nat.le_trans h.size k.size, fun i hi hne => (k.block i (Nat.lt_of_lt_of_le hi h.size) hne).trans (h.block i hi hne)⟩
theorem zM {w w' : World} (h : Below w.heap.size w w') (r : Option Nat) : w.grownBy w' r := ⟨h.os, h.tape, h.output, h.size, fun k hk _ => h.block k hk⟩
theorem zG {B : Nat} {w w' : World} {r : Option Nat} (h : w.grownBy w' r) (hB : B <= w.heap.size) (hr : ∀ k, r = some k -> B <= k) : Below B w w' := (Below.refl B w).grown h hB hr
def yE (par lst fl : Nat -> Int) (n : Nat) : List Value := (List.range n).flatMap fun i => [.int .i64 (par i), .int .u8 (lst i), .int .i64 (fl i)]
theorem cellsF_succ (par lst fl : Nat -> Int) (n : Nat) : yE par lst fl (n + 1) = yE par lst fl n ++ [.int .i64 (par n), .int .u8 (lst n), .int .i64 (fl n)] := by
 unfold yE; rw [List.range_succ, List.flatMap_append]; simp
theorem cellsF_length (par lst fl : Nat -> Int) (n : Nat) : (yE par lst fl n).length = n * 3 := by
 induction n with
 | zero => rfl
 | succ n ih => rw [cellsF_succ, List.length_append, ih]; simp; omega
theorem cellsF_get (par lst fl : Nat -> Int) (n : Nat) (i : Nat) (hi : i < n) :
 (yE par lst fl n)[i * 3]? = some (.int .i64 (par i)) /\ (yE par lst fl n)[i * 3 + 1]? = some (.int .u8 (lst i)) /\ (yE par lst fl n)[i * 3 + 2]? = some (.int .i64 (fl i)) := by
 induction n with
 | zero => omega
 | succ n ih =>
   rw [cellsF_succ]
   have hl := cellsF_length par lst fl n
   by_cases h : i < n
   ·obtain ⟨a, b, c⟩ := ih h
    refine ⟨?_, ?_, ?_⟩ <;> rw [List.getElem?_append_left (by omega)] <;> assumption
   ·have : i = n := by omega
    subst this
    refine ⟨?_, ?_, ?_⟩ <;> rw [List.getElem?_append_right (by omega), hl] <;> simp
theorem cellsF_congr {par lst fl par' lst' fl' : Nat -> Int} {n : Nat} (h : ∀ i, i < n -> par i = par' i /\ lst i = lst' i /\ fl i = fl' i) : yE par lst fl n = yE par' lst' fl' n := by
 induction n with
 | zero => rfl
 | succ n ih =>
   rw [cellsF_succ, cellsF_succ, ih (fun i hi => h i (by omega)), (h n (by omega)).1, (h n (by omega)).2.1, (h n (by omega)).2.2]
def upd (f : Nat -> Int) (i : Nat) (x : Int) : Nat -> Int := fun k => if k = i then x else f k
theorem cellsF_set (par lst fl : Nat -> Int) (n i : Nat) (x : Int) (hi : i < n) : (yE par lst fl n).set (i * 3 + 2) (.int .i64 x) = yE par lst (upd fl i x) n := by
 induction n with
 | zero => omega
 | succ n ih =>
   rw [cellsF_succ, cellsF_succ]
   have hl := cellsF_length par lst fl n
   by_cases h : i < n
   ·rw [List.set_append_left _ _ (by omega), ih h]
    have : upd fl i x n = fl n := by unfold upd; rw [if_neg (by omega)]
    rw [this]
   ·have : i = n := by omega
    subst this
    rw [List.set_append_right _ _ (by omega), hl]
    have e : yE par lst (upd fl i x) i = yE par lst fl i := cellsF_congr fun k hk => ⟨rfl, rfl, by unfold upd; rw [if_neg (by omega)]⟩
    rw [e]
    have : i * 3 + 2 - i * 3 = 2 := by omega
    rw [this]
    simp [upd]
theorem sts_of_owns {w : World} {base e g n cap : Nat} {par lst fl : Nat -> Int} (h : w.ownsRow base e 3 (.slice (some ⟨g, 0, none⟩) n cap) n (yE par lst fl n)) : Sts w g n par lst fl := fun i hi => by
 obtain ⟨a, b, c⟩ := cellsF_get par lst fl n i hi
 exact ⟨(h.cellAt _ (by omega)).trans a, (h.cellAt _ (by omega)).trans b, (h.cellAt _ (by omega)).trans c⟩
theorem jI {w : World} {base e s g n cap : Nat} {xs : List Value} (h : w.ownsRow base e s (.slice (some ⟨g, 0, none⟩) n cap) n xs) (hn : 0 < n) : base <= g /\ g < w.heap.size /\ n <= cap := by
 rcases h.2 with ⟨hv, h0⟩ | ⟨g', cap', cur, hv, hb, hg, hc, _⟩
 ·omega
 ·simp only [Value.slice.injEq, Option.some.injEq, Addr.mk.injEq, and_true, true_and] at hv
  obtain ⟨rfl, rfl⟩ := hv
  exact ⟨hb, (Array.getElem?_eq_some_iff.1 hg).1, hc⟩
theorem set_far {w : World} {b o b' o' : Nat} {v : Value} (h : b ≠ b' \/ o ≠ o') : (w.setCell ⟨b, o, none⟩ v).cell? ⟨b', o', none⟩ = w.cell? ⟨b', o', none⟩ :=
 World.cell?_setCell_other w _ _ v (fun e => by simp only [Addr.mk.injEq, and_true] at e; omega)
theorem zC {w : World} {b t : Nat} {cs : Array Value} {fr : Nat × Nat} (h : w.heap[b]? = some (.cells cs t fr)) (j : Nat) : w.cell? ⟨b, j, none⟩ = cs[j]? := cell_of_row w b j cs t fr h
end Go.Proofs.YtfpohfifdfbpkaaGreatDoor
namespace Go.Proofs.YtfpohfifdfbpkaaGreatDoor
open Go.RowKit Scour
def failTo (S : List Str) (i k : Nat) : Int := if k < i then (zc S k : Nat) else 0
theorem failTo_upd (S : List Str) (i : Nat) (x : Int) (hx : x = (zc S i : Nat)) : upd (failTo S i) i x = failTo S (i + 1) := by
 funext k
 unfold upd failTo
 by_cases h : k = i
 ·subst h; simp [hx]
 ·rw [if_neg h]
  by_cases g : k < i
  ·rw [if_pos g, if_pos (by omega)]
  ·rw [if_neg g, if_neg (by omega)]
theorem failTo_one (S : List Str) (i : Nat) (h : zc S i = 0) : failTo S i = failTo S (i + 1) := by
 funext k
 unfold failTo
 by_cases g : k < i
 ·rw [if_pos g, if_pos (by omega)]
 ·rw [if_neg g]
  by_cases e : k = i
  ·subst e; simp [h]
  ·rw [if_neg (by omega)]
theorem Rep.fail_root {S : List Str} {par lst : Nat -> Int} (h : Rep S par lst) {i : Nat} (h0 : 0 < i) (hi : i < S.length) (hp : par i = 0) : zc S i = 0 := by
 obtain ⟨p, c, e1, hlt, _, e⟩ := h.kids i h0 hi
 have : p = 0 := by omega
 subst this
 unfold zc
 rw [e, h.head]
 show S.idxOf (yI S []) = 0
 have := idx_at h.sorted h.pos
 rwa [h.head] at this
theorem Rep.fail_next {S : List Str} {par lst : Nat -> Int} (h : Rep S par lst) {i p : Nat} {c : UInt8} (h0 : 0 < p) (hp : p < S.length) (e : at' S i = at' S p ++ [c]) : zO S (zc S p) c = zc S i := by
 obtain ⟨q, d, _, _, _, e'⟩ := h.kids p h0 hp
 unfold zO
 rw [h.at_fail]
 unfold zc
 rw [e]
 have : (at' S p ++ [c]).tail = (at' S p).tail ++ [c] := by
  rw [e']
  cases at' S q <;> simp
 rw [this, lsuf_snoc S h.closed c (at' S p).tail]
set_option maxHeartbeats 2000000 in
theorem fails_any (bt g cap base tt : Nat) (S : List Str) (par lst : Nat -> Int) (vE : Value) (w : World) (hR : Rep S par lst) (hn : S.length < 1000000) (hne : bt ≠ g)
 (ht : w.heap[bt]? = some (.cells #[.slice (some ⟨g, 0, none⟩) S.length cap, vE] tt (0, 0)))
 (hown : w.ownsRow base 154 3 (.slice (some ⟨g, 0, none⟩) S.length cap) S.length (yE par lst (failTo S 1) S.length)) :
 Calls Tryz.prog 74 #[.pointer (some ⟨bt, 0, none⟩)] w fun e w' => e = .returned (.tuple #[]) /\ w'.ownsRow base 154 3 (.slice (some ⟨g, 0, none⟩) S.length cap) S.length (yE par lst (fun k => (zc S k : Nat)) S.length) /\ w.grownBy w' (some g) := by
 have hpos := hR.pos
 obtain ⟨hbg, hg, hcap⟩ := jI hown hpos
 have hbt : bt < w.heap.size := (Array.getElem?_eq_some_iff.1 ht).1
 have HT := zB ht
 have HO := zB hown
 clear ht hown
 go_enter Tryz.func74, Tryz.ntmps74
 go_wp2_with fail
 go_loopw [2] (fun v wr => ∃ i : Nat, v = .int .i64 i /\ 1 <= i /\ i <= S.length /\ Hid (wr.ownsRow base 154 3 (.slice (some ⟨g, 0, none⟩) S.length cap) S.length (yE par lst (failTo S i) S.length)) /\ Hid (w.grownBy wr (some g))) (fun v _ => S.length - (intOf v).toNat)
 case atStart => exact ⟨1, rfl, Nat.le_refl _, hpos, HO, zB (World.grownBy.refl _ _)⟩
 case round =>
  obtain ⟨i, rfl, h1, hle, HOw, HG⟩ := hrel
  have hsz := (zA HG).size
  have hbt' : bt < wr.heap.size := by omega
  have hg' : g < wr.heap.size := by omega
  have hblk := ((zA HG).block bt hbt (by simp [hne])).trans (zA HT)
  have ct : wr.cell? ⟨bt, 0, none⟩ = some (.slice (some ⟨g, 0, none⟩) S.length cap) := by rw [zC hblk]; rfl
  by_cases hlt : i < S.length
  ·have hsts := sts_of_owns (zA HOw)
   obtain ⟨c1, c2, c3⟩ := hsts i hlt
   obtain ⟨p, c, e1, hp, e2, e3⟩ := hR.kids i (by omega) hlt
   rw [e1] at c1
   rw [e2] at c2
   have hi1 : (i : Int) < (S.length : Int) := by omega
   have hi0 : (0 : Int) <= (i : Int) := by omega
   by_cases h0 : p = 0
   ·have HF := zB (failTo_one S i (hR.fail_root (by omega) hlt (by omega)))
    subst h0
    have HE1 := zB e1
    have HE2 := zB e2
    have HE3 := zB e3
    clear c2 c3 hblk hsts e1 e2 e3
    go_wp2
    go_roundw
    case rel => exact ⟨i + 1, by go_num, by omega, hlt, by rw [← zA HF]; exact HOw, HG⟩
    case measure => simp [intOf]; omega
   ·obtain ⟨d1, d2, d3⟩ := hsts p (by omega)
    have hfp : failTo S i p = (zc S p : Nat) := by unfold failTo; rw [if_pos hp]
    rw [hfp] at d3
    have hfl := hR.fail_lt (k := p) (by omega) (by omega)
    have hnl := hR.next_lt (zc S p) c
    have HFN := zB (hR.fail_next (by omega) (by omega) e3)
    have HC := zB (fun w' h1 h2 h3 h4 => next_any bt g cap S par lst (failTo S i) (zc S p) c w' hR (by omega) h1 h2 hn hcap h3 h4 (fun k hk => by unfold failTo; rw [if_pos (by omega)]))
    have HST := zB hsts
    have hpi : ¬ p = i := by omega
    have hpne : ((p : Int) != 0) = true := by simp [h0]
    have hp1 : (p : Int) < (S.length : Int) := by omega
    have hp0 : (0 : Int) <= (p : Int) := by omega
    have fz : wr.frozen? ⟨g, i * 3 + 2, none⟩ = false := (zA HOw).frozenAt _
    have HE1 := zB e1
    have HE2 := zB e2
    have HE3 := zB e3
    clear d1 d2 hfp hsts e1 e2 e3 hblk hfl hnl
    go_wp2
    go_region_held3 (fun w' => w'.cell? ⟨bt, 0, none⟩ = some (.slice (some ⟨g, 0, none⟩) S.length cap) /\ w'.cell? ⟨g, i * 3, none⟩ = some (.int .i64 p) /\ w'.cell? ⟨g, i * 3 + 1, none⟩ = some (.int .u8 c.toNat) /\ w'.cell? ⟨g, p * 3 + 2, none⟩ = some (.int .i64 (zc S p))) (first | go_keep | (refine ⟨?_, ?_, ?_, ?_⟩ <;> rw [set_far (by omega)] <;> simp [*]))
     (first | (go_at_call 43; refine (zA HC _ ?_ ?_ ?_ ?_).mono ?_; exact hbt'; exact hg'; exact ct; exact zA HST; rintro e w' ⟨rfl, hbw⟩; replace hbw := jU hbw; obtain ⟨hbc, hbf⟩ := bcell hbw))
    rename_i w' hbw hbc hbf
    have hgr := grown_trans (zA HG) (zM hbw (some g))
    have hst := (((zA HOw).kept (zM hbw none) (by simp [Value.ownBlock])).stored (i * 3 + 2) (.int .i64 (zO S (zc S p) c)))
    rw [cellsF_set _ _ _ _ _ _ hlt, failTo_upd S i _ (by rw [zA HFN])] at hst
    have HS1 := zB hst.1
    have HS2 := zB (grown_trans hgr hst.2)
    clear hbc hbf hbw hgr hst
    go_wp2
    go_roundw
    case rel => exact ⟨i + 1, by go_num, by omega, hlt, HS1, HS2⟩
    case measure => simp [intOf]; omega
  ·have hi : i = S.length := by omega
   subst hi
   have HF := zB (show yE par lst (failTo S S.length) S.length = yE par lst (fun k => (zc S k : Nat)) S.length from cellsF_congr fun k hk => ⟨rfl, rfl, by unfold failTo; rw [if_pos hk]⟩)
   clear hblk
   go_wp2
   go_end0
   exact ⟨rfl, by rw [← zA HF]; exact zA HOw, zA HG⟩
end Go.Proofs.YtfpohfifdfbpkaaGreatDoor
namespace Go.Proofs.YtfpohfifdfbpkaaGreatDoor
open Go.RowKit Scour
def pat (ps : List Str) (i : Nat) : Str := ps.getD i []
def jD (w : World) (B : Nat) (ao : Option Addr) (s : Str) : Prop :=
 0 < s.length -> ∃ b o, b < B /\ ao = some ⟨b, o, none⟩ /\ ∀ j, j < s.length -> w.cell? ⟨b, o + j, none⟩ = some (.int .u8 (s.getD j 0).toNat)
def yO (w : World) (B : Nat) (ap : Option Addr) (ps : List Str) : Prop :=
 0 < ps.length -> ∃ bp op, bp < B /\ ap = some ⟨bp, op, none⟩ /\ ∀ i, i < ps.length -> ∃ ao c, w.cell? ⟨bp, op + i, none⟩ = some (.slice ao (pat ps i).length c) /\ jD w B ao (pat ps i)
theorem jD.below {w w' : World} {B B' : Nat} {ao : Option Addr} {s : Str} (h : jD w B ao s) (hb : Below B' w w') (hB : B <= B') : jD w' B ao s := fun h0 => by
 obtain ⟨b, o, h1, h2, h3⟩ := h h0
 exact ⟨b, o, h1, h2, fun j hj => (hb.cell (p := ⟨b, o + j, none⟩) (by show b < B'; omega)).trans (h3 j hj)⟩
theorem yO.below {w w' : World} {B B' : Nat} {ap : Option Addr} {ps : List Str} (h : yO w B ap ps) (hb : Below B' w w') (hB : B <= B') : yO w' B ap ps := fun h0 => by
 obtain ⟨bp, op, h1, h2, h3⟩ := h h0
 refine ⟨bp, op, h1, h2, fun i hi => ?_⟩
 obtain ⟨ao, c, h4, h5⟩ := h3 i hi
 exact ⟨ao, c, (hb.cell (p := ⟨bp, op + i, none⟩) (by show bp < B'; omega)).trans h4, h5.below hb hB⟩
structure Keeps (M : List Nat) (w w' : World) : Prop where
 os : w'.os = w.os
 tape : w'.tape = w.tape
 output : w'.output = w.output
 size : w.heap.size <= w'.heap.size
 block : ∀ k, k < w.heap.size -> k ∉ M -> w'.heap[k]? = w.heap[k]?
theorem Keeps.refl (M : List Nat) (w : World) : Keeps M w w := ⟨rfl, rfl, rfl, Nat.le_refl _, fun _ _ _ => rfl⟩
theorem Keeps.grown {M : List Nat} {w a b : World} {r : Option Nat} (h : Keeps M w a) (k : a.grownBy b r) (hr : ∀ x, r = some x -> x ∈ M \/ w.heap.size <= x) : Keeps M w b :=
 ⟨k.os.trans h.os, k.tape.trans h.tape, k.output.trans h.output, Nat.le_trans h.size k.size, fun i hi hm => (k.block i (Nat.lt_of_lt_of_le hi h.size) (fun e => by
  rcases hr i e.symm with g | g
  ·exact hm g
  ·omega)).trans (h.block i hi hm)⟩
theorem Keeps.trans {M : List Nat} {w a b : World} (h : Keeps M w a) (k : Keeps M a b) : Keeps M w b :=
 ⟨k.os.trans h.os, k.tape.trans h.tape, k.output.trans h.output, Nat.le_trans h.size k.size, fun i hi hm => (k.block i (Nat.lt_of_lt_of_le hi h.size) hm).trans (h.block i hi hm)⟩
theorem Keeps.below {M : List Nat} {w a : World} (h : Keeps M w a) {B : Nat} (hB : B <= w.heap.size) (hM : ∀ x ∈ M, B <= x) : Below B w a :=
 ⟨h.os, h.tape, h.output, h.size, fun k hk => h.block k (by omega) (fun hm => by have := hM k hm; omega)⟩
theorem keeps_of_below {w w' : World} (h : Below w.heap.size w w') (M : List Nat) : Keeps M w w' := ⟨h.os, h.tape, h.output, h.size, fun k hk _ => h.block k hk⟩
def zZ (E : Nat -> Int) (m : Nat) : List Value := (List.range m).map fun i => .int .i64 (E i)
theorem zi (E : Nat -> Int) (m : Nat) : (zZ E m).length = m := by simp [zZ]
theorem zW (E : Nat -> Int) (m i : Nat) (h : i < m) : (zZ E m)[i]? = some (.int .i64 (E i)) := by simp [zZ, h]
theorem yq (E : Nat -> Int) (m i : Nat) (x : Int) : (zZ E m).set i (.int .i64 x) = zZ (upd E i x) m := by
 apply List.ext_getElem?
 intro j
 rw [List.getElem?_set]
 by_cases hj : j < m
 ·rw [zW _ _ _ hj, zW _ _ _ hj, zi]
  by_cases h : i = j
  ·subst h; simp [upd, hj]
  ·rw [if_neg h]; unfold upd; rw [if_neg (fun e => h e.symm)]
 ·rw [List.getElem?_eq_none (by rw [zi]; omega), List.getElem?_eq_none (by rw [zi]; omega)]
  split
  ·split
   ·rename_i h1 h2; rw [zi] at h2; omega
   ·rfl
  ·rfl
theorem take_snoc (s : Str) (l : Nat) (h : l < s.length) : s.take (l + 1) = s.take l ++ [s.getD l 0] := by
 rw [List.take_succ_eq_append_getElem h]; simp [List.getD, h]
/-! ### One level more -/
def push (S : List Str) (x : Str) : List Str := if S.getLast? = some x then S else S ++ [x]
def lev (ps : List Str) (os : List Nat) (L : Nat) (S : List Str) : Nat -> List Str
 | 0 => S
 | j + 1 => push (lev ps os L S j) ((pat ps (os.getD j 0)).take L)
def endsTo (ps : List Str) (os : List Nat) (L : Nat) (S : List Str) (E : Nat -> Int) : Nat -> Nat -> Int
 | 0 => E
 | j + 1 => upd (endsTo ps os L S E j) (os.getD j 0) ((lev ps os L S (j + 1)).length - 1 : Nat)
theorem lev_pos {ps : List Str} {os : List Nat} {L : Nat} {S : List Str} (h : 0 < S.length) (j : Nat) : 0 < (lev ps os L S j).length := by
 induction j with
 | zero => exact h
 | succ j ih => unfold lev push; split <;> simp [ih]
theorem lev_len {ps : List Str} {os : List Nat} {L : Nat} {S : List Str} (j : Nat) : (lev ps os L S j).length <= S.length + j := by
 induction j with
 | zero => exact Nat.le_refl _
 | succ j ih =>
   unfold lev push
   split
   ·omega
   ·simp; omega
theorem endsTo_same {ps : List Str} {os : List Nat} {L : Nat} {S : List Str} {E : Nat -> Int} (hnd : os.Nodup) (j : Nat) (hj : j < os.length) : ∀ i, i <= j -> endsTo ps os L S E i (os.getD j 0) = E (os.getD j 0) := by
 intro i
 induction i with
 | zero => intro _; rfl
 | succ i ih =>
   intro hi
   unfold endsTo upd
   rw [if_neg ?_, ih (by omega)]
   intro e
   have h1 : os.getD j 0 = os[j] := by simp [List.getD, hj]
   have h2 : os.getD i 0 = os[i] := by simp [List.getD, show i < os.length by omega]
   rw [h1, h2] at e
   exact List.pairwise_iff_getElem.1 hnd i j (by omega) hj (by omega) e.symm
theorem push_last {S : List Str} {x : Str} (h : 0 < S.length) : S.getLast? = some x ↔ at' S (S.length - 1) = x := by
 rw [List.getLast?_eq_getElem?]
 unfold at'
 have : S.length - 1 < S.length := by omega
 simp [List.getD, this]
theorem at_append_left {S T : List Str} {i : Nat} (h : i < S.length) : at' (S ++ T) i = at' S i := by
 unfold at'; simp [List.getD, List.getElem?_append_left h]
theorem at_append_new {S : List Str} {x : Str} : at' (S ++ [x]) S.length = x := by
 unfold at'; simp [List.getD]
theorem push_new {S : List Str} {x : Str} (h : S.getLast? ≠ some x) : push S x = S ++ [x] := if_neg h
theorem push_same {S : List Str} {x : Str} (h : S.getLast? = some x) : push S x = S := if_pos h
theorem push_at {S : List Str} {x : Str} {i : Nat} (h : i < S.length) : at' (push S x) i = at' S i := by
 unfold push; split
 ·rfl
 ·exact at_append_left h
theorem lev_ge {ps : List Str} {os : List Nat} {L : Nat} {S : List Str} (j : Nat) : S.length <= (lev ps os L S j).length := by
 induction j with
 | zero => exact Nat.le_refl _
 | succ j ih =>
   unfold lev push
   split
   ·exact ih
   ·simp; omega
theorem lev_at {ps : List Str} {os : List Nat} {L : Nat} {S : List Str} {j i : Nat} (h : i < S.length) : at' (lev ps os L S j) i = at' S i := by
 induction j with
 | zero => rfl
 | succ j ih => unfold lev; rw [push_at (Nat.lt_of_lt_of_le h (lev_ge j)), ih]
theorem Rep.push {S : List Str} {par lst : Nat -> Int} (h : Rep S par lst) {p : Nat} {c : UInt8} {x : Str} (hp : p < S.length) (hx : x = at' S p ++ [c]) (hs : (S ++ [x]).Pairwise slt) :
 Rep (S ++ [x]) (upd par S.length p) (upd lst S.length c.toNat) where
 pos := by simp
 head := by rw [at_append_left h.pos]; exact h.head
 sorted := hs
 kids := by
  intro i h0 hi
  simp only [List.length_append, List.length_cons, List.length_nil] at hi
  by_cases e : i = S.length
  ·subst e
   exact ⟨p, c, by simp [upd], hp, by simp [upd], by rw [at_append_new, at_append_left hp, hx]⟩
  ·have hi' : i < S.length := by omega
   obtain ⟨q, d, e1, hq, e2, e3⟩ := h.kids i h0 hi'
   exact ⟨q, d, by unfold upd; rw [if_neg e, e1], hq, by unfold upd; rw [if_neg e, e2], by rw [at_append_left hi', at_append_left (by omega), e3]⟩
theorem Rep.newest {S : List Str} {par lst : Nat -> Int} (h : Rep S par lst) {p : Nat} {c : UInt8} {x : Str} (hp : p < S.length) (hx : x = at' S p ++ [c]) (hl : 1 < S.length) :
 cmpS (par (S.length - 1)) (lst (S.length - 1)) p c.toNat = 0 ↔ S.getLast? = some x := by
 obtain ⟨q, d, e1, hq, e2, e3⟩ := h.kids (S.length - 1) (by omega) (by omega)
 rw [push_last h.pos, cmpS_zero, e1, e2, e3, hx, u8e]
 constructor
 ·rintro ⟨g, rfl⟩; rw [show q = p by omega]
 ·intro g
  have := List.append_inj' g rfl
  exact ⟨by rw [at_inj h.sorted (by omega) hp this.1], by simpa using this.2⟩
theorem Rep.newest_root {S : List Str} {par lst : Nat -> Int} (h : Rep S par lst) {p : Nat} {c : UInt8} {x : Str} (hx : x = at' S p ++ [c]) (hl : S.length = 1) : S.getLast? ≠ some x := by
 rw [Ne, push_last h.pos, hl, h.head, hx]
 simp
end Go.Proofs.YtfpohfifdfbpkaaGreatDoor
namespace Go.Proofs.YtfpohfifdfbpkaaGreatDoor
open Go.RowKit Scour
structure Trie (w : World) (base bt be m g cap : Nat) (S : List Str) (par lst fl E : Nat -> Int) : Prop where
 blk : w.heap[bt]? = some (.cells #[.slice (some ⟨g, 0, none⟩) S.length cap, .slice (some ⟨be, 0, none⟩) m m] 144 (0, 0))
 row : w.ownsRow base 154 3 (.slice (some ⟨g, 0, none⟩) S.length cap) S.length (yE par lst fl S.length)
 ends : w.ownsRow base 3 1 (.slice (some ⟨be, 0, none⟩) m m) m (zZ E m)
 rep : Rep S par lst
 ne : bt ≠ g /\ bt ≠ be /\ be ≠ g
theorem Trie.kept {w w' : World} {base bt be m g cap : Nat} {S : List Str} {par lst fl E : Nat -> Int} (h : Trie w base bt be m g cap S par lst fl E) (hb : Below w.heap.size w w') : Trie w' base bt be m g cap S par lst fl E :=
 ⟨(hb.block bt (Array.getElem?_eq_some_iff.1 h.blk).1).trans h.blk, h.row.kept (zM hb none) (by simp [Value.ownBlock]), h.ends.kept (zM hb none) (by simp [Value.ownBlock]), h.rep, h.ne⟩
theorem box_new {w : World} {x y z : Value} {t : TypeId} : (w.alloc (.cells #[x, y, z] t)).drew.heap[w.heap.size]? = some (.cells #[x, y, z] t (0, 0)) := heap_alloc_new w _
theorem Tryz.infoS : (Tryz.prog.info? 154).map (fun i => (i.zero, i.size, i.bytes)) = some (some (.agg #[.int .i64 0, .int .u8 0, .int .i64 0]), 3, 24) := by kernel_rfl
def IntsAt (w : World) (b : Nat) (os : List Nat) : Prop := ∀ j, j < os.length -> w.cell? ⟨b, j, none⟩ = some (.int .i64 (os.getD j 0 : Nat))
theorem grown_set {w : World} {b o : Nat} {v : Value} : w.grownBy (w.setCell ⟨b, o, none⟩ v) (some b) :=
 ⟨rfl, rfl, rfl, by simp [World.setCell], fun k _ hne => Below.heap_setCell w _ v k (fun e => hne (by rw [e]))⟩
theorem Trie.setEnd {w : World} {base bt be m g cap : Nat} {S : List Str} {par lst fl E : Nat -> Int} (h : Trie w base bt be m g cap S par lst fl E) (i : Nat) (x : Int) :
 Trie (w.setCell ⟨be, i, none⟩ (.int .i64 x)) base bt be m g cap S par lst fl (upd E i x) where
 blk := (Below.heap_setCell w _ _ bt h.ne.2.1).trans h.blk
 row := h.row.kept (grown_set (w := w) (b := be) (o := i) (v := .int .i64 x)) (Or.inr (by simp only [Value.ownBlock, ne_eq, Option.some.injEq]; exact fun e => h.ne.2.2 e.symm))
 ends := by
  have := (h.ends.stored i (.int .i64 x)).1
  rwa [yq] at this
 rep := h.rep
 ne := h.ne
theorem Trie.facts {W w' : World} {base bt be m g cap : Nat} {S : List Str} {par lst fl E : Nat -> Int} (h : Trie W base bt be m g cap S par lst fl E) (hgr : W.grownBy w' (some g)) {i : Nat} (hi : i < m) :
 w'.cell? ⟨bt, 0, none⟩ = some (.slice (some ⟨g, 0, none⟩) S.length cap) /\ w'.frozen? ⟨bt, 0, none⟩ = false /\ w'.cell? ⟨bt, 1, none⟩ = some (.slice (some ⟨be, 0, none⟩) m m) /\ w'.cell? ⟨be, i, none⟩ = some (.int .i64 (E i)) /\ w'.frozen? ⟨be, i, none⟩ = false := by
 have hbt : bt < W.heap.size := (Array.getElem?_eq_some_iff.1 h.blk).1
 have hb' := (hgr.block bt hbt (by simp; exact h.ne.1)).trans h.blk
 have he := h.ends.kept hgr (Or.inr (by simp only [Value.ownBlock, ne_eq, Option.some.injEq]; exact h.ne.2.2))
 exact ⟨by rw [zC hb']; rfl, frozen_of_row w' bt 0 _ _ hb', by rw [zC hb']; rfl, by rw [he.cellAt _ (by omega), zW _ _ _ hi], he.frozenAt _⟩
theorem Trie.more {W w' : World} {base bt be m g cap g' cap' : Nat} {S : List Str} {par lst E : Nat -> Int} {p : Nat} {c : UInt8} {x : Str} (h : Trie W base bt be m g cap S par lst (fun _ => 0) E)
 (hp : p < S.length) (hx : x = at' S p ++ [c]) (hs : (S ++ [x]).Pairwise slt) (hgr : W.grownBy w' (some g)) (hat : g' = g \/ W.heap.size <= g')
 (hown : w'.ownsRow base 154 3 (.slice (some ⟨g', 0, none⟩) (S.length + 1) cap') (S.length + 1) (yE par lst (fun _ => 0) S.length ++ [.int .i64 p, .int .u8 c.toNat, .int .i64 0])) (hbe : be < W.heap.size) :
 Trie (w'.setCell ⟨bt, 0, none⟩ (.slice (some ⟨g', 0, none⟩) (S.length + 1) cap')) base bt be m g' cap' (S ++ [x]) (upd par S.length p) (upd lst S.length c.toNat) (fun _ => 0) E := by
 have hbt : bt < W.heap.size := (Array.getElem?_eq_some_iff.1 h.blk).1
 have hb' := (hgr.block bt hbt (by simp; exact h.ne.1)).trans h.blk
 have hgl := (jI h.row h.rep.pos).2.1
 have n1 : bt ≠ g' := by rcases hat with rfl | k; exact h.ne.1; omega
 have n2 : be ≠ g' := by rcases hat with rfl | k; exact h.ne.2.2; omega
 have hl : (S ++ [x]).length = S.length + 1 := by simp
 have hc : yE (upd par S.length p) (upd lst S.length c.toNat) (fun _ => 0) (S.length + 1) = yE par lst (fun _ => 0) S.length ++ [.int .i64 p, .int .u8 c.toNat, .int .i64 0] := by
  rw [cellsF_succ]
  have : yE (upd par S.length p) (upd lst S.length c.toNat) (fun _ => 0) S.length = yE par lst (fun _ => 0) S.length := cellsF_congr fun k hk => by
   unfold upd; rw [if_neg (by omega), if_neg (by omega)]; exact ⟨rfl, rfl, rfl⟩
  rw [this]
  simp [upd]
 refine ⟨?_, ?_, ?_, h.rep.push hp hx hs, n1, h.ne.2.1, n2⟩
 ·rw [hl, heap_setCell_same w' bt 0 _ _ _ hb']
  rfl
 ·rw [hl, hc]
  exact hown.kept grown_set (Or.inr (by simp only [Value.ownBlock, ne_eq, Option.some.injEq]; exact fun e => n1 e.symm))
 ·exact (h.ends.kept hgr (Or.inr (by simp only [Value.ownBlock, ne_eq, Option.some.injEq]; exact h.ne.2.2))).kept grown_set (Or.inr (by simp only [Value.ownBlock, ne_eq, Option.some.injEq]; exact fun e => h.ne.2.1 e.symm))
theorem Keeps.other {w a b : World} {bt g0 g be : Nat} (h : Keeps [bt, g0, be] w a) (k : Keeps [bt, g, be] a b) (hg : g = g0 \/ w.heap.size <= g) : Keeps [bt, g0, be] w b :=
 ⟨k.os.trans h.os, k.tape.trans h.tape, k.output.trans h.output, Nat.le_trans h.size k.size, fun i hi hm => (k.block i (Nat.lt_of_lt_of_le hi h.size) (fun hm' => hm (by
  simp only [List.mem_cons, List.not_mem_nil, or_false] at hm' ⊢
  rcases hm' with e | e | e
  ·exact Or.inl e
  ·rcases hg with g1 | g1
   ·exact Or.inr (Or.inl (e.trans g1))
   ·omega
  ·exact Or.inr (Or.inr e)))).trans (h.block i hi hm)⟩
theorem pushed {W1 w' : World} {base bt be m g cap g' cap' n i : Nat} {S : List Str} {par lst E : Nat -> Int} {p : Nat} {c : UInt8} {x : Str} (hn : S.length = n) (h : Trie W1 base bt be m g cap S par lst (fun _ => 0) E)
 (hx : x = at' S p ++ [c] /\ p < S.length) (hnp : S.getLast? ≠ some x) (hs : (push S x).Pairwise slt) (hbe : be < W1.heap.size)
 (hown : w'.ownsRow base 154 3 (.slice (some ⟨g', 0, none⟩) (n + 1) cap') (n + 1) (yE par lst (fun _ => 0) n ++ [.int .i64 p, .int .u8 c.toNat, .int .i64 0]))
 (hgr : (W1.alloc (.cells #[.int .i64 p, .int .u8 c.toNat, .int .i64 0] 154)).drew.grownBy w' (some g))
 (hat : some g = some g' \/ g' = (W1.alloc (.cells #[.int .i64 p, .int .u8 c.toNat, .int .i64 0] 154)).drew.heap.size) :
 Trie ((w'.setCell ⟨bt, 0, none⟩ (.slice (some ⟨g', 0, none⟩) (n + 1) cap')).setCell ⟨be, i, none⟩ (.int .i64 (n : Nat))) base bt be m g' cap' (push S x) (upd par n p) (upd lst n c.toNat) (fun _ => 0) (upd E i ((push S x).length - 1 : Nat)) /\
  Keeps [bt, g, be] W1 ((w'.setCell ⟨bt, 0, none⟩ (.slice (some ⟨g', 0, none⟩) (n + 1) cap')).setCell ⟨be, i, none⟩ (.int .i64 (n : Nat))) /\ (g' = g \/ W1.heap.size <= g') := by
 subst hn
 rw [push_new hnp] at hs ⊢
 have hbA : Below W1.heap.size W1 (W1.alloc (.cells #[.int .i64 p, .int .u8 c.toNat, .int .i64 0] 154)).drew := ((Below.refl _ _).alloc (Nat.le_refl _) _).drew
 have hTA := h.kept hbA
 have hsz := hbA.size
 have hat' : g' = g \/ (W1.alloc (.cells #[.int .i64 p, .int .u8 c.toNat, .int .i64 0] 154)).drew.heap.size <= g' := by
  rcases hat with e | e
  ·simp only [Option.some.injEq] at e; exact Or.inl e.symm
  ·exact Or.inr (Nat.le_of_eq e.symm)
 have hm := (hTA.more hx.2 hx.1 hs hgr hat' hown (by omega)).setEnd i (S.length : Nat)
 have hl : (S ++ [x]).length - 1 = S.length := by simp
 rw [hl]
 refine ⟨hm, ?_, ?_⟩
 ·refine ((((keeps_of_below hbA [bt, g, be]).grown hgr ?_).grown grown_set ?_).grown grown_set ?_) <;> intro y hy <;> simp at hy <;> subst hy <;> simp
 ·rcases hat' with e | e
  ·exact Or.inl e
  ·exact Or.inr (by omega)
theorem notPushed {W1 : World} {base bt be m g cap n i : Nat} {S : List Str} {par lst E : Nat -> Int} {x : Str} (hn : S.length = n + 1) (h : Trie W1 base bt be m g cap S par lst (fun _ => 0) E) (hnp : S.getLast? = some x) :
 Trie (W1.setCell ⟨be, i, none⟩ (.int .i64 (n : Nat))) base bt be m g cap (push S x) par lst (fun _ => 0) (upd E i ((push S x).length - 1 : Nat)) /\ Keeps [bt, g, be] W1 (W1.setCell ⟨be, i, none⟩ (.int .i64 (n : Nat))) := by
 rw [push_same hnp, hn]
 refine ⟨h.setEnd i (n : Nat), (Keeps.refl _ _).grown grown_set ?_⟩
 intro y hy; simp at hy; subst hy; simp
end Go.Proofs.YtfpohfifdfbpkaaGreatDoor
namespace Go.Proofs.YtfpohfifdfbpkaaGreatDoor
open Go.RowKit Scour
set_option maxHeartbeats 4000000 in
set_option maxRecDepth 100000 in
theorem level_any (base bt be m g0 cap0 bo co : Nat) (ap : Option Addr) (cp : Nat) (ps : List Str) (os : List Nat) (L : Nat) (S : List Str) (par0 lst0 E : Nat -> Int) (w : World)
 (hT : Trie w base bt be m g0 cap0 S par0 lst0 (fun _ => 0) E) (hm : ps.length = m) (hP : yO w base ap ps) (hO : IntsAt w bo os) (hbo : bo < w.heap.size) (hbon : bo ≠ bt /\ bo ≠ be /\ bo ≠ g0)
 (hb1 : base <= bt) (hbeb : base <= be) (hb2 : base <= w.heap.size) (hbe : be < w.heap.size)
 (hS : S.length + os.length < 100000) (hL : 1 <= L /\ L < 100000) (hnd : os.Nodup)
 (hin : ∀ j, j < os.length -> os.getD j 0 < m /\ L <= (pat ps (os.getD j 0)).length /\ ∃ p, p < S.length /\ E (os.getD j 0) = (p : Nat) /\ at' S p = (pat ps (os.getD j 0)).take (L - 1))
 (hsrt : ∀ j, j <= os.length -> (lev ps os L S j).Pairwise slt) :
 Calls Tryz.prog 73 #[.pointer (some ⟨bt, 0, none⟩), .slice ap ps.length cp, .slice (some ⟨bo, 0, none⟩) os.length co, .int .i64 L] w fun e w' => ∃ g cap par lst, e = .returned (.tuple #[]) /\
  Trie w' base bt be m g cap (lev ps os L S os.length) par lst (fun _ => 0) (endsTo ps os L S E os.length) /\ Keeps [bt, g0, be] w w' /\ (g = g0 \/ w.heap.size <= g) := by
 subst hm
 have hbt : bt < w.heap.size := (Array.getElem?_eq_some_iff.1 hT.blk).1
 obtain ⟨i0, hi, hz0, hz1, hz2⟩ := info_parts Tryz.infoS
 have HT := zB hT
 have HP := zB hP
 have HO := zB hO
 have HIN := zB hin
 have HSR := zB hsrt
 clear hT hP hO hin hsrt
 go_enter Tryz.func73, Tryz.ntmps73
 go_wp2_with fail
 go_loopw [14] (fun v wr => ∃ (j g cap : Nat) (par lst : Nat -> Int), v = .int .i64 j /\ j <= os.length /\ Hid (Trie wr base bt be ps.length g cap (lev ps os L S j) par lst (fun _ => 0) (endsTo ps os L S E j)) /\ Hid (Keeps [bt, g0, be] w wr) /\ Hid (g = g0 \/ w.heap.size <= g)) (fun v _ => os.length - (intOf v).toNat)
 case atStart => exact ⟨0, g0, cap0, par0, lst0, rfl, Nat.zero_le _, HT, zB (Keeps.refl _ _), zB (Or.inl rfl)⟩
 case round =>
  obtain ⟨j, g, cap, par, lst, rfl, hj, HTr, HK, HG⟩ := hrel
  by_cases hlt : j < os.length
  ·have hK := zA HK
   have hTr := zA HTr
   have hsz := hK.size
   have hbel : Below base w wr := hK.below hb2 (by intro x hx; simp at hx; rcases hx with rfl | rfl | rfl; exact hb1; exact (jI (zA HT).row (zA HT).rep.pos).1; exact hbeb)
   obtain ⟨him, hLi, p, hp, hEp, hatp⟩ := zA HIN j hlt
   have hpl : 0 < ps.length := by omega
   obtain ⟨bp, op, hbp, rfl, hpat⟩ := (zA HP).below hbel (Nat.le_refl _) hpl
   have c_ord : wr.cell? ⟨bo, j, none⟩ = some (.int .i64 (os.getD j 0 : Nat)) := (World.cell?_of_block (a := ⟨bo, j, none⟩) (hK.block bo hbo (by simp; omega))).trans (zA HO j hlt)
   have c_end : wr.cell? ⟨be, os.getD j 0, none⟩ = some (.int .i64 (p : Nat)) := by
    rw [hTr.ends.cellAt _ (by omega), zW _ _ _ him, endsTo_same hnd j hlt j (Nat.le_refl _), hEp]
   obtain ⟨ao, cc, c_pat, hby⟩ := hpat (os.getD j 0) (by omega)
   obtain ⟨b, o, hb, rfl, hbytes⟩ := hby (by omega)
   obtain ⟨l, rfl⟩ : ∃ l, L = l + 1 := ⟨L - 1, by omega⟩
   have c_byte := hbytes l (by omega)
   have c_bt0 : wr.cell? ⟨bt, 0, none⟩ = some (.slice (some ⟨g, 0, none⟩) (lev ps os (l + 1) S j).length cap) := by rw [zC hTr.blk]; rfl
   have c_bt1 : wr.cell? ⟨bt, 1, none⟩ = some (.slice (some ⟨be, 0, none⟩) ps.length ps.length) := by rw [zC hTr.blk]; rfl
   have hx := take_snoc (pat ps (os.getD j 0)) l (by omega)
   have HX := zB hx
   have hatp' : at' S p = (pat ps (os.getD j 0)).take l := hatp
   have HSl := zB (lev_len (ps := ps) (os := os) (L := l + 1) (S := S) j)
   have HBL := zB hbel
   have i1 : (j : Int) < (os.length : Int) := by omega
   have i2 : ((os.getD j 0 : Nat) : Int) < (ps.length : Int) := by omega
   have i4 : (l : Int) < ((pat ps (os.getD j 0)).length : Int) := by omega
   have i5 : (0 : Int) <= ((os.getD j 0 : Nat) : Int) := by omega
   clear hTr hK hpat hbytes hx hatp hbel hby hEp
   have HXS := zB (show (pat ps (os.getD j 0)).take (l + 1) = at' (lev ps os (l + 1) S j) p ++ [(pat ps (os.getD j 0)).getD l 0] /\ p < (lev ps os (l + 1) S j).length from ⟨by rw [lev_at hp, hatp', zA HX], Nat.lt_of_lt_of_le hp (lev_ge j)⟩)
   generalize hSj : lev ps os (l + 1) S j = Sj at *
   generalize hEj : endsTo ps os (l + 1) S E j = Ej at *
   have HSj := zB hSj
   have HEj := zB hEj
   clear hSj hEj
   obtain ⟨k, hk⟩ : ∃ k, Sj.length = k + 1 := ⟨Sj.length - 1, by have := (zA HTr).rep.pos; omega⟩
   rw [hk] at c_bt0
   have HKk := zB hk
   clear hk
   have i8 : IntKind.i64.wrap (k : Int) = (k : Int) := IntWalk.i64_in _ (by have := zA HSl; have := zA HKk; omega)
   generalize hii : os.getD j 0 = i at *
   have Hii := zB hii
   clear hii
   generalize (pat ps i).getD l 0 = c at *
   clear hatp'
   have i6 : (0 : Int) <= (l : Int) := by omega
   have i7 : IntKind.i64.wrap (l : Int) = (l : Int) := IntWalk.i64_in _ (by omega)
   go_wp2
   go_region_held3 (fun w' => w'.cell? ⟨bt, 1, none⟩ = some (.slice (some ⟨be, 0, none⟩) ps.length ps.length) /\ w'.cell? ⟨be, i, none⟩ = some (.int .i64 p) /\ w'.cell? ⟨bp, op + i, none⟩ = some (.slice (some ⟨b, o, none⟩) (pat ps i).length cc) /\ w'.cell? ⟨b, o + l, none⟩ = some (.int .u8 c.toNat)) (go_keep) (fail)
   have hbW : Below wr.heap.size wr (wr.alloc (.cells #[.int .i64 p, .int .u8 c.toNat, .int .i64 0] 154)).drew := ((Below.refl _ _).alloc (Nat.le_refl _) _).drew
   have hbx : (wr.alloc (.cells #[.int .i64 p, .int .u8 c.toNat, .int .i64 0] 154)).drew.heap[wr.heap.size]? = some (.cells #[.int .i64 p, .int .u8 c.toNat, .int .i64 0] 154 (0, 0)) := box_new
   have hsW : (wr.alloc (.cells #[.int .i64 p, .int .u8 c.toNat, .int .i64 0] 154)).drew.heap.size = wr.heap.size + 1 := by simp
   generalize (wr.alloc (.cells #[.int .i64 p, .int .u8 c.toNat, .int .i64 0] 154)).drew = W at hbW hbx hsW ⊢
   have hTW := (zA HTr).kept hbW
   have hKW : Keeps [bt, g0, be] w W := (zA HK).trans (keeps_of_below hbW _)
   have hgl := jI hTW.row hTW.rep.pos
   have HSZ := zB (show w.heap.size <= wr.heap.size /\ wr.heap.size < W.heap.size /\ bt < wr.heap.size /\ be < wr.heap.size /\ g < wr.heap.size from ⟨hsz, by omega, by omega, by omega, (jI (zA HTr).row (zA HTr).rep.pos).2.1⟩)
   clear hbW hsW c_ord c_end c_pat c_byte c_bt0 c_bt1 HTr HK hgl hsz
   generalize wr.heap.size = bx at hbx HSZ ⊢
   have HTW := zB hTW
   have HKW := zB hKW
   have HBX := zB hbx
   clear hKW hTW hbx
   have HX' := zB (show ∃ q, q = p /\ (pat ps i).take (l + 1) = at' Sj p ++ [c] /\ p < Sj.length from ⟨p, rfl, zA HXS⟩)
   by_cases hk0 : k = 0
   ·subst hk0
    have d0 : W.cell? ⟨bt, 0, none⟩ = some (.slice (some ⟨g, 0, none⟩) 1 cap) := by rw [zC (zA HTW).blk, zA HKk]; rfl
    have HNP := zB ((zA HTW).rep.newest_root (zA HXS).1 (zA HKk))
    go_wp2
    go_quiet (fail)
    have hb1 : Below W.heap.size W (W.drewN nq) := below_drewN (Below.refl _ _) _
    generalize W.drewN nq = W1 at hb1 ⊢
    have HT1 := zB ((zA HTW).kept hb1)
    have HB1 := zB ((hb1.block bx (zA HSZ).2.1).trans (zA HBX))
    have HK1 := zB ((zA HKW).trans (keeps_of_below hb1 _))
    have hs1 := hb1.size
    clear hb1 d0
    have e0 : W1.cell? ⟨bt, 0, none⟩ = some (.slice (some ⟨g, 0, none⟩) 1 cap) := by rw [zC (zA HT1).blk, zA HKk]; rfl
    have x0 : W1.cell? ⟨bx, 0, none⟩ = some (.int .i64 p) := by rw [zC (zA HB1)]; rfl
    have x1 : W1.cell? ⟨bx, 1, none⟩ = some (.int .u8 c.toNat) := by rw [zC (zA HB1)]; rfl
    have x2 : W1.cell? ⟨bx, 2, none⟩ = some (.int .i64 0) := by rw [zC (zA HB1)]; rfl
    have HOWN : Hid ((W1.alloc (.cells #[.int .i64 p, .int .u8 c.toNat, .int .i64 0] 154)).drew.ownsRow base 154 3 (.slice (some ⟨g, 0, none⟩) 1 cap) 1 (yE par lst (fun _ => 0) 1)) := zB (by
     have := ((zA HT1).row.alloc (.cells #[.int .i64 p, .int .u8 c.toNat, .int .i64 0] 154)).drew
     rw [zA HKk] at this
     exact this)
    have HNEW : Hid (∀ j u, [Value.int .i64 p, .int .u8 c.toNat, .int .i64 0][j]? = some u -> (W1.alloc (.cells #[.int .i64 p, .int .u8 c.toNat, .int .i64 0] 154)).drew.cell? ((⟨W1.heap.size, 0, none⟩ : Addr).add j) = some u) := zB (World.news_of_block (box_new (w := W1)))
    have hbW1 : base <= W1.heap.size := by have := zA HSZ; omega
    have HTA := zB ((zA HT1).kept (w' := (W1.alloc (.cells #[.int .i64 p, .int .u8 c.toNat, .int .i64 0] 154)).drew) ((Below.refl _ _).alloc (Nat.le_refl _) _).drew)
    have HFA : Hid (∀ w', (W1.alloc (.cells #[.int .i64 p, .int .u8 c.toNat, .int .i64 0] 154)).drew.grownBy w' (some g) -> w'.cell? ⟨bt, 0, none⟩ = some (.slice (some ⟨g, 0, none⟩) Sj.length cap) /\ w'.frozen? ⟨bt, 0, none⟩ = false /\ w'.cell? ⟨bt, 1, none⟩ = some (.slice (some ⟨be, 0, none⟩) ps.length ps.length) /\ w'.cell? ⟨be, i, none⟩ = some (.int .i64 (Ej i)) /\ w'.frozen? ⟨be, i, none⟩ = false) := zB (fun w' h => (zA HTA).facts h him)
    have hzt : bt < W1.heap.size := by have := zA HSZ; omega
    have nbe : ¬ bt = be := (zA HT1).ne.2.1
    go_wp2
    go_region_law (refine step_append_lies _ rfl (.tmp 58) (.tmp 60) 142 rfl base 154 i0 _ 3 24 Tryz.underlying142 hi hz0 hz1 hz2 rfl (by decide) _ 1 (yE par lst (fun _ => 0) 1) (by simp [Act.eval]) (zA HOWN) ⟨W1.heap.size, 0, none⟩ 1 1 [.int .i64 p, .int .u8 c.toNat, .int .i64 0] (by simp [Act.eval]) rfl (zA HNEW) (by intro u hu; simp at hu; rcases hu with rfl | rfl | rfl <;> rfl) (by omega) (by unfold maxLen; omega) (by omega) (by simp; omega) _ rfl ?_; intro g' cap' w' hown' hgrow hat hlt'; have HOW := zB hown'; have HGW := zB hgrow; have HAW := zB hat; obtain ⟨f0, f1, f2, f3, f4⟩ := zA HFA w' hgrow; clear hown' hgrow hat)
    all_goals go_wp2
    all_goals go_roundw
    all_goals try case measure => simp [intOf]; omega
    all_goals
     case rel =>
      have hsr := zA HSR (j + 1) (by omega)
      have hlv : lev ps os (l + 1) S (j + 1) = push Sj ((pat ps i).take (l + 1)) := by rw [lev, zA HSj, zA Hii]
      have hev : endsTo ps os (l + 1) S E (j + 1) = upd Ej i ((push Sj ((pat ps i).take (l + 1))).length - 1 : Nat) := by rw [endsTo, hlv, zA HEj, zA Hii]
      rw [hlv] at hsr
      obtain ⟨r1, r2, r3⟩ := pushed (i := i) (zA HKk) (zA HT1) (zA HXS) (zA HNP) hsr (by have := zA HSZ; omega) (zA HOW) (zA HGW) (zA HAW)
      first | refine ⟨j + 1, g', cap', upd par 1 p, upd lst 1 c.toNat, by go_num, hlt, ?_, ?_, ?_⟩ | ((repeat apply Exists.intro); refine ⟨⟨j + 1, g', cap', upd par 1 p, upd lst 1 c.toNat, by go_num, hlt, ?_, ?_, ?_⟩, rfl⟩)
      ·rw [hlv, hev]; exact zB r1
      ·exact zB ((zA HK1).other r2 (zA HG))
      ·exact zB (by have := zA HG; have := (zA HK1).size; omega)
   ·have hkbd : k < 100000 := by have := zA HSl; have := zA HKk; omega
    have hkb : ((k : Int) == 0) = false := by simp [hk0]
    have d0 : W.cell? ⟨bt, 0, none⟩ = some (.slice (some ⟨g, 0, none⟩) (k + 1) cap) := by rw [zC (zA HTW).blk, zA HKk]; rfl
    obtain ⟨s0, s1, s2⟩ := sts_of_owns (zA HTW).row k (by have := zA HKk; omega)
    have x0 : W.cell? ⟨bx, 0, none⟩ = some (.int .i64 p) := by rw [zC (zA HBX)]; rfl
    have x1 : W.cell? ⟨bx, 1, none⟩ = some (.int .u8 c.toNat) := by rw [zC (zA HBX)]; rfl
    have x2 : W.cell? ⟨bx, 2, none⟩ = some (.int .i64 0) := by rw [zC (zA HBX)]; rfl
    have hz1 : bt < W.heap.size := by have := zA HSZ; omega
    have hz2 : g < W.heap.size := by have := zA HSZ; omega
    have hz3 : bx < W.heap.size := by have := zA HSZ; omega
    have i9 : (k : Int) < (k : Int) + 1 := by omega
    have i10 : (0 : Int) <= (k : Int) := by omega
    have HCZ := zB ((zA HTW).rep.newest (zA HXS).2 (zA HXS).1 (by have := zA HKk; omega))
    have hkk : Sj.length - 1 = k := by have := zA HKk; omega
    rw [hkk] at HCZ
    clear hkk
    go_wp2
    go_region_held3 (fun w' => w'.cell? ⟨bt, 0, none⟩ = some (.slice (some ⟨g, 0, none⟩) (k + 1) cap) /\ w'.cell? ⟨g, k * 3, none⟩ = some (.int .i64 (par k)) /\ w'.cell? ⟨g, k * 3 + 1, none⟩ = some (.int .u8 (lst k)) /\ w'.cell? ⟨g, k * 3 + 2, none⟩ = some (.int .i64 0) /\ w'.cell? ⟨bx, 0, none⟩ = some (.int .i64 p) /\ w'.cell? ⟨bx, 1, none⟩ = some (.int .u8 c.toNat) /\ w'.cell? ⟨bx, 2, none⟩ = some (.int .i64 0)) (go_keep)
     (first | (go_at_call 111; refine (compare_any _ _ _ _ _ _ _).mono ?_; rintro e w' ⟨rfl, hbw⟩; replace hbw := jU hbw; have y0 := (hbw.cell (p := ⟨bt, 0, none⟩) hz1).trans d0; have y1 := (hbw.cell (p := ⟨g, k * 3, none⟩) hz2).trans s0; have y2 := (hbw.cell (p := ⟨g, k * 3 + 1, none⟩) hz2).trans s1; have y3 := (hbw.cell (p := ⟨g, k * 3 + 2, none⟩) hz2).trans s2; have y4 := (hbw.cell (p := ⟨bx, 0, none⟩) hz3).trans x0; have y5 := (hbw.cell (p := ⟨bx, 1, none⟩) hz3).trans x1; have y6 := (hbw.cell (p := ⟨bx, 2, none⟩) hz3).trans x2))
    rename Below W.heap.size W _ => hb1
    rename World => W1
    have HT1 := zB ((zA HTW).kept hb1)
    have HB1 := zB ((hb1.block bx (zA HSZ).2.1).trans (zA HBX))
    have HK1 := zB ((zA HKW).trans (keeps_of_below hb1 _))
    have hs1 := hb1.size
    clear hb1 d0 x0 x1 x2 s0 s1 s2 hz1 hz2 hz3
    by_cases hcz : cmpS (par k) (lst k) p c.toNat = 0
    ·have HNP := zB ((zA HCZ).1 hcz)
     have hcb : (cmpS (par k) (lst k) p c.toNat != 0) = false := by simp [hcz]
     have nbe : ¬ bt = be := (zA HT1).ne.2.1
     obtain ⟨f0, f1, f2, f3, f4⟩ := (zA HT1).facts (World.grownBy.refl _ _) him
     clear hcz
     go_wp2
     go_roundw
     case rel =>
      have hlv : lev ps os (l + 1) S (j + 1) = push Sj ((pat ps i).take (l + 1)) := by rw [lev, zA HSj, zA Hii]
      have hev : endsTo ps os (l + 1) S E (j + 1) = upd Ej i ((push Sj ((pat ps i).take (l + 1))).length - 1 : Nat) := by rw [endsTo, hlv, zA HEj, zA Hii]
      obtain ⟨r1, r2⟩ := notPushed (i := i) (zA HKk) (zA HT1) (zA HNP)
      first | refine ⟨j + 1, g, cap, par, lst, by go_num, hlt, ?_, ?_, HG⟩ | ((repeat apply Exists.intro); refine ⟨⟨j + 1, g, cap, par, lst, by go_num, hlt, ?_, ?_, HG⟩, rfl⟩)
      ·rw [hlv, hev]; exact zB r1
      ·exact zB ((zA HK1).other r2 (zA HG))
     case measure => simp [intOf]; omega
    ·have HNP := zB (fun e => hcz ((zA HCZ).2 e))
     have hcb : (cmpS (par k) (lst k) p c.toNat != 0) = true := by simp [hcz]
     clear hcz
     have e0 : W1.cell? ⟨bt, 0, none⟩ = some (.slice (some ⟨g, 0, none⟩) (k + 1) cap) := by rw [zC (zA HT1).blk, zA HKk]; rfl
     have x0 : W1.cell? ⟨bx, 0, none⟩ = some (.int .i64 p) := by rw [zC (zA HB1)]; rfl
     have x1 : W1.cell? ⟨bx, 1, none⟩ = some (.int .u8 c.toNat) := by rw [zC (zA HB1)]; rfl
     have x2 : W1.cell? ⟨bx, 2, none⟩ = some (.int .i64 0) := by rw [zC (zA HB1)]; rfl
     have HOWN : Hid ((W1.alloc (.cells #[.int .i64 p, .int .u8 c.toNat, .int .i64 0] 154)).drew.ownsRow base 154 3 (.slice (some ⟨g, 0, none⟩) (k + 1) cap) (k + 1) (yE par lst (fun _ => 0) (k + 1))) := zB (by
      have := ((zA HT1).row.alloc (.cells #[.int .i64 p, .int .u8 c.toNat, .int .i64 0] 154)).drew
      rw [zA HKk] at this
      exact this)
     have HNEW : Hid (∀ j u, [Value.int .i64 p, .int .u8 c.toNat, .int .i64 0][j]? = some u -> (W1.alloc (.cells #[.int .i64 p, .int .u8 c.toNat, .int .i64 0] 154)).drew.cell? ((⟨W1.heap.size, 0, none⟩ : Addr).add j) = some u) := zB (World.news_of_block (box_new (w := W1)))
     have hbW1 : base <= W1.heap.size := by have := zA HSZ; omega
     have HTA := zB ((zA HT1).kept (w' := (W1.alloc (.cells #[.int .i64 p, .int .u8 c.toNat, .int .i64 0] 154)).drew) ((Below.refl _ _).alloc (Nat.le_refl _) _).drew)
     have HFA : Hid (∀ w', (W1.alloc (.cells #[.int .i64 p, .int .u8 c.toNat, .int .i64 0] 154)).drew.grownBy w' (some g) -> w'.cell? ⟨bt, 0, none⟩ = some (.slice (some ⟨g, 0, none⟩) Sj.length cap) /\ w'.frozen? ⟨bt, 0, none⟩ = false /\ w'.cell? ⟨bt, 1, none⟩ = some (.slice (some ⟨be, 0, none⟩) ps.length ps.length) /\ w'.cell? ⟨be, i, none⟩ = some (.int .i64 (Ej i)) /\ w'.frozen? ⟨be, i, none⟩ = false) := zB (fun w' h => (zA HTA).facts h him)
     have hzt : bt < W1.heap.size := by have := zA HSZ; omega
     have nbe : ¬ bt = be := (zA HT1).ne.2.1
     go_wp2
     go_region_law (refine step_append_lies _ rfl (.tmp 58) (.tmp 60) 142 rfl base 154 i0 _ 3 24 Tryz.underlying142 hi hz0 hz1 hz2 rfl (by decide) _ (k + 1) (yE par lst (fun _ => 0) (k + 1)) (by simp [Act.eval]) (zA HOWN) ⟨W1.heap.size, 0, none⟩ 1 1 [.int .i64 p, .int .u8 c.toNat, .int .i64 0] (by simp [Act.eval]) rfl (zA HNEW) (by intro u hu; simp at hu; rcases hu with rfl | rfl | rfl <;> rfl) (by omega) (by unfold maxLen; omega) (by omega) (by simp; omega) _ rfl ?_; intro g' cap' w' hown' hgrow hat hlt'; have HOW := zB hown'; have HGW := zB hgrow; have HAW := zB hat; obtain ⟨f0, f1, f2, f3, f4⟩ := zA HFA w' hgrow; clear hown' hgrow hat)
     all_goals go_wp2
     all_goals go_roundw
     all_goals try case measure => simp [intOf]; omega
     all_goals
      case rel =>
       have hsr := zA HSR (j + 1) (by omega)
       have hlv : lev ps os (l + 1) S (j + 1) = push Sj ((pat ps i).take (l + 1)) := by rw [lev, zA HSj, zA Hii]
       have hev : endsTo ps os (l + 1) S E (j + 1) = upd Ej i ((push Sj ((pat ps i).take (l + 1))).length - 1 : Nat) := by rw [endsTo, hlv, zA HEj, zA Hii]
       rw [hlv] at hsr
       obtain ⟨r1, r2, r3⟩ := pushed (i := i) (zA HKk) (zA HT1) (zA HXS) (zA HNP) hsr (by have := zA HSZ; omega) (zA HOW) (zA HGW) (zA HAW)
       first | refine ⟨j + 1, g', cap', upd par (k + 1) p, upd lst (k + 1) c.toNat, by go_num, hlt, ?_, ?_, ?_⟩ | ((repeat apply Exists.intro); refine ⟨⟨j + 1, g', cap', upd par (k + 1) p, upd lst (k + 1) c.toNat, by go_num, hlt, ?_, ?_, ?_⟩, rfl⟩)
       ·rw [hlv, hev]; exact zB r1
       ·exact zB ((zA HK1).other r2 (zA HG))
       ·exact zB (by have := zA HG; have := (zA HK1).size; omega)
  ·obtain rfl : j = os.length := by omega
   go_wp2
   go_end0
   exact ⟨g, cap, par, lst, rfl, zA HTr, zA HK, zA HG⟩
end Go.Proofs.YtfpohfifdfbpkaaGreatDoor
