import Derived.Test.YtfpohfifdfbpkaaGreatDoorLeafA
import Derived.Test.YtfpohfifdfbpkaaGreatDoorMath
namespace Go.Proofs.YtfpohfifdfbpkaaGreatDoor
open Go.RowKit Scour
theorem cmpI_neg (x y : Int) : cmpI x y < 0 ↔ x < y := by
 unfold cmpI; split
 ·simp [*]
 ·split <;> simp [*]
theorem cmpI_zero (x y : Int) : cmpI x y = 0 ↔ x = y := by
 unfold cmpI; split
 ·simp; omega
 ·split
  ·simp; omega
  ·simp; omega
theorem cmpS_zero (pa la pb lb : Int) : cmpS pa la pb lb = 0 ↔ pa = pb /\ la = lb := by
 unfold cmpS orI
 split
 ·rename_i h; rw [cmpI_zero] at h; rw [cmpI_zero]; simp [h]
 ·rename_i h; rw [cmpI_zero] at h
  have : cmpI pa pb ≠ 0 := fun k => h ((cmpI_zero _ _).1 k)
  simp [this, h]
theorem cmpS_neg (pa la pb lb : Int) : cmpS pa la pb lb < 0 ↔ pa < pb \/ (pa = pb /\ la < lb) := by
 unfold cmpS orI
 split
 ·rename_i h; rw [cmpI_zero] at h; rw [cmpI_neg]; simp [h]
 ·rename_i h; rw [cmpI_zero] at h; rw [cmpI_neg]; simp [h]
structure Rep (S : List Str) (par lst : Nat -> Int) : Prop where
 pos : 0 < S.length
 head : at' S 0 = []
 sorted : S.Pairwise slt
 kids : ∀ i, 0 < i -> i < S.length -> ∃ (p : Nat) (c : UInt8), par i = (p : Int) /\ p < i /\ lst i = (c.toNat : Int) /\ at' S i = at' S p ++ [c]
theorem Rep.nil_mem {S : List Str} {par lst : Nat -> Int} (h : Rep S par lst) : [] ∈ S := h.head ▸ jO h.pos
theorem Rep.closed {S : List Str} {par lst : Nat -> Int} (h : Rep S par lst) : Closed S := by
 intro y c hm
 have hi := List.idxOf_lt_length_of_mem hm
 have he := jV hm
 generalize S.idxOf (y ++ [c]) = i at hi he
 by_cases h0 : i = 0
 ·subst h0; rw [h.head] at he; simp at he
 ·obtain ⟨p, c', _, hp, _, e⟩ := h.kids i (by omega) hi
  rw [e] at he
  have := List.append_inj' he rfl
  rw [← this.1]
  exact jO (by omega)
theorem u8i (a b : UInt8) : (a.toNat : Int) < (b.toNat : Int) ↔ a < b := by rw [UInt8.lt_iff_toNat_lt]; omega
theorem u8e (a b : UInt8) : (a.toNat : Int) = (b.toNat : Int) ↔ a = b := by
 constructor
 ·intro h; exact UInt8.toNat_inj.1 (by omega)
 ·rintro rfl; rfl
theorem Rep.stand_neg {S : List Str} {par lst : Nat -> Int} (h : Rep S par lst) {p : Nat} (hp : p < S.length) (b : UInt8) {k : Nat} (hk : k + 1 < S.length) :
 stand par lst p b.toNat k < 0 ↔ slt (at' S (k + 1)) (at' S p ++ [b]) := by
 obtain ⟨q, c, e1, hq, e2, e3⟩ := h.kids (k + 1) (by omega) hk
 unfold stand
 rw [cmpS_neg, e1, e2, e3, slt_snoc, at_lt_iff h.sorted (by omega) hp, u8i]
 constructor
 ·rintro (g | ⟨g, g'⟩)
  ·left; omega
  ·right; exact ⟨by rw [show q = p by omega], g'⟩
 ·rintro (g | ⟨g, g'⟩)
  ·left; omega
  ·right; exact ⟨by rw [at_inj h.sorted (by omega) hp g], g'⟩
theorem Rep.stand_zero {S : List Str} {par lst : Nat -> Int} (h : Rep S par lst) {p : Nat} (hp : p < S.length) (b : UInt8) {k : Nat} (hk : k + 1 < S.length) :
 stand par lst p b.toNat k = 0 ↔ at' S (k + 1) = at' S p ++ [b] := by
 obtain ⟨q, c, e1, hq, e2, e3⟩ := h.kids (k + 1) (by omega) hk
 unfold stand
 rw [cmpS_zero, e1, e2, e3, u8e]
 constructor
 ·rintro ⟨g, rfl⟩; rw [show q = p by omega]
 ·intro g
  have := List.append_inj' g rfl
  exact ⟨by rw [at_inj h.sorted (by omega) hp this.1], by simpa using this.2⟩
theorem Rep.mono {S : List Str} {par lst : Nat -> Int} (h : Rep S par lst) {p : Nat} (hp : p < S.length) (b : UInt8) (n : Nat) (hn : S.length = n + 1) :
 ∀ k k', k <= k' -> k' < n -> stand par lst p b.toNat k' < 0 -> stand par lst p b.toNat k < 0 := by
 intro k k' hk hk' hs
 rw [h.stand_neg hp b (by omega)] at hs ⊢
 rcases Nat.lt_or_eq_of_le hk with g | g
 ·exact slt_trans (at_lt h.sorted (by omega) (by omega)) hs
 ·rw [g]; exact hs
theorem Rep.yes {S : List Str} {par lst : Nat -> Int} (h : Rep S par lst) {p : Nat} (hp : p < S.length) (b : UInt8) (n : Nat) (hn : S.length = n + 1) {i : Nat} (hs : SEnd par lst p b.toNat n i)
 (hm : at' S p ++ [b] ∈ S) : okB par lst p b.toNat n i = true /\ S.idxOf (at' S p ++ [b]) = i + 1 := by
 have hj := List.idxOf_lt_length_of_mem hm
 have he := jV hm
 generalize S.idxOf (at' S p ++ [b]) = j at hj he
 have hj0 : j ≠ 0 := by rintro rfl; rw [h.head] at he; simp at he
 obtain ⟨k, rfl⟩ : ∃ k, j = k + 1 := ⟨j - 1, by omega⟩
 have hz := (h.stand_zero hp b hj).2 he
 have hik : i = k := by
  rcases Nat.lt_trichotomy i k with g | g | g
  ·have h1 := hs.hi i (Nat.le_refl _) (by omega)
   have h2 := (h.stand_neg hp b (k := i) (by omega)).2 (by rw [← he]; exact at_lt h.sorted hj (by omega))
   omega
  ·exact g
  ·have := hs.lo k g; omega
 subst hik
 refine ⟨?_, rfl⟩
 unfold okB
 simp [hz]
 omega
theorem Rep.no {S : List Str} {par lst : Nat -> Int} (h : Rep S par lst) {p : Nat} (hp : p < S.length) (b : UInt8) (n : Nat) (hn : S.length = n + 1) {i : Nat}
 (hm : at' S p ++ [b] ∉ S) : okB par lst p b.toNat n i = false := by
 cases hk : okB par lst p b.toNat n i with
 | false => rfl
 | true =>
   unfold okB at hk
   simp at hk
   exact absurd ((h.stand_zero hp b (by omega)).1 hk.2 ▸ jO (by omega)) hm
theorem find_yes (bt bs cap : Nat) (S : List Str) (par lst fl : Nat -> Int) (p : Nat) (b : UInt8) (w : World) (hR : Rep S par lst) (hp : p < S.length) (hbs : bs < w.heap.size) (hn : S.length < 1000000) (hcap : S.length <= cap)
 (ht : w.cell? ⟨bt, 0, none⟩ = some (.slice (some ⟨bs, 0, none⟩) S.length cap)) (hs : Sts w bs S.length par lst fl) (hm : at' S p ++ [b] ∈ S) :
 Calls Tryz.prog 69 #[.pointer (some ⟨bt, 0, none⟩), .int .i64 p, .int .u8 b.toNat] w fun e w' => e = .returned (.tuple #[.int .i64 (S.idxOf (at' S p ++ [b]) : Nat), .bool true]) /\ Below w.heap.size w w' := by
 obtain ⟨n, hl⟩ : ∃ n, S.length = n + 1 := ⟨S.length - 1, by have := hR.pos; omega⟩
 rw [hl] at ht hs
 refine (find_any bt bs n cap par lst fl p b.toNat w hbs (by omega) (by omega) ht hs (hR.mono hp b n hl)).mono ?_
 rintro e w' ⟨i, rfl, hse, hbw⟩
 obtain ⟨h1, h2⟩ := hR.yes hp b n hl hse hm
 rw [h1, h2]
 exact ⟨rfl, hbw⟩
theorem find_no (bt bs cap : Nat) (S : List Str) (par lst fl : Nat -> Int) (p : Nat) (b : UInt8) (w : World) (hR : Rep S par lst) (hp : p < S.length) (hbs : bs < w.heap.size) (hn : S.length < 1000000) (hcap : S.length <= cap)
 (ht : w.cell? ⟨bt, 0, none⟩ = some (.slice (some ⟨bs, 0, none⟩) S.length cap)) (hs : Sts w bs S.length par lst fl) (hm : at' S p ++ [b] ∉ S) :
 Calls Tryz.prog 69 #[.pointer (some ⟨bt, 0, none⟩), .int .i64 p, .int .u8 b.toNat] w fun e w' => ∃ i : Nat, e = .returned (.tuple #[.int .i64 i, .bool false]) /\ Below w.heap.size w w' := by
 obtain ⟨n, hl⟩ : ∃ n, S.length = n + 1 := ⟨S.length - 1, by have := hR.pos; omega⟩
 rw [hl] at ht hs
 refine (find_any bt bs n cap par lst fl p b.toNat w hbs (by omega) (by omega) ht hs (hR.mono hp b n hl)).mono ?_
 rintro e w' ⟨i, rfl, hse, hbw⟩
 rw [hR.no hp b n hl hm]
 exact ⟨i + 1, rfl, hbw⟩
end Go.Proofs.YtfpohfifdfbpkaaGreatDoor
namespace Go.Proofs.YtfpohfifdfbpkaaGreatDoor
open Go.RowKit Scour
def zc (S : List Str) (k : Nat) : Nat := S.idxOf (yI S (at' S k).tail)
def zO (S : List Str) (k : Nat) (b : UInt8) : Nat := S.idxOf (yI S (at' S k ++ [b]))
theorem Rep.fail_lt {S : List Str} {par lst : Nat -> Int} (h : Rep S par lst) {k : Nat} (h0 : 0 < k) (hk : k < S.length) : zc S k < k := by
 have hm := lsuf_mem S h.nil_mem (at' S k).tail
 have hl := lsuf_len S (at' S k).tail
 obtain ⟨p, c, _, _, _, e⟩ := h.kids k h0 hk
 have hi := List.idxOf_lt_length_of_mem hm
 have : slt (at' S (zc S k)) (at' S k) := by
  unfold zc; rw [jV hm]
  left
  have : (at' S k).tail.length = (at' S k).length - 1 := by simp
  have : 0 < (at' S k).length := by rw [e]; simp
  omega
 exact (at_lt_iff h.sorted hi hk).1 this
theorem Rep.at_fail {S : List Str} {par lst : Nat -> Int} (h : Rep S par lst) (k : Nat) : at' S (zc S k) = yI S (at' S k).tail :=
 jV (lsuf_mem S h.nil_mem _)
theorem Rep.next_lt {S : List Str} {par lst : Nat -> Int} (h : Rep S par lst) (k : Nat) (b : UInt8) : zO S k b < S.length :=
 List.idxOf_lt_length_of_mem (lsuf_mem S h.nil_mem _)
theorem Rep.next_yes {S : List Str} {k : Nat} {b : UInt8} (hm : at' S k ++ [b] ∈ S) : zO S k b = S.idxOf (at' S k ++ [b]) := by
 unfold zO; rw [lsuf_of_mem S _ hm]
theorem Rep.next_zero {S : List Str} {par lst : Nat -> Int} (h : Rep S par lst) {b : UInt8} (hm : at' S 0 ++ [b] ∉ S) : zO S 0 b = 0 := by
 unfold zO
 rw [h.head] at hm ⊢
 simp only [List.nil_append] at hm ⊢
 rw [yI, if_neg hm, yI]
 have := idx_at h.sorted h.pos
 rwa [h.head] at this
theorem Rep.next_fail {S : List Str} {par lst : Nat -> Int} (h : Rep S par lst) {k : Nat} {b : UInt8} (h0 : 0 < k) (hk : k < S.length) (hm : at' S k ++ [b] ∉ S) : zO S k b = zO S (zc S k) b := by
 obtain ⟨p, c, _, _, _, e⟩ := h.kids k h0 hk
 unfold zO
 rw [h.at_fail, lsuf_fail S h.closed b (at' S k) (by rw [e]; simp) hm]
set_option maxHeartbeats 1000000 in
theorem next_any (bt bs cap : Nat) (S : List Str) (par lst fl : Nat -> Int) (p : Nat) (b : UInt8) (w : World) (hR : Rep S par lst) (hp : p < S.length) (hbt : bt < w.heap.size) (hbs : bs < w.heap.size) (hn : S.length < 1000000) (hcap : S.length <= cap)
 (ht : w.cell? ⟨bt, 0, none⟩ = some (.slice (some ⟨bs, 0, none⟩) S.length cap)) (hs : Sts w bs S.length par lst fl) (hf : ∀ k, k <= p -> fl k = (zc S k : Nat)) :
 Calls Tryz.prog 43 #[.pointer (some ⟨bt, 0, none⟩), .int .i64 p, .int .u8 b.toNat] w fun e w' => e = .returned (.int .i64 (zO S p b)) /\ Below w.heap.size w w' := by
 have HF := zB hf
 have HT := zB ht
 clear hf ht
 go_enter Tryz.func43, Tryz.ntmps43
 go_wp2_with fail
 go_loopw [1] (fun v wr => ∃ q : Nat, v = .int .i64 q /\ q <= p /\ Hid (zO S q b = zO S p b) /\ Below w.heap.size w wr) (fun v _ => (intOf v).toNat)
 case atStart => exact ⟨p, rfl, Nat.le_refl _, zB rfl, Below.refl _ _⟩
 case round =>
  obtain ⟨q, rfl, hqp, HN, hnx⟩ := hrel
  have hsz := hnx.size
  have ht' := (hnx.cell (p := ⟨bt, 0, none⟩) hbt).trans (zA HT)
  have hs' := hs.below hnx hbs
  by_cases hm : at' S q ++ [b] ∈ S
  ·have HC := zB (find_yes bt bs cap S par lst fl q b wr hR (by omega) (by omega) hn hcap ht' hs' hm)
   have e : zO S p b = S.idxOf (at' S q ++ [b]) := by rw [← zA HN]; exact Rep.next_yes hm
   have HE := zB e
   clear e hs' ht' hs hm
   go_wp2_with (go_at_call 69; refine (zA HC).mono ?_; rintro e w' ⟨rfl, hbw⟩)
   go_ret
   exact ⟨by rw [zA HE]; rfl, hnx.trans (hbw.mono hsz)⟩
  ·have HC := zB (find_no bt bs cap S par lst fl q b wr hR (by omega) (by omega) hn hcap ht' hs' hm)
   by_cases h0 : q = 0
   ·subst h0
    have HE := zB ((zA HN).symm.trans (hR.next_zero hm))
    clear hs' ht' hs hm
    go_wp2_with (go_at_call 69; refine (zA HC).mono ?_; rintro e w' ⟨i, rfl, hbw⟩)
    go_ret
    exact ⟨by rw [zA HE]; rfl, hnx.trans (hbw.mono hsz)⟩
   ·have HE := zB ((hR.next_fail (by omega) (by omega) hm).symm.trans (zA HN))
    have hlt := hR.fail_lt (k := q) (by omega) (by omega)
    have hfq := zA HF q hqp
    obtain ⟨c1, c2, c3⟩ := hs' q (by omega)
    rw [hfq] at c3
    have hq1 : ((q : Int) == 0) = false := by simp; omega
    have hi1 : (q : Int) < (S.length : Int) := by omega
    have hb1 : bt < wr.heap.size := by omega
    have hb2 : bs < wr.heap.size := by omega
    clear hs' hs hm c1 c2 hfq
    go_wp2_with (go_at_call 69; refine (zA HC).mono ?_; rintro e w' ⟨i, rfl, hbw⟩; obtain ⟨hbc, hbf⟩ := bcell hbw)
    go_roundw
    case rel => exact ⟨zc S q, rfl, by omega, HE, hnx.trans (hbw.mono hsz)⟩
    case measure => simp [intOf]; omega
end Go.Proofs.YtfpohfifdfbpkaaGreatDoor
