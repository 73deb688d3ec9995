import Derived.Test.YthbbhpbkoankhaaGreatNext
namespace Go.Proofs.YthbbhpbkoankhaaGreat
open Go.RowKit Scour

/-- The number of FAIL of the k-th state. -/
def failN (S : List Str) (k : Nat) : Nat := S.idxOf (lsuf S (at' S k).tail)
/-- The number of NEXT of the k-th state and a byte. -/
def nextN (S : List Str) (k : Nat) (b : UInt8) : Nat := S.idxOf (lsuf S (at' S k ++ [b]))

theorem Rep.fail_lt {S : List Str} {par lst : Nat → Int} (h : Rep S par lst) {k : Nat} (h0 : 0 < k) (hk : k < S.length) : failN S k < k := by
  have hm := lsuf_mem S h.nil_mem (at' S k).tail
  have hl := lsuf_len S (at' S k).tail
  obtain ⟨p, c, _, _, _, e⟩ := h.kids k h0 hk
  have hi := List.idxOf_lt_length_of_mem hm
  have : slt (at' S (failN S k)) (at' S k) := by
    unfold failN; rw [at_idx hm]
    left
    have : (at' S k).tail.length = (at' S k).length - 1 := by simp
    have : 0 < (at' S k).length := by rw [e]; simp
    omega
  exact (at_lt_iff h.sorted hi hk).1 this

theorem Rep.at_fail {S : List Str} {par lst : Nat → Int} (h : Rep S par lst) (k : Nat) : at' S (failN S k) = lsuf S (at' S k).tail :=
  at_idx (lsuf_mem S h.nil_mem _)

theorem Rep.next_lt {S : List Str} {par lst : Nat → Int} (h : Rep S par lst) (k : Nat) (b : UInt8) : nextN S k b < S.length :=
  List.idxOf_lt_length_of_mem (lsuf_mem S h.nil_mem _)

theorem Rep.next_yes {S : List Str} {k : Nat} {b : UInt8} (hm : at' S k ++ [b] ∈ S) : nextN S k b = S.idxOf (at' S k ++ [b]) := by
  unfold nextN; rw [lsuf_of_mem S _ hm]

theorem Rep.next_zero {S : List Str} {par lst : Nat → Int} (h : Rep S par lst) {b : UInt8} (hm : at' S 0 ++ [b] ∉ S) : nextN S 0 b = 0 := by
  unfold nextN
  rw [h.head] at hm ⊢
  simp only [List.nil_append] at hm ⊢
  rw [lsuf, if_neg hm, lsuf]
  have := idx_at h.sorted h.pos
  rwa [h.head] at this

theorem Rep.next_fail {S : List Str} {par lst : Nat → Int} (h : Rep S par lst) {k : Nat} {b : UInt8} (h0 : 0 < k) (hk : k < S.length) (hm : at' S k ++ [b] ∉ S) : nextN S k b = nextN S (failN S k) b := by
  obtain ⟨p, c, _, _, _, e⟩ := h.kids k h0 hk
  unfold nextN
  rw [h.at_fail, lsuf_fail S h.closed b (at' S k) (by rw [e]; simp) hm]

set_option maxHeartbeats 1000000 in
theorem next_any (bt bs cap : Nat) (S : List Str) (par lst fl : Nat → Int) (p : Nat) (b : UInt8) (w : World) (hR : Rep S par lst) (hp : p < S.length) (hbt : bt < w.heap.size) (hbs : bs < w.heap.size) (hn : S.length < 1000000) (hcap : S.length ≤ cap)
    (ht : w.cell? ⟨bt, 0, none⟩ = some (.slice (some ⟨bs, 0, none⟩) S.length cap)) (hs : Sts w bs S.length par lst fl) (hf : ∀ k, k ≤ p → fl k = (failN S k : Nat)) :
    Calls Tryz.prog 47 #[.pointer (some ⟨bt, 0, none⟩), .int .i64 p, .int .u8 b.toNat] w fun e w' => e = .returned (.int .i64 (nextN S p b)) ∧ Below w.heap.size w w' := by
  have HF := hide hf
  have HT := hide ht
  clear hf ht
  go_enter Tryz.func47, Tryz.ntmps47
  go_wp2_with fail
  go_loopw [1] (fun v wr => ∃ q : Nat, v = .int .i64 q ∧ q ≤ p ∧ Hid (nextN S q b = nextN S p b) ∧ Below w.heap.size w wr) (fun v _ => (intOf v).toNat)
  case atStart => exact ⟨p, rfl, Nat.le_refl _, hide rfl, Below.refl _ _⟩
  case round =>
    obtain ⟨q, rfl, hqp, HN, hnx⟩ := hrel
    have hsz := hnx.size
    have ht' := (hnx.cell (p := ⟨bt, 0, none⟩) hbt).trans (unhide HT)
    have hs' := hs.below hnx hbs
    by_cases hm : at' S q ++ [b] ∈ S
    · have HC := hide (find_yes bt bs cap S par lst fl q b wr hR (by omega) (by omega) hn hcap ht' hs' hm)
      have e : nextN S p b = S.idxOf (at' S q ++ [b]) := by rw [← unhide HN]; exact Rep.next_yes hm
      have HE := hide e
      clear e hs' ht' hs hm
      go_wp2_with (go_at_call 69; refine (unhide HC).mono ?_; rintro e w' ⟨rfl, hbw⟩)
      go_ret
      exact ⟨by rw [unhide HE]; rfl, hnx.trans (hbw.mono hsz)⟩
    · have HC := hide (find_no bt bs cap S par lst fl q b wr hR (by omega) (by omega) hn hcap ht' hs' hm)
      by_cases h0 : q = 0
      · subst h0
        have HE := hide ((unhide HN).symm.trans (hR.next_zero hm))
        clear hs' ht' hs hm
        go_wp2_with (go_at_call 69; refine (unhide HC).mono ?_; rintro e w' ⟨i, rfl, hbw⟩)
        go_ret
        exact ⟨by rw [unhide HE]; rfl, hnx.trans (hbw.mono hsz)⟩
      · have HE := hide ((hR.next_fail (by omega) (by omega) hm).symm.trans (unhide HN))
        have hlt := hR.fail_lt (k := q) (by omega) (by omega)
        have hfq := unhide HF q hqp
        obtain ⟨c1, c2, c3⟩ := hs' q (by omega)
        rw [hfq] at c3
        have hq1 : ((q : Int) == 0) = false := by simp; omega
        have hi1 : (q : Int) < (S.length : Int) := by omega
        have hb1 : bt < wr.heap.size := by omega
        have hb2 : bs < wr.heap.size := by omega
        clear hs' hs hm c1 c2 hfq
        go_wp2_with (go_at_call 69; refine (unhide HC).mono ?_; rintro e w' ⟨i, rfl, hbw⟩; obtain ⟨hbc, hbf⟩ := bcell hbw)
        go_roundw
        case rel => exact ⟨failN S q, rfl, by omega, HE, hnx.trans (hbw.mono hsz)⟩
        case measure => simp [intOf]; omega
end Go.Proofs.YthbbhpbkoankhaaGreat
