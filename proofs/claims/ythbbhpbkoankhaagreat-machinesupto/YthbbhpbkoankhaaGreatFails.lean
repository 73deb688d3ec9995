import Derived.Test.YthbbhpbkoankhaaGreatRow
namespace Go.Proofs.YthbbhpbkoankhaaGreat
open Go.RowKit Scour

/-- The fails as far as they are found. -/
def failTo (S : List Str) (i k : Nat) : Int := if k < i then (failN S k : Nat) else 0

theorem failTo_upd (S : List Str) (i : Nat) (x : Int) (hx : x = (failN S i : Nat)) : upd (failTo S i) i x = failTo S (i + 1) := by
  funext k
  unfold upd failTo
  by_cases h : k = i
  · subst h; simp [hx]
  · rw [if_neg h]
    by_cases g : k < i
    · rw [if_pos g, if_pos (by omega)]
    · rw [if_neg g, if_neg (by omega)]

theorem failTo_one (S : List Str) (i : Nat) (h : failN S i = 0) : failTo S i = failTo S (i + 1) := by
  funext k
  unfold failTo
  by_cases g : k < i
  · rw [if_pos g, if_pos (by omega)]
  · rw [if_neg g]
    by_cases e : k = i
    · subst e; simp [h]
    · rw [if_neg (by omega)]

theorem Rep.fail_root {S : List Str} {par lst : Nat → Int} (h : Rep S par lst) {i : Nat} (h0 : 0 < i) (hi : i < S.length) (hp : par i = 0) : failN S i = 0 := by
  obtain ⟨p, c, e1, hlt, _, e⟩ := h.kids i h0 hi
  have : p = 0 := by omega
  subst this
  unfold failN
  rw [e, h.head]
  show S.idxOf (lsuf S []) = 0
  have := idx_at h.sorted h.pos
  rwa [h.head] at this

theorem Rep.fail_next {S : List Str} {par lst : Nat → Int} (h : Rep S par lst) {i p : Nat} {c : UInt8} (h0 : 0 < p) (hp : p < S.length) (e : at' S i = at' S p ++ [c]) : nextN S (failN S p) c = failN S i := by
  obtain ⟨q, d, _, _, _, e'⟩ := h.kids p h0 hp
  unfold nextN
  rw [h.at_fail]
  unfold failN
  rw [e]
  have : (at' S p ++ [c]).tail = (at' S p).tail ++ [c] := by
    rw [e']
    cases at' S q <;> simp
  rw [this, lsuf_snoc S h.closed c (at' S p).tail]

set_option maxHeartbeats 2000000 in
theorem fails_any (bt g cap base tt : Nat) (S : List Str) (par lst : Nat → Int) (vE : Value) (w : World) (hR : Rep S par lst) (hn : S.length < 1000000) (hne : bt ≠ g)
    (ht : w.heap[bt]? = some (.cells #[.slice (some ⟨g, 0, none⟩) S.length cap, vE] tt (0, 0)))
    (hown : w.ownsRow base 146 3 (.slice (some ⟨g, 0, none⟩) S.length cap) S.length (cellsF par lst (failTo S 1) S.length)) :
    Calls Tryz.prog 59 #[.pointer (some ⟨bt, 0, none⟩)] w fun e w' => e = .returned (.tuple #[]) ∧ w'.ownsRow base 146 3 (.slice (some ⟨g, 0, none⟩) S.length cap) S.length (cellsF par lst (fun k => (failN S k : Nat)) S.length) ∧ w.grownBy w' (some g) := by
  have hpos := hR.pos
  obtain ⟨hbg, hg, hcap⟩ := owns_lt hown hpos
  have hbt : bt < w.heap.size := (Array.getElem?_eq_some_iff.1 ht).1
  have HT := hide ht
  have HO := hide hown
  clear ht hown
  go_enter Tryz.func59, Tryz.ntmps59
  go_wp2_with fail
  go_loopw [2] (fun v wr => ∃ i : Nat, v = .int .i64 i ∧ 1 ≤ i ∧ i ≤ S.length ∧ Hid (wr.ownsRow base 146 3 (.slice (some ⟨g, 0, none⟩) S.length cap) S.length (cellsF par lst (failTo S i) S.length)) ∧ Hid (w.grownBy wr (some g))) (fun v _ => S.length - (intOf v).toNat)
  case atStart => exact ⟨1, rfl, Nat.le_refl _, hpos, HO, hide (World.grownBy.refl _ _)⟩
  case round =>
    obtain ⟨i, rfl, h1, hle, HOw, HG⟩ := hrel
    have hsz := (unhide HG).size
    have hbt' : bt < wr.heap.size := by omega
    have hg' : g < wr.heap.size := by omega
    have hblk := ((unhide HG).block bt hbt (by simp [hne])).trans (unhide HT)
    have ct : wr.cell? ⟨bt, 0, none⟩ = some (.slice (some ⟨g, 0, none⟩) S.length cap) := by rw [cell_of_blk hblk]; rfl
    by_cases hlt : i < S.length
    · have hsts := sts_of_owns (unhide HOw)
      obtain ⟨c1, c2, c3⟩ := hsts i hlt
      obtain ⟨p, c, e1, hp, e2, e3⟩ := hR.kids i (by omega) hlt
      rw [e1] at c1
      rw [e2] at c2
      have hi1 : (i : Int) < (S.length : Int) := by omega
      have hi0 : (0 : Int) ≤ (i : Int) := by omega
      by_cases h0 : p = 0
      · have HF := hide (failTo_one S i (hR.fail_root (by omega) hlt (by omega)))
        subst h0
        have HE1 := hide e1
        have HE2 := hide e2
        have HE3 := hide e3
        clear c2 c3 hblk hsts e1 e2 e3
        go_wp2
        go_roundw
        case rel => exact ⟨i + 1, by go_num, by omega, hlt, by rw [← unhide HF]; exact HOw, HG⟩
        case measure => simp [intOf]; omega
      · obtain ⟨d1, d2, d3⟩ := hsts p (by omega)
        have hfp : failTo S i p = (failN S p : Nat) := by unfold failTo; rw [if_pos hp]
        rw [hfp] at d3
        have hfl := hR.fail_lt (k := p) (by omega) (by omega)
        have hnl := hR.next_lt (failN S p) c
        have HFN := hide (hR.fail_next (by omega) (by omega) e3)
        have HC := hide (fun w' h1 h2 h3 h4 => next_any bt g cap S par lst (failTo S i) (failN S p) c w' hR (by omega) h1 h2 hn hcap h3 h4 (fun k hk => by unfold failTo; rw [if_pos (by omega)]))
        have HST := hide hsts
        have hpi : ¬ p = i := by omega
        have hpne : ((p : Int) != 0) = true := by simp [h0]
        have hp1 : (p : Int) < (S.length : Int) := by omega
        have hp0 : (0 : Int) ≤ (p : Int) := by omega
        have fz : wr.frozen? ⟨g, i * 3 + 2, none⟩ = false := (unhide HOw).frozenAt _
        have HE1 := hide e1
        have HE2 := hide e2
        have HE3 := hide e3
        clear d1 d2 hfp hsts e1 e2 e3 hblk hfl hnl
        go_wp2
        go_region_held3 (fun w' => w'.cell? ⟨bt, 0, none⟩ = some (.slice (some ⟨g, 0, none⟩) S.length cap) ∧ w'.cell? ⟨g, i * 3, none⟩ = some (.int .i64 p) ∧ w'.cell? ⟨g, i * 3 + 1, none⟩ = some (.int .u8 c.toNat) ∧ w'.cell? ⟨g, p * 3 + 2, none⟩ = some (.int .i64 (failN S p))) (first | go_keep | (refine ⟨?_, ?_, ?_, ?_⟩ <;> rw [set_far (by omega)] <;> simp [*]))
          (first | (go_at_call 47; refine (unhide HC _ ?_ ?_ ?_ ?_).mono ?_; exact hbt'; exact hg'; exact ct; exact unhide HST; rintro e w' ⟨rfl, hbw⟩; replace hbw := below_undrew hbw; obtain ⟨hbc, hbf⟩ := bcell hbw))
        rename_i w' hbw hbc hbf
        have hgr := grown_trans (unhide HG) (grown_of_below hbw (some g))
        have hst := (((unhide HOw).kept (grown_of_below hbw none) (by simp [Value.ownBlock])).stored (i * 3 + 2) (.int .i64 (nextN S (failN S p) c)))
        rw [cellsF_set _ _ _ _ _ _ hlt, failTo_upd S i _ (by rw [unhide HFN])] at hst
        have HS1 := hide hst.1
        have HS2 := hide (grown_trans hgr hst.2)
        clear hbc hbf hbw hgr hst
        go_wp2
        go_roundw
        case rel => exact ⟨i + 1, by go_num, by omega, hlt, HS1, HS2⟩
        case measure => simp [intOf]; omega
    · have hi : i = S.length := by omega
      subst hi
      have HF := hide (show cellsF par lst (failTo S S.length) S.length = cellsF par lst (fun k => (failN S k : Nat)) S.length from cellsF_congr fun k hk => ⟨rfl, rfl, by unfold failTo; rw [if_pos hk]⟩)
      clear hblk
      go_wp2
      go_end0
      exact ⟨rfl, by rw [← unhide HF]; exact unhide HOw, unhide HG⟩
end Go.Proofs.YthbbhpbkoankhaaGreat
