import Derived.Test.YtibkhphbilfckaaGreatDoorPkF
import Derived.Deep.LoopGhost
namespace Go.Proofs.YtibkhphbilfckaaGreatDoor
open Go.RowKit Scour Go.Lib Go.Shelf

/-- A cell as the program has it: a free one has state 0. -/
def cellP (q : Int × Int) : Int × Int := if q.1 < 0 then (0, 0) else q
def cellsP (cl : List (Int × Int)) : List Value := cellsV (cl.map cellP)

/-- The table of packed rows in memory. -/
structure Tab (w : World) (bp : Nat) (vC vO vX : Value) (c : Str) (n : Nat) (o : Nat → Int) (cl : List (Int × Int)) : Prop where
  blk : w.heap[bp]? = some (.cells #[vC, vO, vX] 99 (0, 0))
  cls : w.ownsRow 0 5 1 vC c.length (c.map encB)
  off : w.ownsRow 0 3 1 vO n (intsF o n)
  cel : w.ownsRow 0 167 2 vX cl.length (cellsP cl)

theorem Tab.same {w w' : World} {bp : Nat} {vC vO vX : Value} {c : Str} {n : Nat} {o : Nat → Int} {cl : List (Int × Int)} (h : Tab w bp vC vO vX c n o cl) (hb : ∀ k, k < w.heap.size → (k = bp ∨ vC.ownBlock = some k ∨ vO.ownBlock = some k ∨ vX.ownBlock = some k) → w'.heap[k]? = w.heap[k]?) : Tab w' bp vC vO vX c n o cl :=
  ⟨(hb bp (Array.getElem?_eq_some_iff.1 h.blk).1 (Or.inl rfl)).trans h.blk, owns_kept h.cls (fun b hl hv => hb b hl (Or.inr (Or.inl hv))), owns_kept h.off (fun b hl hv => hb b hl (Or.inr (Or.inr (Or.inl hv)))), owns_kept h.cel (fun b hl hv => hb b hl (Or.inr (Or.inr (Or.inr hv))))⟩
theorem Tab.below {w w' : World} {bp : Nat} {vC vO vX : Value} {c : Str} {n : Nat} {o : Nat → Int} {cl : List (Int × Int)} (h : Tab w bp vC vO vX c n o cl) (hb : Below w.heap.size w w') : Tab w' bp vC vO vX c n o cl := h.same (fun k hk _ => hb.block k hk)

/-- What is known of cells. -/
structure COK (cl : List (Int × Int)) : Prop where
  st : ∀ q, q ∈ cl → q.1 < 0 ∨ 1 ≤ q.1
  len : cl.length < 100000000

theorem cellsP_get {cl : List (Int × Int)} {i : Nat} (hi : i < cl.length) : (cellsP cl)[i * 2]? = some (.int .i64 (cellP (cl.getD i (0, 0))).1) ∧ (cellsP cl)[i * 2 + 1]? = some (.int .i64 (cellP (cl.getD i (0, 0))).2) :=
  cellsV_get (cl.map cellP) i (cellP (cl.getD i (0, 0))) (by simp [List.getD, hi])
theorem cellsP_len (cl : List (Int × Int)) : (cellsP cl).length = cl.length * 2 := by unfold cellsP; rw [cellsV_len, List.length_map]

/-- A cell is taken just if its state isn't 0. -/
theorem COK.taken {cl : List (Int × Int)} (h : COK cl) {i : Nat} (hi : i < cl.length) : (cellP (cl.getD i (0, 0))).1 = 0 ↔ (cl.getD i (0, 0)).1 < 0 := by
  have hm : cl.getD i (0, 0) ∈ cl := by simp [List.getD, hi]
  have := h.st _ hm
  unfold cellP
  split <;> omega

theorem encPs_get {w : World} {g m cap : Nat} {l : List (Nat × Nat)} (h : w.ownsRow 0 210 2 (.slice (some ⟨g, 0, none⟩) m cap) m (encP l)) (hm : l.length = m) (k : Nat) (hk : k < m) : w.cell? ⟨g, k * 2, none⟩ = some (.int .i64 ((l.getD k (0, 0)).1 : Nat)) ∧ w.cell? ⟨g, k * 2 + 1, none⟩ = some (.int .i64 ((l.getD k (0, 0)).2 : Nat)) := by
  have hg := encP_get l k (l.getD k (0, 0)) (by simp [List.getD, show k < l.length by omega])
  have hl := encP_len2 l
  rw [show 2 * k = k * 2 by omega] at hg
  exact ⟨by rw [h.cellAt (k * 2) (by omega)]; exact hg.1, by rw [h.cellAt (k * 2 + 1) (by omega)]; exact hg.2⟩

set_option maxHeartbeats 8000000 in
set_option maxRecDepth 100000 in
theorem fits_any (bp : Nat) (vC vO vX : Value) (c : Str) (n : Nat) (o : Nat → Int) (cl : List (Int × Int)) (w : World) (hT : Tab w bp vC vO vX c n o cl) (hC : COK cl) (s ge m ce a : Nat) (l : List (Nat × Nat)) (hm : l.length = m) (hE : w.ownsRow 0 210 2 (.slice (some ⟨ge, 0, none⟩) m ce) m (encP l)) (hl : ∀ p, p ∈ l → p.1 < 1000) (hm2 : m ≤ 256) (ha : a < 100000000) :
    Calls Tryz.prog 110 #[.pointer (some ⟨bp, 0, none⟩), .agg #[.int .i64 (s : Nat), .slice (some ⟨ge, 0, none⟩) m ce], .int .i64 a] w fun e w' => e = .returned (.bool (freeB cl l a)) ∧ Below w.heap.size w w' := by
  obtain ⟨aX, cX, hvX⟩ : ∃ aX cX, vX = .slice aX cl.length cX := by
    rcases owns_form hT.cel with ⟨h1, h2⟩ | ⟨g, cc, h1, _⟩
    · exact ⟨none, 0, by rw [h1, h2]⟩
    · exact ⟨_, cc, h1⟩
  subst hvX
  have HC2 : Hid (∀ W, Below w.heap.size w W → W.cell? ⟨bp, 2, none⟩ = some (.slice aX cl.length cX)) := hide (fun W hb => by rw [cell_of_blk (hT.below hb).blk]; rfl)
  have HCC : Hid (∀ W k, Below w.heap.size w W → k < cl.length → ∃ gX, aX = some ⟨gX, 0, none⟩ ∧ W.cell? ⟨gX, k * 2, none⟩ = some (.int .i64 (cellP (cl.getD k (0, 0))).1)) := hide (by
    intro W k hb hk
    rcases owns_form (hT.below hb).cel with ⟨h1, h2⟩ | ⟨g, cc, h1, _⟩
    · omega
    · obtain ⟨rfl, rfl⟩ : aX = some ⟨g, 0, none⟩ ∧ cX = cc := by simpa using h1
      refine ⟨g, rfl, ?_⟩
      have := cellsP_len cl
      rw [(hT.below hb).cel.cellAt (k * 2) (by omega)]
      exact (cellsP_get hk).1)
  have HEE : Hid (∀ W k, Below w.heap.size w W → k < m → W.cell? ⟨ge, k * 2, none⟩ = some (.int .i64 ((l.getD k (0, 0)).1 : Nat)) ∧ W.cell? ⟨ge, k * 2 + 1, none⟩ = some (.int .i64 ((l.getD k (0, 0)).2 : Nat))) := hide (fun W k hb hk => encPs_get (owns_kept hE (fun b hl _ => hb.block b hl)) hm k hk)
  have HL := hide hl
  have HM := hide hm
  have HK := hide hC
  have hcl := hC.len
  clear hT hC hE hl hm
  go_enter Tryz.func110, Tryz.ntmps110
  go_wp2
  go_loopw [13] (fun v wr => ∃ k : Nat, v = .int .i64 k ∧ k ≤ m ∧ Hid (freeB cl (l.take k) a = true) ∧ Hid (Below w.heap.size w wr)) (fun v _ => m - (intOf v).toNat)
  case atStart => exact ⟨0, rfl, Nat.zero_le _, hide (by simp [freeB]), hide ((Below.refl _ _).alloc (Nat.le_refl _) _)⟩
  case round =>
    obtain ⟨k, rfl, hk, HA, HB⟩ := hrel
    have hsz := (unhide HB).size
    by_cases hkm : k < m
    · obtain ⟨e1, e2⟩ := unhide HEE wr k (unhide HB) hkm
      have hkl : k < l.length := by rw [unhide HM]; exact hkm
      have hpm : l.getD k (0, 0) ∈ l := by simp [List.getD, hkl]
      have hx := unhide HL _ hpm
      have ek : l.getD k (0, 0) = l[k] := by simp [List.getD, hkl]
      have HTK : Hid (freeB cl (l.take (k + 1)) a = (freeB cl (l.take k) a && (decide (cl.length ≤ a + (l.getD k (0, 0)).1) || decide ((cl.getD (a + (l.getD k (0, 0)).1) (0, 0)).1 < 0)))) := hide (by
        unfold freeB
        rw [all_take l _ k hkl, ek])
      have HFL : Hid ((decide (cl.length ≤ a + (l.getD k (0, 0)).1) || decide ((cl.getD (a + (l.getD k (0, 0)).1) (0, 0)).1 < 0)) = false → freeB cl l a = false) := hide (by
        intro h
        unfold freeB
        rw [ek] at h
        exact all_false l _ k hkl h)
      clear ek
      generalize l.getD k (0, 0) = p at *
      obtain ⟨x, y⟩ := p
      simp only [] at e1 e2 hx HTK HFL
      obtain ⟨at', hat⟩ : ∃ at', at' = a + x := ⟨_, rfl⟩
      have hati : (a : Int) + (x : Int) = (at' : Int) := by omega
      rw [← hat] at HTK HFL
      have hW : ∀ ob, Below w.heap.size w (wr.alloc ob) := fun ob => (unhide HB).alloc hsz _
      have HWB := hide hW
      have g2 := fun ob => unhide HC2 (wr.alloc ob) (hW ob)
      have hab : at' < 200000000 := by omega
      clear hW hpm hat
      by_cases hac : at' < cl.length
      · obtain ⟨gX, rfl, hx0⟩ := unhide HCC wr at' (unhide HB) hac
        have g3 : ∀ ob, (wr.alloc ob).cell? ⟨gX, at' * 2, none⟩ = some (.int .i64 (cellP (cl.getD at' (0, 0))).1) := fun ob => by
          obtain ⟨g', e, h'⟩ := unhide HCC (wr.alloc ob) at' (unhide HWB ob) hac
          obtain rfl : gX = g' := by simpa using e
          exact h'
        have hi1 : (at' : Int) < (cl.length : Int) := by omega
        have HT := hide ((unhide HK).taken hac)
        clear hx0
        generalize hst : (cellP (cl.getD at' (0, 0))).1 = st at *
        clear hst
        by_cases hst : st = 0
        · subst hst
          have HN : Hid (freeB cl (l.take (k + 1)) a = true) := hide (by rw [unhide HTK, unhide HA, decide_eq_true ((unhide HT).1 rfl)]; simp)
          clear HT HTK HFL
          go_wp2
          go_roundw
          case rel => exact ⟨k + 1, by go_num, hkm, HN, hide (unhide HWB _)⟩
          case measure => simp [intOf]; omega
        · have HN : Hid (freeB cl l a = false) := hide (unhide HFL (by
            have : ¬ (cl.getD at' (0, 0)).1 < 0 := fun h => hst ((unhide HT).2 h)
            simp only [decide_eq_false this, Bool.or_false, decide_eq_false_iff_not]
            omega))
          clear HT HTK HFL
          have hsb : ¬ st = 0 := hst
          go_wp2
          go_ret
          exact ⟨by rw [unhide HN]; rfl, unhide HWB _⟩
      · have hi1 : ¬ (at' : Int) < (cl.length : Int) := by omega
        have hi2 : decide ((at' : Int) < (cl.length : Int)) = false := by simp; omega
        have HN : Hid (freeB cl (l.take (k + 1)) a = true) := hide (by rw [unhide HTK, unhide HA, decide_eq_true (show cl.length ≤ at' by omega)]; simp)
        clear HTK HFL
        go_wp2
        go_roundw
        case rel => exact ⟨k + 1, by go_num, hkm, HN, hide (unhide HWB _)⟩
        case measure => simp [intOf]; omega
    · have hkm2 : k = l.length := by rw [unhide HM]; omega
      have HN : Hid (freeB cl l a = true) := hide (by have := unhide HA; rw [hkm2, List.take_length] at this; exact this)
      clear hkm2
      go_wp2
      go_ret
      exact ⟨by rw [unhide HN]; rfl, unhide HB⟩
end Go.Proofs.YtibkhphbilfckaaGreatDoor

namespace Go.Proofs.YtibkhphbilfckaaGreatDoor
open Go.RowKit Scour Go.Lib Go.Shelf

theorem Tryz.infoPC : (Tryz.prog.info? 167).map (fun i => (i.zero, i.size, i.bytes)) = some (some (.agg #[.int .i64 0, .int .i64 0]), 2, 16) := by kernel_rfl

def tabP (bp : Nat) (vO vX : Value) : Nat → Prop := fun k => k = bp ∨ vO.ownBlock = some k ∨ vX.ownBlock = some k

theorem cellsP_append (l r : List (Int × Int)) : cellsP (l ++ r) = cellsP l ++ cellsP r := by unfold cellsP; rw [List.map_append, cellsV_append]
theorem cellsP_set (l : List (Int × Int)) (i : Nat) (a b : Int) (ha : 0 ≤ a) : ((cellsP l).set (i * 2) (.int .i64 a)).set (i * 2 + 1) (.int .i64 b) = cellsP (l.set i (a, b)) := by
  unfold cellsP
  rw [cellsV_set, List.map_set]
  have : cellP (a, b) = (a, b) := by unfold cellP; rw [if_neg (by simp; omega)]
  rw [this]

/-- While cells are taken. -/
structure TInv (w wr : World) (bp : Nat) (vC vO vX : Value) (c : Str) (n : Nat) (o : Nat → Int) (vX' : Value) (cl : List (Int × Int)) : Prop where
  tab : Tab wr bp vC vO vX' c n o cl
  mod : Mod (tabP bp vO vX) w wr
  own : vX'.ownBlock = vX.ownBlock ∨ ∀ b, vX'.ownBlock = some b → w.heap.size ≤ b

theorem TInv.start {w : World} {bp : Nat} {vC vO vX : Value} {c : Str} {n : Nat} {o : Nat → Int} {cl : List (Int × Int)} (h : Tab w bp vC vO vX c n o cl) : TInv w w bp vC vO vX c n o vX cl := ⟨h, Mod.refl _ _, Or.inl rfl⟩

theorem TInv.step {w wr w2 : World} {bp : Nat} {vC vO vX vX' vX2 : Value} {c : Str} {n : Nat} {o o2 : Nat → Int} {cl cl2 : List (Int × Int)} (h : TInv w wr bp vC vO vX c n o vX' cl) (hR : Tab w2 bp vC vO vX2 c n o2 cl2) (hM : Mod (tabP bp vO vX') wr w2) (ho : vX2.ownBlock = vX'.ownBlock ∨ ∀ b, vX2.ownBlock = some b → wr.heap.size ≤ b) : TInv w w2 bp vC vO vX c n o2 vX2 cl2 := by
  refine ⟨hR, h.mod.trans hM (fun b hb hp => ?_), ?_⟩
  · rcases hp with e | e | e
    · exact Or.inl e
    · exact Or.inr (Or.inl e)
    · rcases h.own with g | g
      · exact Or.inr (Or.inr (g ▸ e))
      · have := g b e; omega
  · rcases ho with e | e
    · rcases h.own with g | g
      · exact Or.inl (e.trans g)
      · exact Or.inr (fun b hb => g b (e ▸ hb))
    · exact Or.inr (fun b hb => Nat.le_trans h.mod.size (e b hb))

theorem TInv.below {w wr w2 : World} {bp : Nat} {vC vO vX vX' : Value} {c : Str} {n : Nat} {o : Nat → Int} {cl : List (Int × Int)} (h : TInv w wr bp vC vO vX c n o vX' cl) (hb : Below wr.heap.size wr w2) : TInv w w2 bp vC vO vX c n o vX' cl :=
  h.step (h.tab.below hb) ⟨hb.os, hb.tape, hb.output, hb.size, fun k hk _ => hb.block k hk⟩ (Or.inl rfl)

/-- One free cell more. -/
theorem Tab.grow {w w' : World} {bp : Nat} {vC vO vX vX' : Value} {c : Str} {n : Nat} {o : Nat → Int} {cl : List (Int × Int)} (h : Tab w bp vC vO vX c n o cl) (hst : RowSt w w' bp 2 #[vC, vO, vX] 99 167 2 vX vX' (cl.length + 1) (cellsP cl ++ [.int .i64 0, .int .i64 0])) :
    Tab w' bp vC vO vX' c n o (cl ++ [(-1, 0)]) ∧ Mod (tabP bp vO vX) w w' := by
  have hfr : ∀ {e : Nat} {u : Value} {m sz : Nat} {xs : List Value}, e ≠ 99 → e ≠ 167 → w.ownsRow 0 e sz u m xs → w'.ownsRow 0 e sz u m xs := by
    intro e u m sz xs h1 h2 hu
    refine owns_kept hu (fun b hl hv => hst.frame b hl (fun e1 => ?_) (fun e1 => ?_))
    · obtain ⟨c2, hc2⟩ := owns_block hu hv
      exact two_types hc2 h.blk h1 e1
    · obtain ⟨c2, hc2⟩ := owns_block hu hv
      obtain ⟨c3, hc3⟩ := owns_block h.cel e1
      exact two_types hc2 hc3 h2 rfl
  refine ⟨⟨hst.blk, hfr (by decide) (by decide) h.cls, hfr (by decide) (by decide) h.off, ?_⟩, hst.os, hst.tape, hst.output, hst.size, fun k hk hp => hst.frame k hk (fun e => hp (Or.inl e)) (fun e => hp (Or.inr (Or.inr e)))⟩
  have := hst.row
  rw [cellsP_append, List.length_append]
  exact this

/-- A cell is put. -/
theorem Tab.put {w : World} {bp : Nat} {vC vO vX : Value} {c : Str} {n : Nat} {o : Nat → Int} {cl : List (Int × Int)} (h : Tab w bp vC vO vX c n o cl) {k : Nat} (hk : k < cl.length) :
    ∃ gX cX, vX = .slice (some ⟨gX, 0, none⟩) cl.length cX ∧ gX ≠ bp ∧ (∃ x y, w.cell? ⟨gX, k * 2, none⟩ = some (.int .i64 x) ∧ w.cell? ⟨gX, k * 2 + 1, none⟩ = some (.int .i64 y)) ∧ w.frozen? ⟨gX, k * 2, none⟩ = false ∧ w.frozen? ⟨gX, k * 2 + 1, none⟩ = false ∧
      ∀ a b : Int, 0 ≤ a → Tab ((w.setCell ⟨gX, k * 2, none⟩ (.int .i64 a)).setCell ⟨gX, k * 2 + 1, none⟩ (.int .i64 b)) bp vC vO vX c n o (cl.set k (a, b)) ∧ Mod (tabP bp vO vX) w ((w.setCell ⟨gX, k * 2, none⟩ (.int .i64 a)).setCell ⟨gX, k * 2 + 1, none⟩ (.int .i64 b)) := by
  have hc := h.cel
  have hcl := cellsP_len cl
  rcases hc.2 with ⟨_, hn⟩ | ⟨gX, cX, cur, rfl, _⟩
  · omega
  · obtain ⟨cur, hcur⟩ := owns_blk hc
    have hnb : gX ≠ bp := two_types hcur h.blk (by decide)
    have hsame : ∀ (a b : Int) (j : Nat), j ≠ gX → ((w.setCell ⟨gX, k * 2, none⟩ (.int .i64 a)).setCell ⟨gX, k * 2 + 1, none⟩ (.int .i64 b)).heap[j]? = w.heap[j]? := fun a b j hj => (Below.heap_setCell _ _ _ j hj).trans (Below.heap_setCell w _ _ j hj)
    have hfr : ∀ (a b : Int) {e : Nat} {u : Value} {m sz : Nat} {xs : List Value}, e ≠ 167 → w.ownsRow 0 e sz u m xs → ((w.setCell ⟨gX, k * 2, none⟩ (.int .i64 a)).setCell ⟨gX, k * 2 + 1, none⟩ (.int .i64 b)).ownsRow 0 e sz u m xs := by
      intro a b e u m sz xs h1 hu
      refine owns_kept hu (fun j hl hv => hsame a b j (fun e1 => ?_))
      obtain ⟨c2, hc2⟩ := owns_block hu hv
      exact two_types hc2 hcur h1 e1
    refine ⟨gX, cX, rfl, hnb, ⟨_, _, by rw [hc.cellAt (k * 2) (by omega)]; exact (cellsP_get hk).1, by rw [hc.cellAt (k * 2 + 1) (by omega)]; exact (cellsP_get hk).2⟩, hc.frozenAt _, hc.frozenAt _, fun a b ha => ⟨⟨(hsame a b bp (fun e => hnb e.symm)).trans h.blk, hfr a b (by decide) h.cls, hfr a b (by decide) h.off, ?_⟩, ?_⟩⟩
    · have h1 := (hc.stored (k * 2) (.int .i64 a)).1
      have h2 := (h1.stored (k * 2 + 1) (.int .i64 b)).1
      rw [cellsP_set _ _ _ _ ha] at h2
      rw [List.length_set]
      exact h2
    · exact ((Mod.setCell w gX _ _).trans (Mod.setCell _ gX _ _) (fun _ _ e => e)).imp (fun k e => Or.inr (Or.inr (by rw [e]; rfl)))

set_option maxHeartbeats 16000000 in
set_option maxRecDepth 100000 in
theorem take_any (bp : Nat) (vC vO vX : Value) (c : Str) (n : Nat) (o : Nat → Int) (cl : List (Int × Int)) (w : World) (hT : Tab w bp vC vO vX c n o cl) (hcl : cl.length < 100000000) (t s y : Nat) (ht : t < 100000000) :
    Calls Tryz.prog 111 #[.pointer (some ⟨bp, 0, none⟩), .int .i64 t, .agg #[.int .i64 (s : Nat), .int .i64 (y : Nat)]] w fun e w' => e = .returned (.tuple #[]) ∧ ∃ vX', Hid (TInv w w' bp vC vO vX c n o vX' ((padC cl t).set t ((s : Int), (y : Int)))) := by
  obtain ⟨i0, hi, hz0, hz1, hz2⟩ := info_parts Tryz.infoPC
  have hbp : bp < w.heap.size := (Array.getElem?_eq_some_iff.1 hT.blk).1
  have HT0 : Hid (TInv w (w.alloc (.cells #[.int .i64 (s : Nat), .int .i64 (y : Nat)] 167)) bp vC vO vX c n o vX cl) := hide ((TInv.start hT).below ((Below.refl _ _).alloc (Nat.le_refl _) _))
  have HX : Hid ((w.alloc (.cells #[.int .i64 (s : Nat), .int .i64 (y : Nat)] 167)).heap[w.heap.size]? = some (.cells #[.int .i64 (s : Nat), .int .i64 (y : Nat)] 167 (0, 0))) := hide (heap_alloc_new w _)
  have HXV : Hid (∀ b, vX.ownBlock = some b → b < w.heap.size) := hide (fun b hb => by obtain ⟨cu, hcu⟩ := owns_block hT.cel hb; exact (Array.getElem?_eq_some_iff.1 hcu).1)
  clear hT
  go_enter Tryz.func111, Tryz.ntmps111
  go_wp2
  generalize w.alloc (.cells #[.int .i64 (s : Nat), .int .i64 (y : Nat)] 167) = w1 at *
  obtain ⟨hb, hhb⟩ : ∃ hb, hb = w.heap.size := ⟨_, rfl⟩
  have HHB := hide hhb
  rw [← hhb] at HX ⊢
  have hnb0 : vX.ownBlock ≠ some hb := fun e => by have := unhide HXV hb e; omega
  have HNB0 := hide hnb0
  have hbh : bp < hb := by omega
  clear hnb0 HXV hhb
  go_loopg [9] (t + 1 - cl.length) (fun m _ wr => ∃ (vX' : Value), m ≤ t + 1 - cl.length ∧ Hid (TInv w wr bp vC vO vX c n o vX' (cl ++ List.replicate (t + 1 - cl.length - m) (-1, 0))) ∧ Hid (wr.heap[hb]? = some (.cells #[.int .i64 (s : Nat), .int .i64 (y : Nat)] 167 (0, 0))) ∧ Hid (vX'.ownBlock ≠ some hb))
  case atStart => exact ⟨vX, Nat.le_refl _, by rw [Nat.sub_self, List.replicate_zero, List.append_nil]; exact HT0, HX, HNB0⟩
  case round =>
    clear HT0 HX HNB0
    obtain ⟨vX2, hm, HI, HX, HNB⟩ := hrel
    have hlx : (cl ++ List.replicate (t + 1 - cl.length - gk) ((-1 : Int), (0 : Int))).length = cl.length + (t + 1 - cl.length - gk) := by simp
    have HNX : Hid (0 < gk → cl ++ List.replicate (t + 1 - cl.length - (gk - 1)) ((-1 : Int), (0 : Int)) = (cl ++ List.replicate (t + 1 - cl.length - gk) ((-1 : Int), (0 : Int))) ++ [(-1, 0)]) := hide (fun h => by
      rw [show t + 1 - cl.length - (gk - 1) = (t + 1 - cl.length - gk) + 1 by omega, List.replicate_succ', List.append_assoc])
    have HPD : Hid (gk = 0 → cl ++ List.replicate (t + 1 - cl.length - gk) ((-1 : Int), (0 : Int)) = padC cl t) := hide (fun h => by rw [h]; rfl)
    generalize cl ++ List.replicate (t + 1 - cl.length - gk) ((-1 : Int), (0 : Int)) = clx at *
    obtain ⟨aX, cX, rfl⟩ : ∃ aX cX, vX2 = .slice aX clx.length cX := by
      rcases owns_form (unhide HI).tab.cel with ⟨h1, h2⟩ | ⟨g, cc, h1, _⟩
      · exact ⟨none, 0, by rw [h1, h2]⟩
      · exact ⟨_, cc, h1⟩
    have z1 : wr.cell? ⟨bp, 2, none⟩ = some (.slice aX clx.length cX) := by rw [cell_of_blk (unhide HI).tab.blk]; rfl
    have HLX := hide hlx
    have hlx2 : clx.length < 200000001 := by omega
    clear hlx
    by_cases hg : 0 < gk
    · have k1 : (clx.length : Int) ≤ (t : Int) := by have := unhide HLX; omega
      have HR4 : Hid (RowSt wr wr bp 2 #[vC, vO, .slice aX clx.length cX] 99 167 2 (.slice aX clx.length cX) (.slice aX clx.length cX) clx.length (cellsP clx)) := hide (RowSt.start (o := 2) (unhide HI).tab.blk rfl (unhide HI).tab.cel)
      have HNX2 := hide (unhide HNX hg)
      have hhl : hb < wr.heap.size := (Array.getElem?_eq_some_iff.1 (unhide HX)).1
      have HKB : Hid (∀ w5 g5 cg5, (wr.alloc (.cells #[.int .i64 0, .int .i64 0] 167)).grownBy w5 (Value.slice aX clx.length cX).ownBlock → ((Value.slice aX clx.length cX).ownBlock = some g5 ∨ g5 = wr.heap.size + 1) → (w5.setCell ⟨bp, 2, none⟩ (.slice (some ⟨g5, 0, none⟩) (clx.length + 1) cg5)).heap[hb]? = some (.cells #[.int .i64 (s : Nat), .int .i64 (y : Nat)] 167 (0, 0)) ∧ (Value.slice (some ⟨g5, 0, none⟩) (clx.length + 1) cg5).ownBlock ≠ some hb) := hide (by
        intro w5 g5 cg5 hg5 hat5
        refine ⟨?_, fun e => ?_⟩
        · rw [Below.heap_setCell w5 ⟨bp, 2, none⟩ _ hb (by show hb ≠ bp; omega), hg5.block hb (by simp; omega) (fun e => unhide HNB e.symm), Below.heap_alloc _ _ hb hhl]
          exact unhide HX
        · have e1 : g5 = hb := by simpa [Value.ownBlock] using e
          rcases hat5 with e2 | e2
          · exact unhide HNB (by rw [e2, e1])
          · omega)
      clear HNX HPD
      go_wp2_with (at_builtin; go_loud (refine wpList_append_lies _ rfl (.tmp 17) (.tmp 19) 97 rfl 0 167 i0 (.agg #[.int .i64 0, .int .i64 0]) 2 16 Tryz.underlying97 hi hz0 hz1 hz2 rfl (by decide) _ clx.length (cellsP clx) rfl ((unhide HR4).ready #[.int .i64 0, .int .i64 0] wr.heap.size rfl).1 ⟨wr.heap.size, 0, none⟩ 1 1 [.int .i64 0, .int .i64 0] rfl rfl ((unhide HR4).ready #[.int .i64 0, .int .i64 0] wr.heap.size rfl).2 (by intro u hu; simp at hu; subst hu; rfl) (by omega) (by unfold maxLen; omega) (by omega) (Nat.zero_le _) (wr.heap.size + 1) (by simp) ?_); intro g5 cg5 w5 ho5 hg5 hat5 hl5; obtain ⟨c5, f5⟩ := (unhide HR4).behind (by decide) (by simp) _ hg5; have HR5 := hide ((unhide HR4).step (by decide) #[.int .i64 0, .int .i64 0] wr.heap.size rfl ho5 hg5 hat5); have HB5 := hide (unhide HKB w5 g5 cg5 hg5 hat5); clear ho5 hg5 hat5 hl5)
      go_roundg (gk - 1)
      case measure => omega
      case rel =>
        refine ⟨.slice (some ⟨g5, 0, none⟩) (clx.length + 1) cg5, by omega, hide ?_, hide (unhide HB5).1, hide (unhide HB5).2⟩
        rw [unhide HNX2]
        obtain ⟨q1, q2⟩ := (unhide HI).tab.grow (unhide HR5)
        exact (unhide HI).step q1 q2 (unhide HR5).lies
    · have hg0 : gk = 0 := by omega
      have hlx3 : t < clx.length := by have := unhide HLX; omega
      have k1 : ¬ (clx.length : Int) ≤ (t : Int) := by omega
      have HPD2 := hide (unhide HPD hg0)
      obtain ⟨gX, cX', hv, n1, ⟨u1, u2, v1, v2⟩, fz1, fz2, hput⟩ := (unhide HI).tab.put hlx3
      obtain ⟨rfl, rfl⟩ : aX = some ⟨gX, 0, none⟩ ∧ cX = cX' := by simpa using hv
      have n3 : gX ≠ hb := fun e => unhide HNB (by rw [e]; rfl)
      have HPU := hide (hput s y (by omega))
      have b1 : wr.cell? ⟨hb, 0, none⟩ = some (.int .i64 (s : Nat)) := by rw [cell_of_blk (unhide HX)]; rfl
      have b2 : wr.cell? ⟨hb, 1, none⟩ = some (.int .i64 (y : Nat)) := by rw [cell_of_blk (unhide HX)]; rfl
      have k2 : (t : Int) < (clx.length : Int) := by omega
      clear HNX HPD hput hv
      go_wp2
      go_region
      go_wp2
      go_end0
      have hfin := ((unhide HI).step (unhide HPU).1 (unhide HPU).2 (Or.inl rfl)).below ((Below.refl _ _).drew)
      rw [unhide HPD2] at hfin
      exact ⟨rfl, _, hide hfin⟩
end Go.Proofs.YtibkhphbilfckaaGreatDoor
