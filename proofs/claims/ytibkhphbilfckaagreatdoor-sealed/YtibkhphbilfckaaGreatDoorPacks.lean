import Derived.Test.YtibkhphbilfckaaGreatDoorClasses
import Derived.Deep.LoopGhost
namespace Go.Proofs.YtibkhphbilfckaaGreatDoor
open Go.RowKit Scour Go.Lib

/-- The document's rows in memory. -/
structure RRows (w : World) (rb : Nat) (vO vF vC : Value) (rs : Nat → Value) (L : Nat → List (Nat × Nat)) (n : Nat) (off : Nat → Int) (cl : List (Int × Int)) : Prop where
  blk : w.heap[rb]? = some (.cells #[vO, vF, vC] 197 (0, 0))
  own : Owns w 0 vO rs L n
  offs : w.ownsRow 0 3 1 vF n (intsF off n)
  cels : w.ownsRow 0 198 2 vC cl.length (cellsV cl)
  apart : ∀ i b, i < n → (rs i).ownBlock = some b → vF.ownBlock ≠ some b

theorem RRows.same {w w' : World} {rb : Nat} {vO vF vC : Value} {rs : Nat → Value} {L : Nat → List (Nat × Nat)} {n : Nat} {off : Nat → Int} {cl : List (Int × Int)} (h : RRows w rb vO vF vC rs L n off cl) (hb : ∀ k, k < w.heap.size → w'.heap[k]? = w.heap[k]?) : RRows w' rb vO vF vC rs L n off cl :=
  ⟨(hb rb (Array.getElem?_eq_some_iff.1 h.blk).1).trans h.blk, ⟨owns_kept h.own.row (fun b hl _ => hb b hl), fun i hi => owns_kept (h.own.each i hi) (fun b hl _ => hb b hl)⟩, owns_kept h.offs (fun b hl _ => hb b hl), owns_kept h.cels (fun b hl _ => hb b hl), h.apart⟩

theorem RRows.list {w : World} {rb : Nat} {vO vF vC : Value} {rs : Nat → Value} {L : Nat → List (Nat × Nat)} {n : Nat} {off : Nat → Int} {cl : List (Int × Int)} (h : RRows w rb vO vF vC rs L n off cl) {s : Nat} (hs : s < n) (h0 : 0 < (L s).length) :
    ∃ gO cO gl c, vO = .slice (some ⟨gO, 0, none⟩) n cO ∧ w.cell? ⟨gO, s, none⟩ = some (.slice (some ⟨gl, 0, none⟩) (2 * (L s).length) c) ∧ rs s = .slice (some ⟨gl, 0, none⟩) (2 * (L s).length) c ∧ ∀ j p, (L s)[j]? = some p → w.cell? ⟨gl, 2 * j, none⟩ = some (.int .i64 p.1) ∧ w.cell? ⟨gl, 2 * j + 1, none⟩ = some (.int .i64 p.2) := by
  have he := h.own.each s hs
  rcases h.own.row.2 with ⟨_, hn⟩ | ⟨gO, cO, cur, hO, _⟩
  · omega
  · rcases he.2 with ⟨_, hn⟩ | ⟨gl, c, cur2, hl, _⟩
    · omega
    · refine ⟨gO, cO, gl, c, hO, ?_, hl, fun j p hp => ?_⟩
      · have hr := h.own.row
        rw [hO] at hr
        rw [hr.cellAt s (by omega)]
        simp [hs, hl]
      · have hj := (List.getElem?_eq_some_iff.1 hp).1
        rw [hl] at he
        obtain ⟨e1, e2⟩ := encP_get _ j p hp
        rw [he.cellAt (2 * j) (by omega), he.cellAt (2 * j + 1) (by omega)]
        exact ⟨e1, e2⟩

set_option maxHeartbeats 4000000 in
set_option maxRecDepth 100000 in
theorem free_any (rb : Nat) (vO vF vC : Value) (rs : Nat → Value) (L : Nat → List (Nat × Nat)) (n : Nat) (off : Nat → Int) (cl : List (Int × Int)) (s a : Nat) (w : World) (hR : RRows w rb vO vF vC rs L n off cl) (hs : s < n) (h0 : 0 < (L s).length) (hll : (L s).length ≤ 256) (_hn : n < 10000) (hb : ∀ p, p ∈ L s → p.1 < 1000) (ha : a < 1000000000) (hcl : cl.length < 1000000000) :
    Calls Tryz.prog 124 #[.pointer (some ⟨rb, 0, none⟩), .int .i64 s, .int .i64 a] w fun e w' => e = .returned (.bool (freeB cl (L s) a)) ∧ w' = w := by
  obtain ⟨gO, cO, gl, c, rfl, c1, hrs, hel⟩ := hR.list hs h0
  have c0 : w.cell? ⟨rb, 0, none⟩ = some (.slice (some ⟨gO, 0, none⟩) n cO) := by rw [cell_of_blk hR.blk]; rfl
  have c2 : w.cell? ⟨rb, 2, none⟩ = some vC := by rw [cell_of_blk hR.blk]; rfl
  obtain ⟨aC, cC, hvC⟩ : ∃ aC cC, vC = .slice aC cl.length cC := by
    rcases hR.cels.2 with ⟨h, h1⟩ | ⟨g, cap, cur, h, _⟩
    · exact ⟨none, 0, by rw [h, h1]⟩
    · exact ⟨_, cap, h⟩
  subst hvC
  have HCC : Hid (∀ k, k < cl.length → ∃ gC, aC = some ⟨gC, 0, none⟩ ∧ w.cell? ⟨gC, k * 2, none⟩ = some (.int .i64 (cl.getD k (0, 0)).1)) := hide (fun k hk => by
    rcases hR.cels.2 with ⟨h, h1⟩ | ⟨gC, cap, cur, h, _⟩
    · omega
    · obtain ⟨rfl, rfl⟩ : aC = some ⟨gC, 0, none⟩ ∧ cC = cap := by simpa using h
      refine ⟨gC, rfl, ?_⟩
      rw [hR.cels.cellAt (k * 2) (by omega), (cellsV_get cl k cl[k] (List.getElem?_eq_getElem hk)).1]
      simp [List.getD, hk])
  have HEL := hide hel
  have HBP := hide hb
  clear hR hel hb hrs
  have HFB : Hid (freeB cl (L s) a = (L s).all fun p => decide (cl.length ≤ a + p.1) || decide ((cl.getD (a + p.1) (0, 0)).1 < 0)) := hide rfl
  generalize freeB cl (L s) a = fb at *
  have i1 : (s : Int) < (n : Int) := by omega
  go_enter Tryz.func124, Tryz.ntmps124
  go_wp2
  go_loop [8] (fun v8 => ∃ j : Nat, v8 = .int .i64 (2 * (j : Int)) ∧ j ≤ (L s).length ∧ Hid (((L s).take j).all (fun p => decide (cl.length ≤ a + p.1) || decide ((cl.getD (a + p.1) (0, 0)).1 < 0)) = true)) (fun v8 => 2 * (L s).length - (intOf v8).toNat)
  case atStart => exact ⟨0, rfl, Nat.zero_le _, hide (by simp)⟩
  case round =>
    obtain ⟨j, rfl, hj, HA⟩ := hrel
    by_cases hlt : j < (L s).length
    · obtain ⟨p, hp⟩ : ∃ p, (L s)[j]? = some p := ⟨_, List.getElem?_eq_getElem hlt⟩
      have hpe : (L s)[j] = p := by rw [List.getElem?_eq_getElem hlt] at hp; simpa using hp
      obtain ⟨d1, d2⟩ := unhide HEL j p hp
      have hpb := unhide HBP p (List.mem_of_getElem? hp)
      have HAT := hide (all_take (L s) (fun p => decide (cl.length ≤ a + p.1) || decide ((cl.getD (a + p.1) (0, 0)).1 < 0)) j hlt)
      have HAF := hide (all_false (L s) (fun p => decide (cl.length ≤ a + p.1) || decide ((cl.getD (a + p.1) (0, 0)).1 < 0)) j hlt)
      rw [hpe] at HAT HAF
      have j1 : 2 * (j : Int) < 2 * ((L s).length : Int) := by omega
      have j2 : (0 : Int) ≤ 2 * (j : Int) := by omega
      by_cases hin : a + p.1 < cl.length
      · obtain ⟨gC, rfl, cc⟩ := unhide HCC (a + p.1) hin
        have k1 : (a : Int) + (p.1 : Int) < (cl.length : Int) := by omega
        have k2 : (0 : Int) ≤ (a : Int) + (p.1 : Int) := by omega
        by_cases hx : (cl.getD (a + p.1) (0, 0)).1 < 0
        · have HA2 : Hid (((L s).take (j + 1)).all (fun p => decide (cl.length ≤ a + p.1) || decide ((cl.getD (a + p.1) (0, 0)).1 < 0)) = true) := hide (by
            rw [unhide HAT, unhide HA]; simp only [Bool.true_and, decide_eq_true hx, Bool.or_true])
          clear HAT HAF
          generalize (cl.getD (a + p.1) (0, 0)).1 = x at *
          have x1 : ¬ 0 ≤ x := by omega
          go_wp2
          go_round
          case rel => exact ⟨j + 1, by go_num, hlt, HA2⟩
          case measure => simp [intOf]; omega
        · have HF : Hid (fb = false) := hide (by
            rw [unhide HFB]
            exact unhide HAF (by simp only [decide_eq_false hx, decide_eq_false (show ¬ cl.length ≤ a + p.1 by omega), Bool.or_false]))
          clear HAT HAF
          generalize (cl.getD (a + p.1) (0, 0)).1 = x at *
          have x1 : 0 ≤ x := by omega
          go_wp2
          go_ret
          exact ⟨by rw [unhide HF]; rfl, rfl⟩
      · have HA2 : Hid (((L s).take (j + 1)).all (fun p => decide (cl.length ≤ a + p.1) || decide ((cl.getD (a + p.1) (0, 0)).1 < 0)) = true) := hide (by
          rw [unhide HAT, unhide HA]; simp; omega)
        have k1 : ¬ (a : Int) + (p.1 : Int) < (cl.length : Int) := by omega
        clear HAT HAF
        go_wp2
        go_round
        case rel => exact ⟨j + 1, by go_num, hlt, HA2⟩
        case measure => simp [intOf]; omega
    · obtain rfl : j = (L s).length := by omega
      have HF : Hid (fb = true) := hide (by
        rw [unhide HFB, ← unhide HA, List.take_length])
      have j1 : ¬ 2 * ((L s).length : Int) < 2 * ((L s).length : Int) := by omega
      go_wp2
      go_ret
      exact ⟨by rw [unhide HF]; rfl, rfl⟩

/-- The blocks of rows that a row's laying turns. -/
def packP (rb : Nat) (vF vC : Value) : Nat → Prop := fun k => k = rb ∨ vF.ownBlock = some k ∨ vC.ownBlock = some k
end Go.Proofs.YtibkhphbilfckaaGreatDoor

namespace Go.Proofs.YtibkhphbilfckaaGreatDoor
open Go.RowKit Scour Go.Lib

theorem Tryz.infoC : (Tryz.prog.info? 198).map (fun i => (i.zero, i.size, i.bytes)) = some (some (.agg #[.int .i64 0, .int .i64 0]), 2, 16) := by kernel_rfl

theorem RRows.offsets {w : World} {rb : Nat} {vO vF vC : Value} {rs : Nat → Value} {L : Nat → List (Nat × Nat)} {n : Nat} {off : Nat → Int} {cl : List (Int × Int)} (h : RRows w rb vO vF vC rs L n off cl) {s : Nat} (hs : s < n) :
    ∃ gF cF, vF = .slice (some ⟨gF, 0, none⟩) n cF ∧ w.cell? ⟨gF, s, none⟩ = some (.int .i64 (off s)) ∧ w.frozen? ⟨gF, s, none⟩ = false ∧ ∀ a : Int, RRows (w.setCell ⟨gF, s, none⟩ (.int .i64 a)) rb vO vF vC rs L n (upd off s a) cl ∧ Mod (packP rb vF vC) w (w.setCell ⟨gF, s, none⟩ (.int .i64 a)) := by
  have ho := h.offs
  rcases ho.2 with ⟨_, hn⟩ | ⟨gF, cF, cur, rfl, _⟩
  · omega
  · obtain ⟨cur, hcur⟩ := owns_blk ho
    refine ⟨gF, cF, rfl, by rw [ho.cellAt s (by omega), intsF_get _ _ _ hs], ho.frozenAt s, fun a => ⟨⟨?_, ⟨?_, fun i hi => ?_⟩, ?_, ?_, h.apart⟩, ?_⟩⟩
    · rw [Below.heap_setCell w _ _ rb (fun e => two_types h.blk hcur (by decide) e)]; exact h.blk
    · refine owns_kept h.own.row (fun b _ hv => Below.heap_setCell w _ _ b (fun e => ?_))
      obtain ⟨c2, hc2⟩ := owns_block h.own.row hv
      exact two_types hc2 hcur (by decide) e
    · refine owns_kept (h.own.each i hi) (fun b _ hv => Below.heap_setCell w _ _ b (fun e => h.apart i b hi hv ?_))
      rw [e]; rfl
    · have := (ho.stored s (.int .i64 a)).1
      rw [intsF_set] at this
      exact this
    · refine owns_kept h.cels (fun b _ hv => Below.heap_setCell w _ _ b (fun e => ?_))
      obtain ⟨c2, hc2⟩ := owns_block h.cels hv
      exact two_types hc2 hcur (by decide) e
    · have := Mod.setCell w gF s (.int .i64 a)
      exact ⟨this.os, this.tape, this.output, this.size, fun k hk hp => this.out k hk (fun e => hp (Or.inr (Or.inl (by rw [e]; rfl))))⟩

/-- One free cell more. -/
theorem RRows.grow {w w' : World} {rb : Nat} {vO vF vC vC' : Value} {rs : Nat → Value} {L : Nat → List (Nat × Nat)} {n : Nat} {off : Nat → Int} {cl : List (Int × Int)} (h : RRows w rb vO vF vC rs L n off cl) (hst : RowSt w w' rb 2 #[vO, vF, vC] 197 198 2 vC vC' (cl.length + 1) (cellsV cl ++ [.int .i64 (-1), .int .i64 0])) :
    RRows w' rb vO vF vC' rs L n off (cl ++ [(-1, 0)]) ∧ Mod (packP rb vF vC) w w' := by
  have hfr : ∀ {e : Nat} {u : Value} {m sz : Nat} {xs : List Value}, e ≠ 197 → e ≠ 198 → w.ownsRow 0 e sz u m xs → w'.ownsRow 0 e sz u m xs := by
    intro e u m sz xs h1 h2 hu
    refine owns_kept hu (fun b hl hv => hst.frame b hl (fun e1 => ?_) (fun e1 => ?_))
    · obtain ⟨c2, hc2⟩ := owns_block hu hv
      exact two_types hc2 h.blk h1 e1
    · obtain ⟨c2, hc2⟩ := owns_block hu hv
      obtain ⟨c3, hc3⟩ := owns_block h.cels e1
      exact two_types hc2 hc3 h2 rfl
  refine ⟨⟨hst.blk, ⟨hfr (by decide) (by decide) h.own.row, fun i hi => hfr (by decide) (by decide) (h.own.each i hi)⟩, hfr (by decide) (by decide) h.offs, ?_, h.apart⟩, hst.os, hst.tape, hst.output, hst.size, fun k hk hp => hst.frame k hk (fun e => hp (Or.inl e)) (fun e => hp (Or.inr (Or.inr e)))⟩
  have := hst.row
  rw [cellsV_append, List.length_append]
  exact this

/-- A cell is put. -/
theorem RRows.put {w : World} {rb : Nat} {vO vF vC : Value} {rs : Nat → Value} {L : Nat → List (Nat × Nat)} {n : Nat} {off : Nat → Int} {cl : List (Int × Int)} (h : RRows w rb vO vF vC rs L n off cl) {k : Nat} (hk : k < cl.length) :
    ∃ gC cC, vC = .slice (some ⟨gC, 0, none⟩) cl.length cC ∧ gC ≠ rb ∧ (∀ i b, i < n → (rs i).ownBlock = some b → gC ≠ b) ∧ (∃ x y, w.cell? ⟨gC, k * 2, none⟩ = some (.int .i64 x) ∧ w.cell? ⟨gC, k * 2 + 1, none⟩ = some (.int .i64 y)) ∧ w.frozen? ⟨gC, k * 2, none⟩ = false ∧ w.frozen? ⟨gC, k * 2 + 1, none⟩ = false ∧
      ∀ a b : Int, RRows ((w.setCell ⟨gC, k * 2, none⟩ (.int .i64 a)).setCell ⟨gC, k * 2 + 1, none⟩ (.int .i64 b)) rb vO vF vC rs L n off (cl.set k (a, b)) ∧ Mod (packP rb vF vC) w ((w.setCell ⟨gC, k * 2, none⟩ (.int .i64 a)).setCell ⟨gC, k * 2 + 1, none⟩ (.int .i64 b)) := by
  have hc := h.cels
  rcases hc.2 with ⟨_, hn⟩ | ⟨gC, cC, cur, rfl, _⟩
  · omega
  · obtain ⟨cur, hcur⟩ := owns_blk hc
    have hnrb : gC ≠ rb := two_types hcur h.blk (by decide)
    have hsame : ∀ (a b : Int) (j : Nat), j ≠ gC → ((w.setCell ⟨gC, k * 2, none⟩ (.int .i64 a)).setCell ⟨gC, k * 2 + 1, none⟩ (.int .i64 b)).heap[j]? = w.heap[j]? := fun a b j hj => (Below.heap_setCell _ _ _ j hj).trans (Below.heap_setCell w _ _ j hj)
    have hfr : ∀ (a b : Int) {e : Nat} {u : Value} {m sz : Nat} {xs : List Value}, e ≠ 198 → w.ownsRow 0 e sz u m xs → ((w.setCell ⟨gC, k * 2, none⟩ (.int .i64 a)).setCell ⟨gC, k * 2 + 1, none⟩ (.int .i64 b)).ownsRow 0 e sz u m xs := by
      intro a b e u m sz xs h1 hu
      refine owns_kept hu (fun j hl hv => hsame a b j (fun e1 => ?_))
      obtain ⟨c2, hc2⟩ := owns_block hu hv
      exact two_types hc2 hcur h1 e1
    refine ⟨gC, cC, rfl, hnrb, fun i b hi hv e => ?_, ⟨_, _, by rw [hc.cellAt (k * 2) (by omega)]; exact (cellsV_get cl k cl[k] (List.getElem?_eq_getElem hk)).1, by rw [hc.cellAt (k * 2 + 1) (by omega)]; exact (cellsV_get cl k cl[k] (List.getElem?_eq_getElem hk)).2⟩, hc.frozenAt _, hc.frozenAt _, fun a b => ⟨⟨(hsame a b rb (fun e => hnrb e.symm)).trans h.blk, ⟨hfr a b (by decide) h.own.row, fun i hi => hfr a b (by decide) (h.own.each i hi)⟩, hfr a b (by decide) h.offs, ?_, h.apart⟩, rfl, rfl, rfl, by simp [World.setCell], fun j _ hp => hsame a b j (fun e => hp (Or.inr (Or.inr (by rw [e]; rfl))))⟩⟩
    · obtain ⟨c2, hc2⟩ := owns_block (h.own.each i hi) hv
      exact two_types hcur hc2 (by decide) e
    · have h1 := (hc.stored (k * 2) (.int .i64 a)).1
      have h2 := (h1.stored (k * 2 + 1) (.int .i64 b)).1
      rw [cellsV_set] at h2
      rw [List.length_set]
      exact h2

/-- While a row is laid. -/
structure LInv (w wr : World) (rb : Nat) (vO vF vC : Value) (rs : Nat → Value) (L : Nat → List (Nat × Nat)) (n : Nat) (off : Nat → Int) (vC' : Value) (cl : List (Int × Int)) : Prop where
  rows : RRows wr rb vO vF vC' rs L n off cl
  mod : Mod (packP rb vF vC) w wr
  own : vC'.ownBlock = vC.ownBlock ∨ ∀ b, vC'.ownBlock = some b → w.heap.size ≤ b

theorem LInv.step {w wr w2 : World} {rb : Nat} {vO vF vC vC' vC2 : Value} {rs : Nat → Value} {L : Nat → List (Nat × Nat)} {n : Nat} {off : Nat → Int} {cl cl2 : List (Int × Int)} (h : LInv w wr rb vO vF vC rs L n off vC' cl) (hR : RRows w2 rb vO vF vC2 rs L n off cl2) (hM : Mod (packP rb vF vC') wr w2) (ho : vC2.ownBlock = vC'.ownBlock ∨ ∀ b, vC2.ownBlock = some b → wr.heap.size ≤ b) : LInv w w2 rb vO vF vC rs L n off vC2 cl2 := by
  refine ⟨hR, h.mod.trans hM (fun b hb hp => ?_), ?_⟩
  · rcases hp with e | e | e
    · exact Or.inl e
    · exact Or.inr (Or.inl e)
    · rcases h.own with g | g
      · exact Or.inr (Or.inr (g ▸ e))
      · have := g b e; omega
  · rcases ho with e | e
    · rcases h.own with g | g
      · exact Or.inl (e.trans g)
      · exact Or.inr (fun b hb => g b (e ▸ hb))
    · exact Or.inr (fun b hb => Nat.le_trans h.mod.size (e b hb))

theorem LInv.drewN {w wr : World} {rb : Nat} {vO vF vC vC' : Value} {rs : Nat → Value} {L : Nat → List (Nat × Nat)} {n : Nat} {off : Nat → Int} {cl : List (Int × Int)} (h : LInv w wr rb vO vF vC rs L n off vC' cl) (m : Nat) : LInv w (wr.drewN m) rb vO vF vC rs L n off vC' cl :=
  h.step (h.rows.same (fun k hk => (below_drewN (Below.refl wr.heap.size wr) m).block k hk)) (Mod.drewN wr m) (Or.inl rfl)

set_option maxHeartbeats 8000000 in
set_option maxRecDepth 100000 in
theorem lies_any (rb : Nat) (vO vF vC : Value) (rs : Nat → Value) (L : Nat → List (Nat × Nat)) (n : Nat) (off : Nat → Int) (cl : List (Int × Int)) (s a : Nat) (w : World) (hR : RRows w rb vO vF vC rs L n off cl) (hs : s < n) (h0 : 0 < (L s).length) (hll : (L s).length ≤ 256) (_hn : n < 10000) (hb : ∀ p, p ∈ L s → p.1 < 1000 ∧ p.2 < 10000) (ha : a < 1000000000) (hcl : cl.length < 1000000000) :
    Calls Tryz.prog 125 #[.pointer (some ⟨rb, 0, none⟩), .int .i64 s, .int .i64 a] w fun e w' => e = .returned (.tuple #[]) ∧ ∃ vC', RRows w' rb vO vF vC' rs L n (upd off s a) (lay cl s (L s) a) ∧ Mod (packP rb vF vC) w w' ∧ (vC'.ownBlock = vC.ownBlock ∨ ∀ b, vC'.ownBlock = some b → w.heap.size ≤ b) := by
  obtain ⟨i0, hi, hz0, hz1, hz2⟩ := info_parts Tryz.infoC
  obtain ⟨gF, cF, rfl, d0, f0, hof⟩ := hR.offsets hs
  have e1 : w.cell? ⟨rb, 1, none⟩ = some (.slice (some ⟨gF, 0, none⟩) n cF) := by rw [cell_of_blk hR.blk]; rfl
  obtain ⟨hR1, hM1⟩ := hof a
  obtain ⟨gO, cO, gl, c, rfl, c1, hrs, _⟩ := hR1.list hs h0
  have c0 : (w.setCell ⟨gF, s, none⟩ (.int .i64 a)).cell? ⟨rb, 0, none⟩ = some (.slice (some ⟨gO, 0, none⟩) n cO) := by rw [cell_of_blk hR1.blk]; rfl
  have HR1 := hide hR1
  have HM1 := hide hM1
  have HRS := hide hrs
  have HBP := hide hb
  clear hR hof hR1 hM1 hrs hb
  have i1 : (s : Int) < (n : Int) := by omega
  generalize hw1 : w.setCell ⟨gF, s, none⟩ (.int .i64 a) = w1 at *
  go_enter Tryz.func125, Tryz.ntmps125
  go_wp2
  obtain ⟨off1, hoff⟩ : ∃ o, o = upd off s (a : Int) := ⟨_, rfl⟩
  rw [← hoff] at HR1
  have HOF := hide hoff
  clear hoff
  have HI0 : Hid (LInv w w1 rb (.slice (some ⟨gO, 0, none⟩) n cO) (.slice (some ⟨gF, 0, none⟩) n cF) vC rs L n off1 vC cl) := hide ⟨unhide HR1, unhide HM1, Or.inl rfl⟩
  clear HR1 HM1 c0 c1
  go_loopw [7] (fun v7 wr => ∃ (j jj : Nat) (vC' : Value), v7 = .int .i64 jj ∧ Hid (jj = 2 * j) ∧ j ≤ (L s).length ∧ Hid (LInv w wr rb (.slice (some ⟨gO, 0, none⟩) n cO) (.slice (some ⟨gF, 0, none⟩) n cF) vC rs L n off1 vC' (lay cl s ((L s).take j) a))) (fun v7 _ => 2 * (L s).length - (intOf v7).toNat)
  case atStart => exact ⟨0, 0, vC, rfl, hide rfl, Nat.zero_le _, HI0⟩
  case round =>
    obtain ⟨j, jj, vC1, rfl, HJJ, hj, HI⟩ := hrel
    by_cases hlt : j < (L s).length
    · obtain ⟨p, hp⟩ : ∃ p, (L s)[j]? = some p := ⟨_, List.getElem?_eq_getElem hlt⟩
      obtain ⟨hp1, hp2⟩ := unhide HBP p (List.mem_of_getElem? hp)
      have hll2 : (lay cl s ((L s).take j) a).length ≤ max cl.length (a + 1000) := lay_len _ (fun q hq => (unhide HBP q (List.mem_of_mem_take hq)).1)
      have HLT := hide (lay_take (cl := cl) (s := s) (a := a) hp)
      have HCE : Hid (∀ W vC' clx, RRows W rb (.slice (some ⟨gO, 0, none⟩) n cO) (.slice (some ⟨gF, 0, none⟩) n cF) vC' rs L n off1 clx → W.cell? ⟨rb, 2, none⟩ = some vC' ∧ (∃ aC cC, vC' = .slice aC clx.length cC) ∧ W.cell? ⟨gl, jj, none⟩ = some (.int .i64 p.1) ∧ W.cell? ⟨gl, jj + 1, none⟩ = some (.int .i64 p.2)) := hide (fun W vC' clx h => by
        obtain ⟨gO', cO', gl', c', _, _, h3, h4⟩ := h.list hs h0
        have h5 := unhide HRS
        rw [h3] at h5
        obtain ⟨rfl, _⟩ : gl' = gl ∧ c' = c := by simpa using h5
        refine ⟨by rw [cell_of_blk h.blk]; rfl, ?_, by rw [unhide HJJ]; exact h4 j p hp⟩
        rcases h.cels.2 with ⟨h6, h7⟩ | ⟨g, cap, cur, h6, _⟩
        · exact ⟨none, 0, by rw [h6, h7]⟩
        · exact ⟨_, cap, h6⟩)
      generalize lay cl s ((L s).take j) a = clj at *
      have j1 : (jj : Int) < 2 * ((L s).length : Int) := by have := unhide HJJ; omega
      have j2 : (0 : Int) ≤ (jj : Int) := by omega
      have j3 : (jj : Int) + 1 < 2 * ((L s).length : Int) := by have := unhide HJJ; omega
      have j4 : (0 : Int) ≤ (jj : Int) + 1 := by omega
      have r2 : IntKind.i64.wrap ((jj : Int) + 1) = (jj : Int) + 1 := wrap_small _ (by omega) (by omega)
      have r1 : IntKind.i64.wrap ((a : Int) + (p.1 : Int)) = (a : Int) + (p.1 : Int) := wrap_small _ (by omega) (by omega)
      go_wp2
      go_loopg [28] (a + p.1 + 1 - clj.length) (fun m _ wr => ∃ (vC' : Value), m ≤ a + p.1 + 1 - clj.length ∧ Hid (LInv w wr rb (.slice (some ⟨gO, 0, none⟩) n cO) (.slice (some ⟨gF, 0, none⟩) n cF) vC rs L n off1 vC' (clj ++ List.replicate (a + p.1 + 1 - clj.length - m) (-1, 0))))
      case atStart => exact ⟨vC1, Nat.le_refl _, by rw [Nat.sub_self, List.replicate_zero, List.append_nil]; exact HI⟩
      case round =>
        obtain ⟨vC2, hm, HI2⟩ := hrel
        have hlx : (clj ++ List.replicate (a + p.1 + 1 - clj.length - gk) ((-1 : Int), (0 : Int))).length = clj.length + (a + p.1 + 1 - clj.length - gk) := by simp
        have HNX : Hid (0 < gk → clj ++ List.replicate (a + p.1 + 1 - clj.length - (gk - 1)) ((-1 : Int), (0 : Int)) = (clj ++ List.replicate (a + p.1 + 1 - clj.length - gk) ((-1 : Int), (0 : Int))) ++ [(-1, 0)]) := hide (fun h => by
          rw [show a + p.1 + 1 - clj.length - (gk - 1) = (a + p.1 + 1 - clj.length - gk) + 1 by omega, List.replicate_succ', List.append_assoc])
        have HPD : Hid (gk = 0 → clj ++ List.replicate (a + p.1 + 1 - clj.length - gk) ((-1 : Int), (0 : Int)) = padC clj (a + p.1)) := hide (fun h => by rw [h]; rfl)
        generalize clj ++ List.replicate (a + p.1 + 1 - clj.length - gk) ((-1 : Int), (0 : Int)) = clx at *
        obtain ⟨z1, ⟨aC, cC, rfl⟩, z2, z3⟩ := unhide HCE wr vC2 clx (unhide HI2).rows
        have HLX := hide hlx
        have hlx2 : clx.length < 2000001000 := by omega
        clear hlx
        go_wp2_with fail
        go_quiet (fail)
        have HI3 := hide ((unhide HI2).drewN nq)
        clear z1 z2 z3 HI2
        generalize wr.drewN nq = wd at *
        obtain ⟨z1, _, z2, z3⟩ := unhide HCE wd _ clx (unhide HI3).rows
        by_cases hg : 0 < gk
        · have k1 : (clx.length : Int) ≤ (a : Int) + (p.1 : Int) := by have := unhide HLX; omega
          have HR4 : Hid (RowSt wd wd rb 2 #[.slice (some ⟨gO, 0, none⟩) n cO, .slice (some ⟨gF, 0, none⟩) n cF, .slice aC clx.length cC] 197 198 2 (.slice aC clx.length cC) (.slice aC clx.length cC) clx.length (cellsV clx)) := hide (RowSt.start (o := 2) (unhide HI3).rows.blk rfl (unhide HI3).rows.cels)
          have HNX2 := hide (unhide HNX hg)
          clear HNX HPD
          go_wp2_with (at_builtin; go_loud (refine wpList_append_lies _ rfl (.tmp 44) (.tmp 46) 195 rfl 0 198 i0 (.agg #[.int .i64 0, .int .i64 0]) 2 16 Tryz.underlying195 hi hz0 hz1 hz2 rfl (by decide) _ clx.length (cellsV clx) rfl ((unhide HR4).ready #[.int .i64 (-1), .int .i64 0] wd.heap.size rfl).1 ⟨wd.heap.size, 0, none⟩ 1 1 [.int .i64 (-1), .int .i64 0] rfl rfl ((unhide HR4).ready #[.int .i64 (-1), .int .i64 0] wd.heap.size rfl).2 (by intro u hu; simp at hu; rcases hu with rfl | rfl <;> rfl) (by omega) (by unfold maxLen; omega) (by omega) (Nat.zero_le _) (wd.heap.size + 1) (by simp) ?_); intro g5 cg5 w5 ho5 hg5 hat5 hl5; obtain ⟨c5, f5⟩ := (unhide HR4).behind (by decide) (by simp) _ hg5; have HR5 := hide ((unhide HR4).step (by decide) #[.int .i64 (-1), .int .i64 0] wd.heap.size rfl ho5 hg5 hat5); clear ho5 hg5 hat5 hl5)
          go_roundg (gk - 1)
          case measure => omega
          case rel =>
            refine ⟨.slice (some ⟨g5, 0, none⟩) (clx.length + 1) cg5, by omega, hide ?_⟩
            rw [unhide HNX2]
            obtain ⟨q1, q2⟩ := (unhide HI3).rows.grow (unhide HR5)
            exact (unhide HI3).step q1 q2 (unhide HR5).lies
        · have hg0 : gk = 0 := by omega
          have hlx3 : a + p.1 < clx.length := by have := unhide HLX; omega
          have k1 : ¬ (clx.length : Int) ≤ (a : Int) + (p.1 : Int) := by omega
          have HPD2 := hide (unhide HPD hg0)
          obtain ⟨gC, cC', hv, n1, n2, ⟨x, y, v1, v2⟩, fz1, fz2, hput⟩ := (unhide HI3).rows.put (k := a + p.1) (by omega)
          obtain ⟨rfl, rfl⟩ : aC = some ⟨gC, 0, none⟩ ∧ cC = cC' := by simpa using hv
          have n3 : gC ≠ gl := n2 s gl hs (by rw [unhide HRS]; rfl)
          have HPU := hide (hput s p.2)
          obtain ⟨kk, hkk⟩ : ∃ kk : Nat, kk = a + p.1 := ⟨_, rfl⟩
          rw [← hkk] at v1 v2 fz1 fz2 HPU HPD2
          have eI : (a : Int) + (p.1 : Int) = (kk : Int) := by omega
          have r4 : IntKind.i64.wrap (kk : Int) = (kk : Int) := wrap_small _ (by omega) (by omega)
          have r3 : IntKind.i64.wrap ((a : Int) + (p.1 : Int)) = (kk : Int) := by rw [eI]; exact r4
          have k2 : (kk : Int) < (clx.length : Int) := by omega
          have k3 : (0 : Int) ≤ (kk : Int) := by omega
          have HKK := hide hkk
          have v3 : ∀ q u, ((wd.drewN q).setCell ⟨gC, kk * 2, none⟩ u).cell? ⟨gC, kk * 2 + 1, none⟩ = some (.int .i64 y) := fun q u => (set_far (by omega)).trans v2
          have fz3 : ∀ q u, ((wd.drewN q).setCell ⟨gC, kk * 2, none⟩ u).frozen? ⟨gC, kk * 2 + 1, none⟩ = false := fun q u => by rw [World.frozen?_setCell]; exact fz2
          clear HNX HPD hput hv n2 hkk r1
          go_wp2_with fail
          go_region_held3 (fun w' => w'.cell? ⟨rb, 2, none⟩ = some (.slice (some ⟨gC, 0, none⟩) clx.length cC) ∧ w'.cell? ⟨gl, jj, none⟩ = some (.int .i64 p.1) ∧ w'.cell? ⟨gl, jj + 1, none⟩ = some (.int .i64 p.2)) (first | go_keep | (refine ⟨?_, ?_, ?_⟩ <;> rw [set_far (by omega), set_far (by omega)] <;> simp [*])) (fail)
          have HI5 : Hid (LInv w (((wd.setCell ⟨gC, kk * 2, none⟩ (.int .i64 s)).setCell ⟨gC, kk * 2 + 1, none⟩ (.int .i64 p.2)).drew) rb (.slice (some ⟨gO, 0, none⟩) n cO) (.slice (some ⟨gF, 0, none⟩) n cF) vC rs L n off1 (.slice (some ⟨gC, 0, none⟩) clx.length cC) (lay cl s ((L s).take (j + 1)) a)) := hide (by
            rw [unhide HLT, layOne, ← unhide HKK, ← unhide HPD2]
            exact ((unhide HI3).step (unhide HPU).1 (unhide HPU).2 (Or.inl rfl)).drewN 1)
          have HJ2 : Hid (jj + 2 = 2 * (j + 1)) := hide (by have := unhide HJJ; omega)
          go_wp2_with fail
          go_roundw
          case rel => exact ⟨j + 1, jj + 2, _, by go_num, HJ2, hlt, HI5⟩
          case measure => simp [intOf]; omega
    · obtain rfl : j = (L s).length := by omega
      have j1 : ¬ (jj : Int) < 2 * ((L s).length : Int) := by have := unhide HJJ; omega
      have HI3 : Hid (LInv w wr rb (.slice (some ⟨gO, 0, none⟩) n cO) (.slice (some ⟨gF, 0, none⟩) n cF) vC rs L n off1 vC1 (lay cl s (L s) a)) := hide (by
        have := unhide HI
        rw [List.take_length] at this
        exact this)
      go_wp2
      go_end0
      exact ⟨rfl, vC1, by rw [← unhide HOF]; exact (unhide HI3).rows, (unhide HI3).mod, (unhide HI3).own⟩
end Go.Proofs.YtibkhphbilfckaaGreatDoor
