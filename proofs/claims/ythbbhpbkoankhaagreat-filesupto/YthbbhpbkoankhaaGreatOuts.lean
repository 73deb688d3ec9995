import Derived.Test.YthbbhpbkoankhaaGreatPackDef
import Derived.Test.YthbbhpbkoankhaaGreatCompile
namespace Go.Proofs.YthbbhpbkoankhaaGreat
open Go.RowKit Scour

/-- The lists of bytes that come out, as far as they are made. -/
def outsF (gs cs : Nat → Nat) (ps : List Str) (k : Nat) : List Value := (List.range ps.length).map fun i => if i < k then .slice (some ⟨gs i, 0, none⟩) (pat ps i).length (cs i) else .slice none 0 0

theorem outsF_length (gs cs : Nat → Nat) (ps : List Str) (k : Nat) : (outsF gs cs ps k).length = ps.length := by simp [outsF]
theorem outsF_get (gs cs : Nat → Nat) (ps : List Str) (k i : Nat) (h : i < ps.length) : (outsF gs cs ps k)[i]? = some (if i < k then .slice (some ⟨gs i, 0, none⟩) (pat ps i).length (cs i) else .slice none 0 0) := by simp [outsF, h]

/-- A function on numbers, but at one place. -/
def updN (f : Nat → Nat) (i x : Nat) : Nat → Nat := fun k => if k = i then x else f k

theorem outsF_set (gs cs : Nat → Nat) (ps : List Str) (k gb cb : Nat) : (outsF gs cs ps k).set k (.slice (some ⟨gb, 0, none⟩) (pat ps k).length cb) = outsF (updN gs k gb) (updN cs k cb) ps (k + 1) := by
  apply List.ext_getElem?
  intro i
  rw [List.getElem?_set]
  by_cases hi : i < ps.length
  · rw [outsF_get _ _ _ _ _ hi, outsF_get _ _ _ _ _ hi, outsF_length]
    by_cases e : k = i
    · subst e; simp [updN, hi]
    · rw [if_neg e]
      have h1 : updN gs k gb i = gs i := if_neg (fun h => e h.symm)
      have h2 : updN cs k cb i = cs i := if_neg (fun h => e h.symm)
      rw [h1, h2]
      by_cases g : i < k
      · rw [if_pos g, if_pos (by omega)]
      · rw [if_neg g, if_neg (by omega)]
  · rw [List.getElem?_eq_none (by rw [outsF_length]; omega), List.getElem?_eq_none (by rw [outsF_length]; omega)]
    split
    · split
      · rename_i h1 h2; rw [outsF_length] at h2; omega
      · rfl
    · rfl

/-- Lists of bytes that have come out: the list's block, and each one's own. -/
structure Outs (w : World) (base b0 : Nat) (gs cs : Nat → Nat) (ps : List Str) (k : Nat) : Prop where
  row : w.ownsRow base 57 1 (.slice (some ⟨b0, 0, none⟩) ps.length ps.length) ps.length (outsF gs cs ps k)
  each : ∀ i, i < k → w.ownsRow base 5 1 (.slice (some ⟨gs i, 0, none⟩) (pat ps i).length (cs i)) (pat ps i).length ((pat ps i).map encB)
  apart : ∀ i j, i < k → j < k → gs i = gs j → i = j
  ne : ∀ i, i < k → gs i ≠ b0
  lts : ∀ i, i < k → gs i < w.heap.size

theorem owns_lower {w : World} {base base' e s n : Nat} {v : Value} {xs : List Value} (h : w.ownsRow base e s v n xs) (hb : base' ≤ base) : w.ownsRow base' e s v n xs := by
  refine ⟨h.1, ?_⟩
  rcases h.2 with k | ⟨g, cap, cur, h1, h2, h3⟩
  · exact Or.inl k
  · exact Or.inr ⟨g, cap, cur, h1, Nat.le_trans hb h2, h3⟩

theorem Outs.step {w w2 : World} {base b0 k gb cb : Nat} {gs cs : Nat → Nat} {ps : List Str} (h : Outs w base b0 gs cs ps k) (hk : k < ps.length) (hbase : base ≤ w.heap.size) (hb : Below w.heap.size w w2)
    (ho : w2.ownsRow w.heap.size 5 1 (.slice (some ⟨gb, 0, none⟩) (pat ps k).length cb) (pat ps k).length ((pat ps k).map encB)) :
    Outs (w2.setCell ⟨b0, k, none⟩ (.slice (some ⟨gb, 0, none⟩) (pat ps k).length cb)) base b0 (updN gs k gb) (updN cs k cb) ps (k + 1) := by
  have hgb := owns_base ho
  obtain ⟨cur, hcur⟩ := owns_blk ho
  have hgl := (Array.getElem?_eq_some_iff.1 hcur).1
  obtain ⟨cur0, hcur0⟩ := owns_blk h.row
  have hb0 := (Array.getElem?_eq_some_iff.1 hcur0).1
  have hrow := ((h.row.kept (grown_of_below hb none) (by simp [Value.ownBlock])).stored k (.slice (some ⟨gb, 0, none⟩) (pat ps k).length cb)).1
  rw [outsF_set] at hrow
  have hsame : ∀ j, j ≠ b0 → (w2.setCell ⟨b0, k, none⟩ (.slice (some ⟨gb, 0, none⟩) (pat ps k).length cb)).heap[j]? = w2.heap[j]? := fun j hj => Below.heap_setCell w2 _ _ j hj
  refine ⟨hrow, ?_, ?_, ?_, ?_⟩
  · intro i hi
    unfold updN
    by_cases e : i = k
    · subst e
      rw [if_pos rfl, if_pos rfl]
      exact owns_same (owns_lower ho hbase) (hsame gb (by omega))
    · rw [if_neg e, if_neg e]
      have hi' : i < k := by omega
      exact owns_same ((h.each i hi').kept (grown_of_below hb none) (by simp [Value.ownBlock])) (hsame _ (h.ne i hi'))
  · intro i j hi hj e
    unfold updN at e
    by_cases ei : i = k <;> by_cases ej : j = k
    · omega
    · rw [if_pos ei, if_neg ej] at e; have := h.lts j (by omega); omega
    · rw [if_neg ei, if_pos ej] at e; have := h.lts i (by omega); omega
    · rw [if_neg ei, if_neg ej] at e; exact h.apart i j (by omega) (by omega) e
  · intro i hi
    unfold updN
    by_cases e : i = k
    · rw [if_pos e]; omega
    · rw [if_neg e]; exact h.ne i (by omega)
  · intro i hi
    unfold updN
    have hs : (w2.setCell ⟨b0, k, none⟩ (.slice (some ⟨gb, 0, none⟩) (pat ps k).length cb)).heap.size = w2.heap.size := by simp [World.setCell]
    rw [hs]
    by_cases e : i = k
    · rw [if_pos e]; exact hgl
    · rw [if_neg e]; have := h.lts i (by omega); have := hb.size; omega

theorem Tryz.infoL : (Tryz.prog.info? 57).map (fun i => (i.zero, i.size, i.bytes)) = some (some (.slice none 0 0), 1, 24) := by kernel_rfl

theorem made_outs (gs cs : Nat → Nat) (ps : List Str) : (madeCells (Value.slice none 0 0).cells (ps.length * 1)).toList = outsF gs cs ps 0 := by
  rw [Nat.mul_one]
  refine (toList_madeCells_one _ _).trans ?_
  apply List.ext_getElem?
  intro i
  by_cases hi : i < ps.length
  · rw [outsF_get _ _ _ _ _ hi]; simp [hi]
  · rw [List.getElem?_eq_none (by simp; omega), List.getElem?_eq_none (by rw [outsF_length]; omega)]

set_option maxHeartbeats 2000000 in
theorem tpatterns_any (bm bt be : Nat) (g : List Nat) (ps S : List Str) (w : World) (hM : Mach w bm bt be g ps S) (hps : ps.length ≤ 64) (hpl : ∀ i, i < ps.length → 0 < (pat ps i).length ∧ (pat ps i).length ≤ 64) :
    Calls Tryz.prog 45 #[.pointer (some ⟨bt, 0, none⟩)] w fun e w' => ∃ b0 gs cs, e = .returned (.slice (some ⟨b0, 0, none⟩) ps.length ps.length) ∧ Outs w' w.heap.size b0 gs cs ps ps.length ∧ Below w.heap.size w w' := by
  obtain ⟨i0, hi, hz0, hz1, hz2⟩ := info_parts Tryz.infoL
  have hlts := hM.lts
  obtain ⟨g0, cap, par, lst, E, hT, hS, hg0⟩ := hM.ex
  have c0 : w.cell? ⟨bt, 0, none⟩ = some (.slice (some ⟨g0, 0, none⟩) S.length cap) := by rw [cell_of_blk hT.blk]; rfl
  have c1 : w.cell? ⟨bt, 1, none⟩ = some (.slice (some ⟨be, 0, none⟩) ps.length ps.length) := by rw [cell_of_blk hT.blk]; rfl
  have HT := hide hT
  have HSO := hide hS
  have HPL := hide hpl
  have HC0 := hide c0
  clear hM hT hS hpl c0
  have HMK : Hid (∀ w1, (w.grownBy w1 none) → w1.cell? ⟨bt, 1, none⟩ = some (.slice (some ⟨be, 0, none⟩) ps.length ps.length)) := hide (fun w1 hg => by rw [← c1]; exact World.cell?_of_block (a := ⟨bt, 1, none⟩) (hg.block bt hlts.2.1 (by simp)))
  go_enter Tryz.func45, Tryz.ntmps45
  go_wp2_with (first | (at_make; refine wpList_make_full _ rfl (.tmp 10) (.tmp 10) 30 rfl w.heap.size 57 i0 (.slice none 0 0) 1 Tryz.underlying30 hi hz0 hz1 .i64 .i64 ps.length ps.length ps.length rfl rfl rfl rfl (by rw [hz2]; omega) (by unfold maxLen; omega) (by simp) ?_; intro w1 hown hgrow; have c2 := unhide HMK w1 hgrow; have HOW := hide hown; have HGW := hide hgrow; clear hown hgrow))
  go_loopw [17] (fun v wr => ∃ (k : Nat) (gs cs : Nat → Nat), v = .int .i64 k ∧ k ≤ ps.length ∧ Hid (Outs wr w.heap.size w.heap.size gs cs ps k) ∧ Hid (Below w.heap.size w wr)) (fun v _ => ps.length - (intOf v).toNat)
  case atStart =>
    refine ⟨0, fun _ => 0, fun _ => 0, rfl, Nat.zero_le _, hide ⟨?_, fun i h => absurd h (Nat.not_lt_zero _), fun i j h => absurd h (Nat.not_lt_zero _), fun i h => absurd h (Nat.not_lt_zero _), fun i h => absurd h (Nat.not_lt_zero _)⟩, hide (below_of_grown (unhide HGW) (Nat.le_refl _) (fun k h => by cases h))⟩
    have := unhide HOW
    rw [made_outs (fun _ => 0) (fun _ => 0)] at this
    exact this
  case round =>
    obtain ⟨k, gs, cs, rfl, hk, HO, HB⟩ := hrel
    have hsz := (unhide HB).size
    by_cases hlt : k < ps.length
    · obtain ⟨p, hp, hEp, hatp⟩ := (unhide HSO).ends k hlt
      have hple := unhide HPL k hlt
      have hR := (unhide HT).rep
      have hp0 : 0 < p := by
        rcases Nat.eq_zero_or_pos p with e | e
        · subst e; rw [hR.head] at hatp; rw [← hatp] at hple; simp at hple
        · exact e
      have ce : wr.cell? ⟨be, k, none⟩ = some (.int .i64 p) := by
        rw [(unhide HB).cell (p := ⟨be, k, none⟩) hlts.2.2.1, (unhide HT).ends.cellAt k (by omega), intsF_get _ _ _ hlt, hEp]
      have hsp := spell_any bt g0 cap S par lst (fun k => (failN S k : Nat)) p wr hR hp hp0 (by omega) (by omega) (by rw [hatp]; omega) (((unhide HB).cell (p := ⟨bt, 0, none⟩) hlts.2.1).trans (unhide HC0)) ((sts_of_owns (unhide HT).row).below (unhide HB) hg0)
      rw [hatp] at hsp
      have HSP := hide hsp
      have i1 : (k : Int) < (ps.length : Int) := by omega
      obtain ⟨cur0, hcur0⟩ := owns_blk (unhide HO).row
      have hb0 := (Array.getElem?_eq_some_iff.1 hcur0).1
      have HST : Hid (∀ w2 gb cb, Below wr.heap.size wr w2 → w2.ownsRow wr.heap.size 5 1 (.slice (some ⟨gb, 0, none⟩) (pat ps k).length cb) (pat ps k).length ((pat ps k).map encB) → w2.cell? ⟨w.heap.size, k, none⟩ = some (.slice none 0 0) ∧ w2.frozen? ⟨w.heap.size, k, none⟩ = false ∧ Outs (w2.setCell ⟨w.heap.size, k, none⟩ (.slice (some ⟨gb, 0, none⟩) (pat ps k).length cb)) w.heap.size w.heap.size (updN gs k gb) (updN cs k cb) ps (k + 1) ∧ Below w.heap.size w (w2.setCell ⟨w.heap.size, k, none⟩ (.slice (some ⟨gb, 0, none⟩) (pat ps k).length cb))) := hide (by
        intro w2 gb cb hb2 ho2
        have hr2 := (unhide HO).row.kept (grown_of_below hb2 none) (by simp [Value.ownBlock])
        refine ⟨?_, hr2.frozenAt k, (unhide HO).step hlt hsz hb2 ho2, ((unhide HB).trans (hb2.mono hsz)).setCell (Nat.le_refl _) _⟩
        rw [hr2.cellAt k (by omega), outsF_get _ _ _ _ _ hlt, if_neg (by omega)])
      clear hsp hatp hEp hR hcur0
      go_wp2_with (go_at_call 68; refine (unhide HSP).mono ?_; rintro e w2 ⟨gb, cb, rfl, ho2, hb2⟩; obtain ⟨f1, f2, f3, f4⟩ := unhide HST w2 gb cb hb2 ho2; have HF3 := hide f3; have HF4 := hide f4; clear ho2 hb2 f3 f4)
      go_roundw
      case rel => exact ⟨k + 1, updN gs k gb, updN cs k cb, by go_num, hlt, HF3, HF4⟩
      case measure => simp [intOf]; omega
    · obtain rfl : k = ps.length := by omega
      go_wp2
      go_ret
      exact ⟨w.heap.size, gs, cs, rfl, unhide HO, unhide HB⟩

set_option maxHeartbeats 1000000 in
theorem patterns_any (bm bt be : Nat) (g : List Nat) (ps S : List Str) (w : World) (hM : Mach w bm bt be g ps S) (hps : ps.length ≤ 64) (hpl : ∀ i, i < ps.length → 0 < (pat ps i).length ∧ (pat ps i).length ≤ 64) :
    Calls Tryz.prog 28 #[.pointer (some ⟨bm, 0, none⟩)] w fun e w' => ∃ b0 gs cs, e = .returned (.slice (some ⟨b0, 0, none⟩) ps.length ps.length) ∧ Outs w' w.heap.size b0 gs cs ps ps.length ∧ Below w.heap.size w w' := by
  have c0 : w.cell? ⟨bm, 0, none⟩ = some (.pointer (some ⟨bt, 0, none⟩)) := hM.c0
  have HC := hide (tpatterns_any bm bt be g ps S w hM hps hpl)
  clear hM hpl
  go_enter Tryz.func28, Tryz.ntmps28
  go_wp2_with (go_at_call 45; refine (unhide HC).mono ?_; rintro e w' ⟨b0, gs, cs, rfl, ho, hb⟩)
  go_ret
  exact ⟨b0, gs, cs, rfl, ho, hb⟩
end Go.Proofs.YthbbhpbkoankhaaGreat
