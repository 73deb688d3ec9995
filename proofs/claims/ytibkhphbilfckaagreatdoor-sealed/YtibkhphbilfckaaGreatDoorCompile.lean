import Derived.Test.YtibkhphbilfckaaGreatDoorCheck
import Derived.Test.YtibkhphbilfckaaGreatDoorPkN
namespace Go.Proofs.YtibkhphbilfckaaGreatDoor
open Go.RowKit Scour

theorem chkFrom_ok : ∀ (r : List Str) (i t : Nat), (chkFrom r i t).1 = 0 → (∀ p ∈ r, 0 < p.length ∧ p.length ≤ 64) ∧ (chkFrom r i t).2 = 0
  | [], i, t, h => by
    unfold chkFrom at h ⊢
    split at h
    · cases h
    · rename_i h'; rw [if_neg h']; exact ⟨fun p hp => absurd hp List.not_mem_nil, rfl⟩
  | p :: r, i, t, h => by
    unfold chkFrom at h ⊢
    split at h
    · cases h
    · rename_i h0
      split at h
      · cases h
      · rename_i h1
        rw [if_neg h0, if_neg h1]
        obtain ⟨a, b⟩ := chkFrom_ok r (i + 1) (t + p.length) h
        refine ⟨fun q hq => ?_, b⟩
        rcases List.mem_cons.1 hq with rfl | hq
        · omega
        · exact a q hq

theorem chk_ok {ps : List Str} (h : (chk ps).1 = 0) : ps.length ≤ 64 ∧ (∀ i, i < ps.length → 0 < (pat ps i).length ∧ (pat ps i).length ≤ 64) ∧ chk ps = (0, 0) := by
  unfold chk at h ⊢
  split at h
  · cases h
  · rename_i h'
    rw [if_neg h']
    obtain ⟨a, b⟩ := chkFrom_ok ps 0 0 h
    refine ⟨by omega, fun i hi => a _ (by simp [pat, List.getD, hi]), ?_⟩
    exact Prod.ext h b

/-- A machine in memory: its block, its trie's, and the others (g): those of the trie's states and of the packed table. -/
structure Mach (w : World) (bm bt be : Nat) (g : List Nat) (ps S : List Str) : Prop where
  tr : ∃ g0, g0 ∈ g ∧ TrieM w bt be g0 ps S
  tb : ∃ bp vC vO vX, w.heap[bm]? = some (.cells #[.pointer (some ⟨bt, 0, none⟩), .pointer (some ⟨bp, 0, none⟩)] 63 (0, 0)) ∧ Tab w bp vC vO vX (clsL ps) S.length (packed (excL S (clsL ps)) S.length).o (packed (excL S (clsL ps)) S.length).cl ∧ bp ∈ g ∧ (∀ b, vC.ownBlock = some b → b ∈ g) ∧ (∀ b, vO.ownBlock = some b → b ∈ g) ∧ (∀ b, vX.ownBlock = some b → b ∈ g)
  gl : ∀ k, k ∈ g → k < w.heap.size

theorem Mach.c0 {w : World} {bm bt be : Nat} {g : List Nat} {ps S : List Str} (h : Mach w bm bt be g ps S) : w.cell? ⟨bm, 0, none⟩ = some (.pointer (some ⟨bt, 0, none⟩)) := by
  obtain ⟨bp, vC, vO, vX, hb, _⟩ := h.tb
  rw [cell_of_blk hb]; rfl
theorem Mach.ex {w : World} {bm bt be : Nat} {g : List Nat} {ps S : List Str} (h : Mach w bm bt be g ps S) : ∃ g0 cap par lst E, Trie w 0 bt be ps.length g0 cap S par lst (fun k => (failN S k : Nat)) E ∧ StatesOf ps S E ∧ g0 < w.heap.size := by
  obtain ⟨g0, _, h0⟩ := h.tr
  obtain ⟨cap, par, lst, E, hT, hS⟩ := h0.ex
  exact ⟨g0, cap, par, lst, E, hT, hS, h0.lts.2.2⟩

theorem Mach.same {w w' : World} {bm bt be : Nat} {g : List Nat} {ps S : List Str} (h : Mach w bm bt be g ps S) (hs : w.heap.size ≤ w'.heap.size) (hb : ∀ k, k = bm ∨ k = bt ∨ k = be ∨ k ∈ g → w'.heap[k]? = w.heap[k]?) : Mach w' bm bt be g ps S := by
  obtain ⟨g0, hg0, h0⟩ := h.tr
  obtain ⟨bp, vC, vO, vX, h1, h2, h3, h4, h5, h6⟩ := h.tb
  refine ⟨⟨g0, hg0, h0.same hs (fun k hk => hb k ?_)⟩, ⟨bp, vC, vO, vX, (hb bm (Or.inl rfl)).trans h1, h2.same (fun k _ hk => hb k (Or.inr (Or.inr (Or.inr ?_)))), h3, h4, h5, h6⟩, fun k hk => Nat.lt_of_lt_of_le (h.gl k hk) hs⟩
  · rcases hk with e | e | e
    · exact Or.inr (Or.inl e)
    · exact Or.inr (Or.inr (Or.inl e))
    · exact Or.inr (Or.inr (Or.inr (e ▸ hg0)))
  · rcases hk with e | e | e | e
    · exact e ▸ h3
    · exact h4 k e
    · exact h5 k e
    · exact h6 k e

theorem Mach.lts {w : World} {bm bt be : Nat} {g : List Nat} {ps S : List Str} (h : Mach w bm bt be g ps S) : bm < w.heap.size ∧ bt < w.heap.size ∧ be < w.heap.size ∧ ∀ k, k ∈ g → k < w.heap.size := by
  obtain ⟨g0, hg0, h0⟩ := h.tr
  obtain ⟨bp, vC, vO, vX, h1, _⟩ := h.tb
  exact ⟨(Array.getElem?_eq_some_iff.1 h1).1, h0.lts.1, h0.lts.2.1, h.gl⟩

theorem Mach.below {w w' : World} {bm bt be : Nat} {g : List Nat} {ps S : List Str} (h : Mach w bm bt be g ps S) (hb : Below w.heap.size w w') : Mach w' bm bt be g ps S := by
  obtain ⟨l1, l2, l3, l4⟩ := h.lts
  exact h.same hb.size (fun k hk => hb.block k (by rcases hk with e | e | e | e; omega; omega; omega; exact l4 k e))

/-- The blocks of a table. -/
def tabB (bp : Nat) (vC vO vX : Value) : List Nat := [bp] ++ vC.ownBlock.toList ++ vO.ownBlock.toList ++ vX.ownBlock.toList

set_option maxHeartbeats 2000000 in
theorem compile_ok (ap : Option Addr) (cp : Nat) (ps : List Str) (w : World) (hP : PatsIn w w.heap.size ap ps) (hc : (chk ps).1 = 0) :
    Calls Tryz.prog 21 #[.slice ap ps.length cp] w fun e w' => ∃ (bm bt be : Nat) (g : List Nat) (S : List Str), e = .returned (.tuple #[.pointer (some ⟨bm, 0, none⟩), .int .i64 0, .int .i64 0]) ∧ Mach w' bm bt be g ps S ∧ (w.heap.size ≤ bm ∧ w.heap.size ≤ bt ∧ w.heap.size ≤ be ∧ ∀ k, k ∈ g → w.heap.size ≤ k) ∧ Below w.heap.size w w' := by
  obtain ⟨h64, hlen, hch⟩ := chk_ok hc
  have hck := check_any ap cp w.heap.size ps w hP (by omega) (fun i hi => by have := hlen i hi; omega)
  rw [hch] at hck
  have HK := hide hck
  have HN := hide (new_any ap cp ps w hP (fun i hi => (hlen i hi).1) h64 (fun i hi => (hlen i hi).2))
  clear hP hc hlen hch hck
  go_enter Tryz.func21, Tryz.ntmps21
  go_wp2_with (go_at_call 34; refine (unhide HK).mono ?_; rintro e w' ⟨rfl, hw'⟩; obtain rfl := hw'.symm)
  refine (unhide HN).mono ?_
  rintro e w2 ⟨bt, be, g0, cap, par, lst, E, S, rfl, hT, hS, hlt, hbtw, hbl⟩
  have HGE : Hid (w.heap.size ≤ be ∧ w.heap.size ≤ g0) := hide ⟨owns_base hT.ends, (owns_lt hT.row hT.rep.pos).1⟩
  have HTM : Hid (TrieM w2 bt be g0 ps S) := hide ⟨⟨cap, par, lst, E, hT.zero, hS⟩, by omega⟩
  have HB := hide hbl
  have HPN := hide (pnew_any bt be g0 ps S w2 (unhide HTM))
  clear hT hS hbl
  go_wp2_with fail
  refine (unhide HPN).mono ?_
  rintro e w3 ⟨bp, vC, vO, vX, rfl, HTN⟩
  go_wp2_with fail
  go_ret3
  have hbl := unhide HB
  have hsz := hbl.size
  have hb3 := (unhide HTN).below
  have hs3 := hb3.size
  have h5 : Below w3.heap.size w3 (w3.alloc (.cells #[.pointer (some ⟨bt, 0, none⟩), .pointer (some ⟨bp, 0, none⟩)] 63)) := (Below.refl _ _).alloc (Nat.le_refl _) _
  have ht3 := (unhide HTM).below hb3
  have ht4 := ht3.below h5
  have hT4 := (unhide HTN).tab.below h5
  have hge := unhide HGE
  have hmem : ∀ k, k ∈ g0 :: tabB bp vC vO vX → k = g0 ∨ k = bp ∨ vC.ownBlock = some k ∨ vO.ownBlock = some k ∨ vX.ownBlock = some k := by
    intro k hk
    simp only [tabB, List.mem_cons, List.mem_append, List.not_mem_nil, or_false, Option.mem_toList] at hk
    rcases hk with e | ((e | e) | e) | e
    · exact Or.inl e
    · exact Or.inr (Or.inl e)
    · exact Or.inr (Or.inr (Or.inl e))
    · exact Or.inr (Or.inr (Or.inr (Or.inl e)))
    · exact Or.inr (Or.inr (Or.inr (Or.inr e)))
  have hin : ∀ k, k = bp ∨ vC.ownBlock = some k ∨ vO.ownBlock = some k ∨ vX.ownBlock = some k → k ∈ g0 :: tabB bp vC vO vX := by
    intro k hk
    simp only [tabB, List.mem_cons, List.mem_append, List.not_mem_nil, or_false, Option.mem_toList]
    rcases hk with e | e | e | e
    · exact Or.inr (Or.inl (Or.inl (Or.inl e)))
    · exact Or.inr (Or.inl (Or.inl (Or.inr e)))
    · exact Or.inr (Or.inl (Or.inr e))
    · exact Or.inr (Or.inr e)
  have hrow : ∀ {v : Value} {e s n : Nat} {xs : List Value}, w3.ownsRow 0 e s v n xs → ∀ b, v.ownBlock = some b → b < w3.heap.size := by
    intro v e s n xs ho b hb
    obtain ⟨cu, hcu⟩ := owns_block ho hb
    exact (Array.getElem?_eq_some_iff.1 hcu).1
  have hm : Mach (w3.alloc (.cells #[.pointer (some ⟨bt, 0, none⟩), .pointer (some ⟨bp, 0, none⟩)] 63)) w3.heap.size bt be (g0 :: tabB bp vC vO vX) ps S := by
    refine ⟨⟨g0, by simp, ht4⟩, ⟨bp, vC, vO, vX, heap_alloc_new w3 _, hT4, hin bp (Or.inl rfl), fun b hb => hin b (Or.inr (Or.inl hb)), fun b hb => hin b (Or.inr (Or.inr (Or.inl hb))), fun b hb => hin b (Or.inr (Or.inr (Or.inr hb)))⟩, fun k hk => ?_⟩
    have hk3 : k < w3.heap.size := by
      rcases hmem k hk with e | e | e | e | e
      · rw [e]; exact ht3.lts.2.2
      · rw [e]; exact (Array.getElem?_eq_some_iff.1 (unhide HTN).tab.blk).1
      · exact hrow (unhide HTN).tab.cls k e
      · exact hrow (unhide HTN).tab.off k e
      · exact hrow (unhide HTN).tab.cel k e
    exact Nat.lt_of_lt_of_le hk3 h5.size
  refine ⟨w3.heap.size, bt, be, _, S, rfl, hm, ⟨by omega, by omega, by omega, fun k hk => ?_⟩, (hbl.trans (hb3.mono hsz)).trans (h5.mono (by omega))⟩
  rcases hmem k hk with e | e | e | e | e
  · rw [e]; exact hge.2
  · rw [e]; exact Nat.le_trans hsz (unhide HTN).ge
  · exact Nat.le_trans hsz ((unhide HTN).geC k e)
  · exact Nat.le_trans hsz ((unhide HTN).geO k e)
  · exact Nat.le_trans hsz ((unhide HTN).geX k e)
end Go.Proofs.YtibkhphbilfckaaGreatDoor

namespace Go.Proofs.YtibkhphbilfckaaGreatDoor
open Go.RowKit Scour

set_option maxHeartbeats 1000000 in
theorem states_any (bm bt be : Nat) (g : List Nat) (ps S : List Str) (w : World) (hM : Mach w bm bt be g ps S) :
    Calls Tryz.prog 13 #[.pointer (some ⟨bm, 0, none⟩)] w fun e w' => e = .returned (.int .i64 S.length) ∧ w' = w := by
  obtain ⟨g0, cap, par, lst, E, hT, hS, hg0⟩ := hM.ex
  have c0 : w.cell? ⟨bm, 0, none⟩ = some (.pointer (some ⟨bt, 0, none⟩)) := hM.c0
  have c1 : w.cell? ⟨bt, 0, none⟩ = some (.slice (some ⟨g0, 0, none⟩) S.length cap) := by rw [cell_of_blk hT.blk]; rfl
  clear hT hS hM
  go_enter Tryz.func13, Tryz.ntmps13
  go_wp2
  go_ret
  exact ⟨rfl, rfl⟩

set_option maxHeartbeats 1000000 in
theorem mnext_low (b : Int) (bmp : Value) (n : Int) (w : World) (hn : n < 0) :
    Calls Tryz.prog 61 #[bmp, .int .i64 n, .int .u8 b] w fun e w' => e = .returned (.tuple #[.int .i64 0, .int .i64 1]) ∧ w' = w := by
  go_enter Tryz.func61, Tryz.ntmps61
  go_wp2
  go_ret2
  exact ⟨rfl, rfl⟩

set_option maxHeartbeats 1000000 in
theorem mnext_high (bm bt be : Nat) (g : List Nat) (ps S : List Str) (w : World) (hM : Mach w bm bt be g ps S) (n b : Int) (hn : (S.length : Int) ≤ n) :
    Calls Tryz.prog 61 #[.pointer (some ⟨bm, 0, none⟩), .int .i64 n, .int .u8 b] w fun e w' => e = .returned (.tuple #[.int .i64 0, .int .i64 1]) ∧ w' = w := by
  obtain ⟨g0, cap, par, lst, E, hT, hS, hg0⟩ := hM.ex
  have c0 : w.cell? ⟨bm, 0, none⟩ = some (.pointer (some ⟨bt, 0, none⟩)) := hM.c0
  have c1 : w.cell? ⟨bt, 0, none⟩ = some (.slice (some ⟨g0, 0, none⟩) S.length cap) := by rw [cell_of_blk hT.blk]; rfl
  have h0 : 0 ≤ n := by omega
  clear hT hS hM
  go_enter Tryz.func61, Tryz.ntmps61
  go_wp2
  go_ret2
  exact ⟨rfl, rfl⟩

set_option maxHeartbeats 1000000 in
theorem mnext_in (bm bt be : Nat) (g : List Nat) (ps S : List Str) (w : World) (hM : Mach w bm bt be g ps S) (n : Nat) (b : UInt8) (hn : n < S.length) :
    Calls Tryz.prog 61 #[.pointer (some ⟨bm, 0, none⟩), .int .i64 n, .int .u8 b.toNat] w fun e w' => e = .returned (.tuple #[.int .i64 (nextN S n b), .int .i64 0]) ∧ Below w.heap.size w w' := by
  have hl := hM.lts
  obtain ⟨g0, cap, par, lst, E, hT, hS, hg0⟩ := hM.ex
  have hsl := hS.len
  have c0 : w.cell? ⟨bm, 0, none⟩ = some (.pointer (some ⟨bt, 0, none⟩)) := hM.c0
  have c1 : w.cell? ⟨bt, 0, none⟩ = some (.slice (some ⟨g0, 0, none⟩) S.length cap) := by rw [cell_of_blk hT.blk]; rfl
  have HC := hide (next_any bt g0 cap S par lst (fun k => (failN S k : Nat)) n b w hT.rep hn (by omega) (by omega) (by omega) (owns_lt hT.row hT.rep.pos).2.2 c1 (sts_of_owns hT.row) (fun k _ => rfl))
  clear hT hS hM
  have i1 : ¬ (S.length : Int) ≤ (n : Int) := by omega
  go_enter Tryz.func61, Tryz.ntmps61
  go_wp2_with (first | (go_at_call 94; refine (unhide HC).mono ?_; rintro e w' ⟨rfl, hbw⟩) | go_in)
  go_ret2
  exact ⟨rfl, hbw⟩
end Go.Proofs.YtibkhphbilfckaaGreatDoor

namespace Go.Proofs.YtibkhphbilfckaaGreatDoor
open Go.RowKit Scour

/-- The lists of bytes that come out, as far as they are made. -/
def outsF (gs cs : Nat → Nat) (ps : List Str) (k : Nat) : List Value := (List.range ps.length).map fun i => if i < k then .slice (some ⟨gs i, 0, none⟩) (pat ps i).length (cs i) else .slice none 0 0

theorem outsF_length (gs cs : Nat → Nat) (ps : List Str) (k : Nat) : (outsF gs cs ps k).length = ps.length := by simp [outsF]
theorem outsF_get (gs cs : Nat → Nat) (ps : List Str) (k i : Nat) (h : i < ps.length) : (outsF gs cs ps k)[i]? = some (if i < k then .slice (some ⟨gs i, 0, none⟩) (pat ps i).length (cs i) else .slice none 0 0) := by simp [outsF, h]

/-- A function on numbers, but at one place. -/
def updN (f : Nat → Nat) (i x : Nat) : Nat → Nat := fun k => if k = i then x else f k

theorem outsF_set (gs cs : Nat → Nat) (ps : List Str) (k gb cb : Nat) : (outsF gs cs ps k).set k (.slice (some ⟨gb, 0, none⟩) (pat ps k).length cb) = outsF (updN gs k gb) (updN cs k cb) ps (k + 1) := by
  apply List.ext_getElem?
  intro i
  rw [List.getElem?_set]
  by_cases hi : i < ps.length
  · rw [outsF_get _ _ _ _ _ hi, outsF_get _ _ _ _ _ hi, outsF_length]
    by_cases e : k = i
    · subst e; simp [updN, hi]
    · rw [if_neg e]
      have h1 : updN gs k gb i = gs i := if_neg (fun h => e h.symm)
      have h2 : updN cs k cb i = cs i := if_neg (fun h => e h.symm)
      rw [h1, h2]
      by_cases g : i < k
      · rw [if_pos g, if_pos (by omega)]
      · rw [if_neg g, if_neg (by omega)]
  · rw [List.getElem?_eq_none (by rw [outsF_length]; omega), List.getElem?_eq_none (by rw [outsF_length]; omega)]
    split
    · split
      · rename_i h1 h2; rw [outsF_length] at h2; omega
      · rfl
    · rfl

/-- Lists of bytes that have come out: the list's block, and each one's own. -/
structure Outs (w : World) (base b0 : Nat) (gs cs : Nat → Nat) (ps : List Str) (k : Nat) : Prop where
  row : w.ownsRow base 27 1 (.slice (some ⟨b0, 0, none⟩) ps.length ps.length) ps.length (outsF gs cs ps k)
  each : ∀ i, i < k → w.ownsRow base 5 1 (.slice (some ⟨gs i, 0, none⟩) (pat ps i).length (cs i)) (pat ps i).length ((pat ps i).map encB)
  apart : ∀ i j, i < k → j < k → gs i = gs j → i = j
  ne : ∀ i, i < k → gs i ≠ b0
  lts : ∀ i, i < k → gs i < w.heap.size

theorem owns_lower {w : World} {base base' e s n : Nat} {v : Value} {xs : List Value} (h : w.ownsRow base e s v n xs) (hb : base' ≤ base) : w.ownsRow base' e s v n xs := by
  refine ⟨h.1, ?_⟩
  rcases h.2 with k | ⟨g, cap, cur, h1, h2, h3⟩
  · exact Or.inl k
  · exact Or.inr ⟨g, cap, cur, h1, Nat.le_trans hb h2, h3⟩

theorem Outs.step {w w2 : World} {base b0 k gb cb : Nat} {gs cs : Nat → Nat} {ps : List Str} (h : Outs w base b0 gs cs ps k) (hk : k < ps.length) (hbase : base ≤ w.heap.size) (hb : Below w.heap.size w w2)
    (ho : w2.ownsRow w.heap.size 5 1 (.slice (some ⟨gb, 0, none⟩) (pat ps k).length cb) (pat ps k).length ((pat ps k).map encB)) :
    Outs (w2.setCell ⟨b0, k, none⟩ (.slice (some ⟨gb, 0, none⟩) (pat ps k).length cb)) base b0 (updN gs k gb) (updN cs k cb) ps (k + 1) := by
  have hgb := owns_base ho
  obtain ⟨cur, hcur⟩ := owns_blk ho
  have hgl := (Array.getElem?_eq_some_iff.1 hcur).1
  obtain ⟨cur0, hcur0⟩ := owns_blk h.row
  have hb0 := (Array.getElem?_eq_some_iff.1 hcur0).1
  have hrow := ((h.row.kept (grown_of_below hb none) (by simp [Value.ownBlock])).stored k (.slice (some ⟨gb, 0, none⟩) (pat ps k).length cb)).1
  rw [outsF_set] at hrow
  have hsame : ∀ j, j ≠ b0 → (w2.setCell ⟨b0, k, none⟩ (.slice (some ⟨gb, 0, none⟩) (pat ps k).length cb)).heap[j]? = w2.heap[j]? := fun j hj => Below.heap_setCell w2 _ _ j hj
  refine ⟨hrow, ?_, ?_, ?_, ?_⟩
  · intro i hi
    unfold updN
    by_cases e : i = k
    · subst e
      rw [if_pos rfl, if_pos rfl]
      exact owns_same (owns_lower ho hbase) (hsame gb (by omega))
    · rw [if_neg e, if_neg e]
      have hi' : i < k := by omega
      exact owns_same ((h.each i hi').kept (grown_of_below hb none) (by simp [Value.ownBlock])) (hsame _ (h.ne i hi'))
  · intro i j hi hj e
    unfold updN at e
    by_cases ei : i = k <;> by_cases ej : j = k
    · omega
    · rw [if_pos ei, if_neg ej] at e; have := h.lts j (by omega); omega
    · rw [if_neg ei, if_pos ej] at e; have := h.lts i (by omega); omega
    · rw [if_neg ei, if_neg ej] at e; exact h.apart i j (by omega) (by omega) e
  · intro i hi
    unfold updN
    by_cases e : i = k
    · rw [if_pos e]; omega
    · rw [if_neg e]; exact h.ne i (by omega)
  · intro i hi
    unfold updN
    have hs : (w2.setCell ⟨b0, k, none⟩ (.slice (some ⟨gb, 0, none⟩) (pat ps k).length cb)).heap.size = w2.heap.size := by simp [World.setCell]
    rw [hs]
    by_cases e : i = k
    · rw [if_pos e]; exact hgl
    · rw [if_neg e]; have := h.lts i (by omega); have := hb.size; omega

theorem Tryz.infoL : (Tryz.prog.info? 27).map (fun i => (i.zero, i.size, i.bytes)) = some (some (.slice none 0 0), 1, 24) := by kernel_rfl

theorem made_outs (gs cs : Nat → Nat) (ps : List Str) : (madeCells (Value.slice none 0 0).cells (ps.length * 1)).toList = outsF gs cs ps 0 := by
  rw [Nat.mul_one]
  refine (toList_madeCells_one _ _).trans ?_
  apply List.ext_getElem?
  intro i
  by_cases hi : i < ps.length
  · rw [outsF_get _ _ _ _ _ hi]; simp [hi]
  · rw [List.getElem?_eq_none (by simp; omega), List.getElem?_eq_none (by rw [outsF_length]; omega)]

set_option maxHeartbeats 2000000 in
theorem tpatterns_any (bm bt be : Nat) (g : List Nat) (ps S : List Str) (w : World) (hM : Mach w bm bt be g ps S) (hps : ps.length ≤ 64) (hpl : ∀ i, i < ps.length → 0 < (pat ps i).length ∧ (pat ps i).length ≤ 64) :
    Calls Tryz.prog 27 #[.pointer (some ⟨bt, 0, none⟩)] w fun e w' => ∃ b0 gs cs, e = .returned (.slice (some ⟨b0, 0, none⟩) ps.length ps.length) ∧ Outs w' w.heap.size b0 gs cs ps ps.length ∧ Below w.heap.size w w' := by
  obtain ⟨i0, hi, hz0, hz1, hz2⟩ := info_parts Tryz.infoL
  have hlts := hM.lts
  obtain ⟨g0, cap, par, lst, E, hT, hS, hg0⟩ := hM.ex
  have c0 : w.cell? ⟨bt, 0, none⟩ = some (.slice (some ⟨g0, 0, none⟩) S.length cap) := by rw [cell_of_blk hT.blk]; rfl
  have c1 : w.cell? ⟨bt, 1, none⟩ = some (.slice (some ⟨be, 0, none⟩) ps.length ps.length) := by rw [cell_of_blk hT.blk]; rfl
  have HT := hide hT
  have HSO := hide hS
  have HPL := hide hpl
  have HC0 := hide c0
  clear hM hT hS hpl c0
  have HMK : Hid (∀ w1, (w.grownBy w1 none) → w1.cell? ⟨bt, 1, none⟩ = some (.slice (some ⟨be, 0, none⟩) ps.length ps.length)) := hide (fun w1 hg => by rw [← c1]; exact World.cell?_of_block (a := ⟨bt, 1, none⟩) (hg.block bt hlts.2.1 (by simp)))
  go_enter Tryz.func27, Tryz.ntmps27
  go_wp2_with (first | (at_make; refine wpList_make_full _ rfl (.tmp 10) (.tmp 10) 30 rfl w.heap.size 27 i0 (.slice none 0 0) 1 Tryz.underlying30 hi hz0 hz1 .i64 .i64 ps.length ps.length ps.length rfl rfl rfl rfl (by rw [hz2]; omega) (by unfold maxLen; omega) (by simp) ?_; intro w1 hown hgrow; have c2 := unhide HMK w1 hgrow; have HOW := hide hown; have HGW := hide hgrow; clear hown hgrow))
  go_loopw [17] (fun v wr => ∃ (k : Nat) (gs cs : Nat → Nat), v = .int .i64 k ∧ k ≤ ps.length ∧ Hid (Outs wr w.heap.size w.heap.size gs cs ps k) ∧ Hid (Below w.heap.size w wr)) (fun v _ => ps.length - (intOf v).toNat)
  case atStart =>
    refine ⟨0, fun _ => 0, fun _ => 0, rfl, Nat.zero_le _, hide ⟨?_, fun i h => absurd h (Nat.not_lt_zero _), fun i j h => absurd h (Nat.not_lt_zero _), fun i h => absurd h (Nat.not_lt_zero _), fun i h => absurd h (Nat.not_lt_zero _)⟩, hide (below_of_grown (unhide HGW) (Nat.le_refl _) (fun k h => by cases h))⟩
    have := unhide HOW
    rw [made_outs (fun _ => 0) (fun _ => 0)] at this
    exact this
  case round =>
    obtain ⟨k, gs, cs, rfl, hk, HO, HB⟩ := hrel
    have hsz := (unhide HB).size
    by_cases hlt : k < ps.length
    · obtain ⟨p, hp, hEp, hatp⟩ := (unhide HSO).ends k hlt
      have hple := unhide HPL k hlt
      have hR := (unhide HT).rep
      have hp0 : 0 < p := by
        rcases Nat.eq_zero_or_pos p with e | e
        · subst e; rw [hR.head] at hatp; rw [← hatp] at hple; simp at hple
        · exact e
      have ce : wr.cell? ⟨be, k, none⟩ = some (.int .i64 p) := by
        rw [(unhide HB).cell (p := ⟨be, k, none⟩) hlts.2.2.1, (unhide HT).ends.cellAt k (by omega), intsF_get _ _ _ hlt, hEp]
      have hsp := spell_any bt g0 cap S par lst (fun k => (failN S k : Nat)) p wr hR hp hp0 (by omega) (by omega) (by rw [hatp]; omega) (((unhide HB).cell (p := ⟨bt, 0, none⟩) hlts.2.1).trans (unhide HC0)) ((sts_of_owns (unhide HT).row).below (unhide HB) hg0)
      rw [hatp] at hsp
      have HSP := hide hsp
      have i1 : (k : Int) < (ps.length : Int) := by omega
      obtain ⟨cur0, hcur0⟩ := owns_blk (unhide HO).row
      have hb0 := (Array.getElem?_eq_some_iff.1 hcur0).1
      have HST : Hid (∀ w2 gb cb, Below wr.heap.size wr w2 → w2.ownsRow wr.heap.size 5 1 (.slice (some ⟨gb, 0, none⟩) (pat ps k).length cb) (pat ps k).length ((pat ps k).map encB) → w2.cell? ⟨w.heap.size, k, none⟩ = some (.slice none 0 0) ∧ w2.frozen? ⟨w.heap.size, k, none⟩ = false ∧ Outs (w2.setCell ⟨w.heap.size, k, none⟩ (.slice (some ⟨gb, 0, none⟩) (pat ps k).length cb)) w.heap.size w.heap.size (updN gs k gb) (updN cs k cb) ps (k + 1) ∧ Below w.heap.size w (w2.setCell ⟨w.heap.size, k, none⟩ (.slice (some ⟨gb, 0, none⟩) (pat ps k).length cb))) := hide (by
        intro w2 gb cb hb2 ho2
        have hr2 := (unhide HO).row.kept (grown_of_below hb2 none) (by simp [Value.ownBlock])
        refine ⟨?_, hr2.frozenAt k, (unhide HO).step hlt hsz hb2 ho2, ((unhide HB).trans (hb2.mono hsz)).setCell (Nat.le_refl _) _⟩
        rw [hr2.cellAt k (by omega), outsF_get _ _ _ _ _ hlt, if_neg (by omega)])
      clear hsp hatp hEp hR hcur0
      go_wp2_with (go_at_call 50; refine (unhide HSP).mono ?_; rintro e w2 ⟨gb, cb, rfl, ho2, hb2⟩; obtain ⟨f1, f2, f3, f4⟩ := unhide HST w2 gb cb hb2 ho2; have HF3 := hide f3; have HF4 := hide f4; clear ho2 hb2 f3 f4)
      go_roundw
      case rel => exact ⟨k + 1, updN gs k gb, updN cs k cb, by go_num, hlt, HF3, HF4⟩
      case measure => simp [intOf]; omega
    · obtain rfl : k = ps.length := by omega
      go_wp2
      go_ret
      exact ⟨w.heap.size, gs, cs, rfl, unhide HO, unhide HB⟩

set_option maxHeartbeats 1000000 in
theorem patterns_any (bm bt be : Nat) (g : List Nat) (ps S : List Str) (w : World) (hM : Mach w bm bt be g ps S) (hps : ps.length ≤ 64) (hpl : ∀ i, i < ps.length → 0 < (pat ps i).length ∧ (pat ps i).length ≤ 64) :
    Calls Tryz.prog 14 #[.pointer (some ⟨bm, 0, none⟩)] w fun e w' => ∃ b0 gs cs, e = .returned (.slice (some ⟨b0, 0, none⟩) ps.length ps.length) ∧ Outs w' w.heap.size b0 gs cs ps ps.length ∧ Below w.heap.size w w' := by
  have c0 : w.cell? ⟨bm, 0, none⟩ = some (.pointer (some ⟨bt, 0, none⟩)) := hM.c0
  have HC := hide (tpatterns_any bm bt be g ps S w hM hps hpl)
  clear hM hpl
  go_enter Tryz.func14, Tryz.ntmps14
  go_wp2_with (go_at_call 27; refine (unhide HC).mono ?_; rintro e w' ⟨b0, gs, cs, rfl, ho, hb⟩)
  go_ret
  exact ⟨b0, gs, cs, rfl, ho, hb⟩
end Go.Proofs.YtibkhphbilfckaaGreatDoor
