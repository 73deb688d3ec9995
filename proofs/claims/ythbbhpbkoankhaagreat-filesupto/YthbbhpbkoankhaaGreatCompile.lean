import Derived.Test.YthbbhpbkoankhaaGreatCheck
import Derived.Test.YthbbhpbkoankhaaGreatPkP
namespace Go.Proofs.YthbbhpbkoankhaaGreat
open Go.RowKit Scour

theorem chkFrom_ok : ∀ (r : List Str) (i t : Nat), (chkFrom r i t).1 = 0 → (∀ p ∈ r, 0 < p.length ∧ p.length ≤ 64) ∧ (chkFrom r i t).2 = 0
  | [], i, t, h => by
    unfold chkFrom at h ⊢
    split at h
    · cases h
    · rename_i h'; rw [if_neg h']; exact ⟨fun p hp => absurd hp List.not_mem_nil, rfl⟩
  | p :: r, i, t, h => by
    unfold chkFrom at h ⊢
    split at h
    · cases h
    · rename_i h0
      split at h
      · cases h
      · rename_i h1
        rw [if_neg h0, if_neg h1]
        obtain ⟨a, b⟩ := chkFrom_ok r (i + 1) (t + p.length) h
        refine ⟨fun q hq => ?_, b⟩
        rcases List.mem_cons.1 hq with rfl | hq
        · omega
        · exact a q hq

theorem chk_ok {ps : List Str} (h : (chk ps).1 = 0) : ps.length ≤ 64 ∧ (∀ i, i < ps.length → 0 < (pat ps i).length ∧ (pat ps i).length ≤ 64) ∧ chk ps = (0, 0) := by
  unfold chk at h ⊢
  split at h
  · cases h
  · rename_i h'
    rw [if_neg h']
    obtain ⟨a, b⟩ := chkFrom_ok ps 0 0 h
    refine ⟨by omega, fun i hi => a _ (by simp [pat, List.getD, hi]), ?_⟩
    exact Prod.ext h b

/-- A machine in memory: its block, its trie's, and the others (g): those of the trie's states and of the packed table. -/
structure Mach (w : World) (bm bt be : Nat) (g : List Nat) (ps S : List Str) : Prop where
  tr : ∃ g0, g0 ∈ g ∧ TrieM w bt be g0 ps S
  tb : ∃ bp vC vO vX, w.heap[bm]? = some (.cells #[.pointer (some ⟨bt, 0, none⟩), .pointer (some ⟨bp, 0, none⟩)] 100 (0, 0)) ∧ Tab w bp vC vO vX (clsL ps) S.length (packed (excL S (clsL ps)) S.length).o (packed (excL S (clsL ps)) S.length).cl ∧ bp ∈ g ∧ (∀ b, vC.ownBlock = some b → b ∈ g) ∧ (∀ b, vO.ownBlock = some b → b ∈ g) ∧ (∀ b, vX.ownBlock = some b → b ∈ g)
  gl : ∀ k, k ∈ g → k < w.heap.size

theorem Mach.c0 {w : World} {bm bt be : Nat} {g : List Nat} {ps S : List Str} (h : Mach w bm bt be g ps S) : w.cell? ⟨bm, 0, none⟩ = some (.pointer (some ⟨bt, 0, none⟩)) := by
  obtain ⟨bp, vC, vO, vX, hb, _⟩ := h.tb
  rw [cell_of_blk hb]; rfl
theorem Mach.ex {w : World} {bm bt be : Nat} {g : List Nat} {ps S : List Str} (h : Mach w bm bt be g ps S) : ∃ g0 cap par lst E, Trie w 0 bt be ps.length g0 cap S par lst (fun k => (failN S k : Nat)) E ∧ StatesOf ps S E ∧ g0 < w.heap.size := by
  obtain ⟨g0, _, h0⟩ := h.tr
  obtain ⟨cap, par, lst, E, hT, hS⟩ := h0.ex
  exact ⟨g0, cap, par, lst, E, hT, hS, h0.lts.2.2⟩

theorem Mach.same {w w' : World} {bm bt be : Nat} {g : List Nat} {ps S : List Str} (h : Mach w bm bt be g ps S) (hs : w.heap.size ≤ w'.heap.size) (hb : ∀ k, k = bm ∨ k = bt ∨ k = be ∨ k ∈ g → w'.heap[k]? = w.heap[k]?) : Mach w' bm bt be g ps S := by
  obtain ⟨g0, hg0, h0⟩ := h.tr
  obtain ⟨bp, vC, vO, vX, h1, h2, h3, h4, h5, h6⟩ := h.tb
  refine ⟨⟨g0, hg0, h0.same hs (fun k hk => hb k ?_)⟩, ⟨bp, vC, vO, vX, (hb bm (Or.inl rfl)).trans h1, h2.same (fun k _ hk => hb k (Or.inr (Or.inr (Or.inr ?_)))), h3, h4, h5, h6⟩, fun k hk => Nat.lt_of_lt_of_le (h.gl k hk) hs⟩
  · rcases hk with e | e | e
    · exact Or.inr (Or.inl e)
    · exact Or.inr (Or.inr (Or.inl e))
    · exact Or.inr (Or.inr (Or.inr (e ▸ hg0)))
  · rcases hk with e | e | e | e
    · exact e ▸ h3
    · exact h4 k e
    · exact h5 k e
    · exact h6 k e

theorem Mach.lts {w : World} {bm bt be : Nat} {g : List Nat} {ps S : List Str} (h : Mach w bm bt be g ps S) : bm < w.heap.size ∧ bt < w.heap.size ∧ be < w.heap.size ∧ ∀ k, k ∈ g → k < w.heap.size := by
  obtain ⟨g0, hg0, h0⟩ := h.tr
  obtain ⟨bp, vC, vO, vX, h1, _⟩ := h.tb
  exact ⟨(Array.getElem?_eq_some_iff.1 h1).1, h0.lts.1, h0.lts.2.1, h.gl⟩

theorem Mach.below {w w' : World} {bm bt be : Nat} {g : List Nat} {ps S : List Str} (h : Mach w bm bt be g ps S) (hb : Below w.heap.size w w') : Mach w' bm bt be g ps S := by
  obtain ⟨l1, l2, l3, l4⟩ := h.lts
  exact h.same hb.size (fun k hk => hb.block k (by rcases hk with e | e | e | e; omega; omega; omega; exact l4 k e))

/-- The blocks of a table. -/
def tabB (bp : Nat) (vC vO vX : Value) : List Nat := [bp] ++ vC.ownBlock.toList ++ vO.ownBlock.toList ++ vX.ownBlock.toList

set_option maxHeartbeats 2000000 in
theorem compile_ok (ap : Option Addr) (cp : Nat) (ps : List Str) (w : World) (hP : PatsIn w w.heap.size ap ps) (hc : (chk ps).1 = 0) :
    Calls Tryz.prog 18 #[.slice ap ps.length cp] w fun e w' => ∃ (bm bt be : Nat) (g : List Nat) (S : List Str), e = .returned (.tuple #[.pointer (some ⟨bm, 0, none⟩), .int .i64 0, .int .i64 0]) ∧ Mach w' bm bt be g ps S ∧ (w.heap.size ≤ bm ∧ w.heap.size ≤ bt ∧ w.heap.size ≤ be ∧ ∀ k, k ∈ g → w.heap.size ≤ k) ∧ Below w.heap.size w w' := by
  obtain ⟨h64, hlen, hch⟩ := chk_ok hc
  have hck := check_any ap cp w.heap.size ps w hP (by omega) (fun i hi => by have := hlen i hi; omega)
  rw [hch] at hck
  have HK := hide hck
  have HN := hide (new_any ap cp ps w hP (fun i hi => (hlen i hi).1) h64 (fun i hi => (hlen i hi).2))
  clear hP hc hlen hch hck
  go_enter Tryz.func18, Tryz.ntmps18
  go_wp2_with (go_at_call 38; refine (unhide HK).mono ?_; rintro e w' ⟨rfl, hw'⟩; obtain rfl := hw'.symm)
  refine (unhide HN).mono ?_
  rintro e w2 ⟨bt, be, g0, cap, par, lst, E, S, rfl, hT, hS, hlt, hbtw, hbl⟩
  have HGE : Hid (w.heap.size ≤ be ∧ w.heap.size ≤ g0) := hide ⟨owns_base hT.ends, (owns_lt hT.row hT.rep.pos).1⟩
  have HTM : Hid (TrieM w2 bt be g0 ps S) := hide ⟨⟨cap, par, lst, E, hT.zero, hS⟩, by omega⟩
  have HB := hide hbl
  have HPN := hide (pnew_any bt be g0 ps S w2 (unhide HTM))
  clear hT hS hbl
  go_wp2_with fail
  refine (unhide HPN).mono ?_
  rintro e w3 ⟨bp, vC, vO, vX, rfl, HTN⟩
  go_wp2_with fail
  go_ret3
  have hbl := unhide HB
  have hsz := hbl.size
  have hb3 := (unhide HTN).below
  have hs3 := hb3.size
  have h5 : Below w3.heap.size w3 (w3.alloc (.cells #[.pointer (some ⟨bt, 0, none⟩), .pointer (some ⟨bp, 0, none⟩)] 100)) := (Below.refl _ _).alloc (Nat.le_refl _) _
  have ht3 := (unhide HTM).below hb3
  have ht4 := ht3.below h5
  have hT4 := (unhide HTN).tab.below h5
  have hge := unhide HGE
  have hmem : ∀ k, k ∈ g0 :: tabB bp vC vO vX → k = g0 ∨ k = bp ∨ vC.ownBlock = some k ∨ vO.ownBlock = some k ∨ vX.ownBlock = some k := by
    intro k hk
    simp only [tabB, List.mem_cons, List.mem_append, List.not_mem_nil, or_false, Option.mem_toList] at hk
    rcases hk with e | ((e | e) | e) | e
    · exact Or.inl e
    · exact Or.inr (Or.inl e)
    · exact Or.inr (Or.inr (Or.inl e))
    · exact Or.inr (Or.inr (Or.inr (Or.inl e)))
    · exact Or.inr (Or.inr (Or.inr (Or.inr e)))
  have hin : ∀ k, k = bp ∨ vC.ownBlock = some k ∨ vO.ownBlock = some k ∨ vX.ownBlock = some k → k ∈ g0 :: tabB bp vC vO vX := by
    intro k hk
    simp only [tabB, List.mem_cons, List.mem_append, List.not_mem_nil, or_false, Option.mem_toList]
    rcases hk with e | e | e | e
    · exact Or.inr (Or.inl (Or.inl (Or.inl e)))
    · exact Or.inr (Or.inl (Or.inl (Or.inr e)))
    · exact Or.inr (Or.inl (Or.inr e))
    · exact Or.inr (Or.inr e)
  have hrow : ∀ {v : Value} {e s n : Nat} {xs : List Value}, w3.ownsRow 0 e s v n xs → ∀ b, v.ownBlock = some b → b < w3.heap.size := by
    intro v e s n xs ho b hb
    obtain ⟨cu, hcu⟩ := owns_block ho hb
    exact (Array.getElem?_eq_some_iff.1 hcu).1
  have hm : Mach (w3.alloc (.cells #[.pointer (some ⟨bt, 0, none⟩), .pointer (some ⟨bp, 0, none⟩)] 100)) w3.heap.size bt be (g0 :: tabB bp vC vO vX) ps S := by
    refine ⟨⟨g0, by simp, ht4⟩, ⟨bp, vC, vO, vX, heap_alloc_new w3 _, hT4, hin bp (Or.inl rfl), fun b hb => hin b (Or.inr (Or.inl hb)), fun b hb => hin b (Or.inr (Or.inr (Or.inl hb))), fun b hb => hin b (Or.inr (Or.inr (Or.inr hb)))⟩, fun k hk => ?_⟩
    have hk3 : k < w3.heap.size := by
      rcases hmem k hk with e | e | e | e | e
      · rw [e]; exact ht3.lts.2.2
      · rw [e]; exact (Array.getElem?_eq_some_iff.1 (unhide HTN).tab.blk).1
      · exact hrow (unhide HTN).tab.cls k e
      · exact hrow (unhide HTN).tab.off k e
      · exact hrow (unhide HTN).tab.cel k e
    exact Nat.lt_of_lt_of_le hk3 h5.size
  refine ⟨w3.heap.size, bt, be, _, S, rfl, hm, ⟨by omega, by omega, by omega, fun k hk => ?_⟩, (hbl.trans (hb3.mono hsz)).trans (h5.mono (by omega))⟩
  rcases hmem k hk with e | e | e | e | e
  · rw [e]; exact hge.2
  · rw [e]; exact Nat.le_trans hsz (unhide HTN).ge
  · exact Nat.le_trans hsz ((unhide HTN).geC k e)
  · exact Nat.le_trans hsz ((unhide HTN).geO k e)
  · exact Nat.le_trans hsz ((unhide HTN).geX k e)
end Go.Proofs.YthbbhpbkoankhaaGreat

namespace Go.Proofs.YthbbhpbkoankhaaGreat
open Go.RowKit Scour

set_option maxHeartbeats 1000000 in
theorem states_any (bm bt be : Nat) (g : List Nat) (ps S : List Str) (w : World) (hM : Mach w bm bt be g ps S) :
    Calls Tryz.prog 30 #[.pointer (some ⟨bm, 0, none⟩)] w fun e w' => e = .returned (.int .i64 S.length) ∧ w' = w := by
  obtain ⟨g0, cap, par, lst, E, hT, hS, hg0⟩ := hM.ex
  have c0 : w.cell? ⟨bm, 0, none⟩ = some (.pointer (some ⟨bt, 0, none⟩)) := hM.c0
  have c1 : w.cell? ⟨bt, 0, none⟩ = some (.slice (some ⟨g0, 0, none⟩) S.length cap) := by rw [cell_of_blk hT.blk]; rfl
  clear hT hS hM
  go_enter Tryz.func30, Tryz.ntmps30
  go_wp2
  go_ret
  exact ⟨rfl, rfl⟩

set_option maxHeartbeats 1000000 in
theorem mnext_low (b : Int) (bmp : Value) (n : Int) (w : World) (hn : n < 0) :
    Calls Tryz.prog 31 #[bmp, .int .i64 n, .int .u8 b] w fun e w' => e = .returned (.tuple #[.int .i64 0, .int .i64 1]) ∧ w' = w := by
  go_enter Tryz.func31, Tryz.ntmps31
  go_wp2
  go_ret2
  exact ⟨rfl, rfl⟩

set_option maxHeartbeats 1000000 in
theorem mnext_high (bm bt be : Nat) (g : List Nat) (ps S : List Str) (w : World) (hM : Mach w bm bt be g ps S) (n b : Int) (hn : (S.length : Int) ≤ n) :
    Calls Tryz.prog 31 #[.pointer (some ⟨bm, 0, none⟩), .int .i64 n, .int .u8 b] w fun e w' => e = .returned (.tuple #[.int .i64 0, .int .i64 1]) ∧ w' = w := by
  obtain ⟨g0, cap, par, lst, E, hT, hS, hg0⟩ := hM.ex
  have c0 : w.cell? ⟨bm, 0, none⟩ = some (.pointer (some ⟨bt, 0, none⟩)) := hM.c0
  have c1 : w.cell? ⟨bt, 0, none⟩ = some (.slice (some ⟨g0, 0, none⟩) S.length cap) := by rw [cell_of_blk hT.blk]; rfl
  have h0 : 0 ≤ n := by omega
  clear hT hS hM
  go_enter Tryz.func31, Tryz.ntmps31
  go_wp2
  go_ret2
  exact ⟨rfl, rfl⟩

set_option maxHeartbeats 1000000 in
theorem mnext_in (bm bt be : Nat) (g : List Nat) (ps S : List Str) (w : World) (hM : Mach w bm bt be g ps S) (n : Nat) (b : UInt8) (hn : n < S.length) :
    Calls Tryz.prog 31 #[.pointer (some ⟨bm, 0, none⟩), .int .i64 n, .int .u8 b.toNat] w fun e w' => e = .returned (.tuple #[.int .i64 (nextN S n b), .int .i64 0]) ∧ Below w.heap.size w w' := by
  have hl := hM.lts
  obtain ⟨g0, cap, par, lst, E, hT, hS, hg0⟩ := hM.ex
  have hsl := hS.len
  have c0 : w.cell? ⟨bm, 0, none⟩ = some (.pointer (some ⟨bt, 0, none⟩)) := hM.c0
  have c1 : w.cell? ⟨bt, 0, none⟩ = some (.slice (some ⟨g0, 0, none⟩) S.length cap) := by rw [cell_of_blk hT.blk]; rfl
  have HC := hide (next_any bt g0 cap S par lst (fun k => (failN S k : Nat)) n b w hT.rep hn (by omega) (by omega) (by omega) (owns_lt hT.row hT.rep.pos).2.2 c1 (sts_of_owns hT.row) (fun k _ => rfl))
  clear hT hS hM
  have i1 : ¬ (S.length : Int) ≤ (n : Int) := by omega
  go_enter Tryz.func31, Tryz.ntmps31
  go_wp2_with (first | (go_at_call 47; refine (unhide HC).mono ?_; rintro e w' ⟨rfl, hbw⟩) | go_in)
  go_ret2
  exact ⟨rfl, hbw⟩
end Go.Proofs.YthbbhpbkoankhaaGreat
