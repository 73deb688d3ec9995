import Derived.Test.YthbbhpbkoankhaaGreatPats
import Derived.Deep.RegionLaw
namespace Go.Proofs.YthbbhpbkoankhaaGreat
open Go.RowKit Scour

/-- A trie in memory: its block, its states' row, its patterns' ends. -/
structure Trie (w : World) (base bt be m g cap : Nat) (S : List Str) (par lst fl E : Nat → Int) : Prop where
  blk : w.heap[bt]? = some (.cells #[.slice (some ⟨g, 0, none⟩) S.length cap, .slice (some ⟨be, 0, none⟩) m m] 120 (0, 0))
  row : w.ownsRow base 146 3 (.slice (some ⟨g, 0, none⟩) S.length cap) S.length (cellsF par lst fl S.length)
  ends : w.ownsRow base 3 1 (.slice (some ⟨be, 0, none⟩) m m) m (intsF E m)
  rep : Rep S par lst
  ne : bt ≠ g ∧ bt ≠ be ∧ be ≠ g

theorem Trie.kept {w w' : World} {base bt be m g cap : Nat} {S : List Str} {par lst fl E : Nat → Int} (h : Trie w base bt be m g cap S par lst fl E) (hb : Below w.heap.size w w') : Trie w' base bt be m g cap S par lst fl E :=
  ⟨(hb.block bt (Array.getElem?_eq_some_iff.1 h.blk).1).trans h.blk, h.row.kept (grown_of_below hb none) (by simp [Value.ownBlock]), h.ends.kept (grown_of_below hb none) (by simp [Value.ownBlock]), h.rep, h.ne⟩

theorem box_new {w : World} {x y z : Value} {t : TypeId} : (w.alloc (.cells #[x, y, z] t)).drew.heap[w.heap.size]? = some (.cells #[x, y, z] t (0, 0)) := heap_alloc_new w _

theorem Tryz.infoS : (Tryz.prog.info? 146).map (fun i => (i.zero, i.size, i.bytes)) = some (some (.agg #[.int .i64 0, .int .u8 0, .int .i64 0]), 3, 24) := by kernel_rfl

/-- Numbers that lie in a block. -/
def IntsAt (w : World) (b : Nat) (os : List Nat) : Prop := ∀ j, j < os.length → w.cell? ⟨b, j, none⟩ = some (.int .i64 (os.getD j 0 : Nat))

theorem grown_set {w : World} {b o : Nat} {v : Value} : w.grownBy (w.setCell ⟨b, o, none⟩ v) (some b) :=
  ⟨rfl, rfl, rfl, by simp [World.setCell], fun k _ hne => Below.heap_setCell w _ v k (fun e => hne (by rw [e]))⟩

/-- The end of a pattern is set. -/
theorem Trie.setEnd {w : World} {base bt be m g cap : Nat} {S : List Str} {par lst fl E : Nat → Int} (h : Trie w base bt be m g cap S par lst fl E) (i : Nat) (x : Int) :
    Trie (w.setCell ⟨be, i, none⟩ (.int .i64 x)) base bt be m g cap S par lst fl (upd E i x) where
  blk := (Below.heap_setCell w _ _ bt h.ne.2.1).trans h.blk
  row := h.row.kept (grown_set (w := w) (b := be) (o := i) (v := .int .i64 x)) (Or.inr (by simp only [Value.ownBlock, ne_eq, Option.some.injEq]; exact fun e => h.ne.2.2 e.symm))
  ends := by
    have := (h.ends.stored i (.int .i64 x)).1
    rwa [intsF_set] at this
  rep := h.rep
  ne := h.ne

theorem Trie.facts {W w' : World} {base bt be m g cap : Nat} {S : List Str} {par lst fl E : Nat → Int} (h : Trie W base bt be m g cap S par lst fl E) (hgr : W.grownBy w' (some g)) {i : Nat} (hi : i < m) :
    w'.cell? ⟨bt, 0, none⟩ = some (.slice (some ⟨g, 0, none⟩) S.length cap) ∧ w'.frozen? ⟨bt, 0, none⟩ = false ∧ w'.cell? ⟨bt, 1, none⟩ = some (.slice (some ⟨be, 0, none⟩) m m) ∧ w'.cell? ⟨be, i, none⟩ = some (.int .i64 (E i)) ∧ w'.frozen? ⟨be, i, none⟩ = false := by
  have hbt : bt < W.heap.size := (Array.getElem?_eq_some_iff.1 h.blk).1
  have hb' := (hgr.block bt hbt (by simp; exact h.ne.1)).trans h.blk
  have he := h.ends.kept hgr (Or.inr (by simp only [Value.ownBlock, ne_eq, Option.some.injEq]; exact h.ne.2.2))
  exact ⟨by rw [cell_of_blk hb']; rfl, frozen_of_row w' bt 0 _ _ hb', by rw [cell_of_blk hb']; rfl, by rw [he.cellAt _ (by omega), intsF_get _ _ _ hi], he.frozenAt _⟩

/-- A state more, behind append and the store of the new list. -/
theorem Trie.more {W w' : World} {base bt be m g cap g' cap' : Nat} {S : List Str} {par lst E : Nat → Int} {p : Nat} {c : UInt8} {x : Str} (h : Trie W base bt be m g cap S par lst (fun _ => 0) E)
    (hp : p < S.length) (hx : x = at' S p ++ [c]) (hs : (S ++ [x]).Pairwise slt) (hgr : W.grownBy w' (some g)) (hat : g' = g ∨ W.heap.size ≤ g')
    (hown : w'.ownsRow base 146 3 (.slice (some ⟨g', 0, none⟩) (S.length + 1) cap') (S.length + 1) (cellsF par lst (fun _ => 0) S.length ++ [.int .i64 p, .int .u8 c.toNat, .int .i64 0])) (hbe : be < W.heap.size) :
    Trie (w'.setCell ⟨bt, 0, none⟩ (.slice (some ⟨g', 0, none⟩) (S.length + 1) cap')) base bt be m g' cap' (S ++ [x]) (upd par S.length p) (upd lst S.length c.toNat) (fun _ => 0) E := by
  have hbt : bt < W.heap.size := (Array.getElem?_eq_some_iff.1 h.blk).1
  have hb' := (hgr.block bt hbt (by simp; exact h.ne.1)).trans h.blk
  have hgl := (owns_lt h.row h.rep.pos).2.1
  have n1 : bt ≠ g' := by rcases hat with rfl | k; exact h.ne.1; omega
  have n2 : be ≠ g' := by rcases hat with rfl | k; exact h.ne.2.2; omega
  have hl : (S ++ [x]).length = S.length + 1 := by simp
  have hc : cellsF (upd par S.length p) (upd lst S.length c.toNat) (fun _ => 0) (S.length + 1) = cellsF par lst (fun _ => 0) S.length ++ [.int .i64 p, .int .u8 c.toNat, .int .i64 0] := by
    rw [cellsF_succ]
    have : cellsF (upd par S.length p) (upd lst S.length c.toNat) (fun _ => 0) S.length = cellsF par lst (fun _ => 0) S.length := cellsF_congr fun k hk => by
      unfold upd; rw [if_neg (by omega), if_neg (by omega)]; exact ⟨rfl, rfl, rfl⟩
    rw [this]
    simp [upd]
  refine ⟨?_, ?_, ?_, h.rep.push hp hx hs, n1, h.ne.2.1, n2⟩
  · rw [hl, heap_setCell_same w' bt 0 _ _ _ hb']
    rfl
  · rw [hl, hc]
    exact hown.kept grown_set (Or.inr (by simp only [Value.ownBlock, ne_eq, Option.some.injEq]; exact fun e => n1 e.symm))
  · exact (h.ends.kept hgr (Or.inr (by simp only [Value.ownBlock, ne_eq, Option.some.injEq]; exact h.ne.2.2))).kept grown_set (Or.inr (by simp only [Value.ownBlock, ne_eq, Option.some.injEq]; exact fun e => h.ne.2.1 e.symm))

theorem Keeps.other {w a b : World} {bt g0 g be : Nat} (h : Keeps [bt, g0, be] w a) (k : Keeps [bt, g, be] a b) (hg : g = g0 ∨ w.heap.size ≤ g) : Keeps [bt, g0, be] w b :=
  ⟨k.os.trans h.os, k.tape.trans h.tape, k.output.trans h.output, Nat.le_trans h.size k.size, fun i hi hm => (k.block i (Nat.lt_of_lt_of_le hi h.size) (fun hm' => hm (by
    simp only [List.mem_cons, List.not_mem_nil, or_false] at hm' ⊢
    rcases hm' with e | e | e
    · exact Or.inl e
    · rcases hg with g1 | g1
      · exact Or.inr (Or.inl (e.trans g1))
      · omega
    · exact Or.inr (Or.inr e)))).trans (h.block i hi hm)⟩

/-- What a level's round leaves, where a state has come. -/
theorem pushed {W1 w' : World} {base bt be m g cap g' cap' n i : Nat} {S : List Str} {par lst E : Nat → Int} {p : Nat} {c : UInt8} {x : Str} (hn : S.length = n) (h : Trie W1 base bt be m g cap S par lst (fun _ => 0) E)
    (hx : x = at' S p ++ [c] ∧ p < S.length) (hnp : S.getLast? ≠ some x) (hs : (push S x).Pairwise slt) (hbe : be < W1.heap.size)
    (hown : w'.ownsRow base 146 3 (.slice (some ⟨g', 0, none⟩) (n + 1) cap') (n + 1) (cellsF par lst (fun _ => 0) n ++ [.int .i64 p, .int .u8 c.toNat, .int .i64 0]))
    (hgr : (W1.alloc (.cells #[.int .i64 p, .int .u8 c.toNat, .int .i64 0] 146)).drew.grownBy w' (some g))
    (hat : some g = some g' ∨ g' = (W1.alloc (.cells #[.int .i64 p, .int .u8 c.toNat, .int .i64 0] 146)).drew.heap.size) :
    Trie ((w'.setCell ⟨bt, 0, none⟩ (.slice (some ⟨g', 0, none⟩) (n + 1) cap')).setCell ⟨be, i, none⟩ (.int .i64 (n : Nat))) base bt be m g' cap' (push S x) (upd par n p) (upd lst n c.toNat) (fun _ => 0) (upd E i ((push S x).length - 1 : Nat)) ∧
      Keeps [bt, g, be] W1 ((w'.setCell ⟨bt, 0, none⟩ (.slice (some ⟨g', 0, none⟩) (n + 1) cap')).setCell ⟨be, i, none⟩ (.int .i64 (n : Nat))) ∧ (g' = g ∨ W1.heap.size ≤ g') := by
  subst hn
  rw [push_new hnp] at hs ⊢
  have hbA : Below W1.heap.size W1 (W1.alloc (.cells #[.int .i64 p, .int .u8 c.toNat, .int .i64 0] 146)).drew := ((Below.refl _ _).alloc (Nat.le_refl _) _).drew
  have hTA := h.kept hbA
  have hsz := hbA.size
  have hat' : g' = g ∨ (W1.alloc (.cells #[.int .i64 p, .int .u8 c.toNat, .int .i64 0] 146)).drew.heap.size ≤ g' := by
    rcases hat with e | e
    · simp only [Option.some.injEq] at e; exact Or.inl e.symm
    · exact Or.inr (Nat.le_of_eq e.symm)
  have hm := (hTA.more hx.2 hx.1 hs hgr hat' hown (by omega)).setEnd i (S.length : Nat)
  have hl : (S ++ [x]).length - 1 = S.length := by simp
  rw [hl]
  refine ⟨hm, ?_, ?_⟩
  · refine ((((keeps_of_below hbA [bt, g, be]).grown hgr ?_).grown grown_set ?_).grown grown_set ?_) <;> intro y hy <;> simp at hy <;> subst hy <;> simp
  · rcases hat' with e | e
    · exact Or.inl e
    · exact Or.inr (by omega)

/-- What it leaves, where none has come. -/
theorem notPushed {W1 : World} {base bt be m g cap n i : Nat} {S : List Str} {par lst E : Nat → Int} {x : Str} (hn : S.length = n + 1) (h : Trie W1 base bt be m g cap S par lst (fun _ => 0) E) (hnp : S.getLast? = some x) :
    Trie (W1.setCell ⟨be, i, none⟩ (.int .i64 (n : Nat))) base bt be m g cap (push S x) par lst (fun _ => 0) (upd E i ((push S x).length - 1 : Nat)) ∧ Keeps [bt, g, be] W1 (W1.setCell ⟨be, i, none⟩ (.int .i64 (n : Nat))) := by
  rw [push_same hnp, hn]
  refine ⟨h.setEnd i (n : Nat), (Keeps.refl _ _).grown grown_set ?_⟩
  intro y hy; simp at hy; subst hy; simp
end Go.Proofs.YthbbhpbkoankhaaGreat
