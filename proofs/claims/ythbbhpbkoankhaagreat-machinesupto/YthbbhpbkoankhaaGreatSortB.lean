import Derived.Test.YthbbhpbkoankhaaGreatSortA
namespace Go.Proofs.YthbbhpbkoankhaaGreat
open Go.RowKit Scour Go.Shelf Go.Lib Go.Sort

section
variable {α : Type} [Inhabited α]
theorem grown_put {w : World} {g n : Nat} {os : Array Obj} (enc : α → Value) (d : Array α) : w.grownBy (grow (putRow enc (Sort.ahead w n) g 0 d) os) (some g) := by
  refine ⟨rfl, rfl, rfl, by simp, fun k hk hne => ?_⟩
  rw [heap_grow_old _ _ (by simpa using hk)]
  have : g ≠ k := fun e => hne (by rw [e])
  simp [putRow, mapBlock, Sort.ahead, Array.getElem?_modify, this]
theorem heap_put {w : World} {g n : Nat} {os : Array Obj} {cur : Array Value} {e : TypeId} {fr : Nat × Nat} (enc : α → Value) (d : Array α) (hb : w.heap[g]? = some (.cells cur e fr)) :
    (grow (putRow enc (Sort.ahead w n) g 0 d) os).heap[g]? = some (.cells (putCells enc 0 d cur) e fr) := by
  have hg : g < w.heap.size := (Array.getElem?_eq_some_iff.1 hb).1
  rw [heap_grow_old _ _ (by simpa using hg)]
  simp [putRow, mapBlock, Sort.ahead, Array.getElem?_modify, hb, onCells]
theorem putCells_get (enc : α → Value) (d : Array α) (cur : Array Value) (j : Nat) (hj : j < d.size) (h : d.size ≤ cur.size) : (putCells enc 0 d cur)[j]? = some (enc d[j]!) := by
  simp [putCells, hj, show j < cur.size by omega]
theorem putCells_size (enc : α → Value) (d : Array α) (cur : Array Value) : (putCells enc 0 d cur).size = cur.size := by simp [putCells]
end

/-- A list of numbers at a block's beginning. -/
structure OrdAt (w : World) (b : Nat) (os : List Nat) : Prop where
  ex : ∃ cur, w.heap[b]? = some (.cells cur 3 (0, 0)) ∧ os.length ≤ cur.size ∧ ∀ j, j < os.length → cur[j]? = some (.int .i64 (os.getD j 0 : Nat))

theorem OrdAt.lt {w : World} {b : Nat} {os : List Nat} (h : OrdAt w b os) : b < w.heap.size := by
  obtain ⟨cur, h1, _⟩ := h.ex; exact (Array.getElem?_eq_some_iff.1 h1).1
theorem OrdAt.ints {w : World} {b : Nat} {os : List Nat} (h : OrdAt w b os) : IntsAt w b os := by
  obtain ⟨cur, h1, _, h3⟩ := h.ex
  exact fun j hj => (cell_of_blk h1 j).trans (h3 j hj)
theorem OrdAt.kept {w w' : World} {b : Nat} {os : List Nat} (h : OrdAt w b os) (hb : w'.heap[b]? = w.heap[b]?) : OrdAt w' b os := by
  obtain ⟨cur, h1, h2, h3⟩ := h.ex
  exact ⟨cur, hb.trans h1, h2, h3⟩

/-- How a number below m stands as a value. -/
def encN (m : Nat) (i : Fin m) : Value := .int .i64 (i.val : Int)

/-- The patterns as the comparison sees them. -/
def cfP (ps : List Str) (m : Nat) (x y : Fin m) : Int := compareBytes (pat ps x.val) (pat ps y.val)

theorem ltP (ps : List Str) (m : Nat) (x y : Fin m) : ltOf (cfP ps m) x y = blt (pat ps x.val) (pat ps y.val) := by
  unfold ltOf cfP
  have := cmpB_neg (pat ps x.val) (pat ps y.val)
  cases h : blt (pat ps x.val) (pat ps y.val) <;> simp [this, h]

theorem swoP (ps : List Str) (m : Nat) : SWO (ltOf (cfP ps m)) where
  irrefl x := by rw [ltP, blt_irrefl]
  trans x y z h1 h2 := by rw [ltP] at *; exact blt_trans h1 h2
  ntrans x y z h1 h2 := by rw [ltP] at *; exact blt_ntrans h1 h2

theorem cmpLays (W : World) (Bs bp op cp bo k : Nat) (ps : List Str) (hBs : Bs < W.heap.size) (hB : Bs ≠ bo)
    (h0 : W.cell? ⟨Bs, 0, none⟩ = some (.slice (some ⟨bp, op, none⟩) (k + 1) cp)) (hbp : bp < bo)
    (hP : ∀ i, i < k + 1 → ∃ b o c, b < bo ∧ W.cell? ⟨bp, op + i, none⟩ = some (.slice (some ⟨b, o, none⟩) (pat ps i).length c) ∧ ∀ j, j < (pat ps i).length → W.cell? ⟨b, o + j, none⟩ = some (.int .u8 ((pat ps i).getD j 0).toNat)) (hbo : bo < W.heap.size) :
    CmpLays1 Tryz.prog 82 #[.pointer (some ⟨Bs, 0, none⟩)] (encN (k + 1)) (cfP ps (k + 1)) bo 0 (k + 1) W := by
  intro n os dk hdk x y
  have hg : W.grownBy (sortWorld (encN (k + 1)) W bo 0 n dk os) (some bo) := grown_put (encN (k + 1)) dk
  have hc : ∀ b o, b < W.heap.size → b ≠ bo → (sortWorld (encN (k + 1)) W bo 0 n dk os).cell? ⟨b, o, none⟩ = W.cell? ⟨b, o, none⟩ := fun b o hb hne => World.cell?_of_block (a := ⟨b, o, none⟩) (hg.block b hb (by simp [hne]))
  generalize sortWorld (encN (k + 1)) W bo 0 n dk os = V at hc ⊢
  obtain ⟨b, o, c, hb, h1, h3⟩ := hP x.val x.isLt
  obtain ⟨b', o', c', hb', h2, h4⟩ := hP y.val y.isLt
  refine (cmpClosure_any V Bs bp op (k + 1) cp x.val y.val ps b o c b' o' c' x.isLt y.isLt ?_ ?_ ?_ ?_ ?_).mono ?_
  · rw [hc Bs 0 hBs hB]; exact h0
  · rw [hc bp _ (by omega) (by omega)]; exact h1
  · rw [hc bp _ (by omega) (by omega)]; exact h2
  · intro j hj; rw [hc b _ (by omega) (by omega)]; exact h3 j hj
  · intro j hj; rw [hc b' _ (by omega) (by omega)]; exact h4 j hj
  · rintro e w' ⟨rfl, q, rfl⟩
    exact ⟨rfl, q, #[], by rw [grow_empty]⟩

/-- The numbers 0, 1, .. as they are filled in. -/
def iota (k i : Nat) : Int := if i < k then (i : Int) else 0

theorem iota_zero (m : Nat) : intsF (iota 0) m = List.replicate m (.int .i64 0) := by
  apply List.ext_getElem?
  intro j
  by_cases hj : j < m
  · rw [intsF_get _ _ _ hj]; simp [hj, iota]
  · rw [List.getElem?_eq_none (by rw [intsF_length]; omega), List.getElem?_eq_none (by simp; omega)]
theorem iota_succ (k : Nat) : upd (iota k) k (k : Int) = iota (k + 1) := by
  funext i
  unfold upd iota
  by_cases h : i = k
  · subst h; simp
  · rw [if_neg h]
    by_cases g : i < k
    · rw [if_pos g, if_pos (by omega)]
    · rw [if_neg g, if_neg (by omega)]

theorem Tryz.infoI : (Tryz.prog.info? 3).map (fun i => (i.zero, i.size, i.bytes)) = some (some (.int .i64 0), 1, 8) := by kernel_rfl
end Go.Proofs.YthbbhpbkoankhaaGreat
