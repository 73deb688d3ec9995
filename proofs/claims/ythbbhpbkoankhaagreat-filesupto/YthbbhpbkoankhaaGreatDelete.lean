import Derived.Test.YthbbhpbkoankhaaGreatLevelMath
namespace Go.Proofs.YthbbhpbkoankhaaGreat
open Go.RowKit Scour Go.Shelf Go.Lib Go.Sort

/-- Is a pattern shorter? -/
def shortB (ps : List Str) (L i : Nat) : Bool := decide ((pat ps i).length < L)

set_option maxHeartbeats 1000000 in
theorem shortClosure_any (W : World) (B1 B2 bp op m cp x L : Nat) (ps : List Str) (ao : Option Addr) (c : Nat) (hx : x < m)
    (h0 : W.cell? ⟨B1, 0, none⟩ = some (.slice (some ⟨bp, op, none⟩) m cp)) (h1 : W.cell? ⟨bp, op + x, none⟩ = some (.slice ao (pat ps x).length c)) (h2 : W.cell? ⟨B2, 0, none⟩ = some (.int .i64 L)) :
    Calls Tryz.prog 57 #[.int .i64 x, .pointer (some ⟨B1, 0, none⟩), .pointer (some ⟨B2, 0, none⟩)] W fun e w' => e = .returned (.bool (shortB ps L x)) ∧ ∃ q, w' = W.drewN q := by
  unfold shortB
  have i1 : (x : Int) < (m : Int) := by omega
  have i3 : (0 : Int) ≤ (x : Int) := by omega
  generalize (pat ps x).length = n at *
  go_enter Tryz.func57, Tryz.ntmps57
  go_wp2
  go_quiet (fail)
  go_wp2
  go_ret
  refine ⟨?_, _, rfl⟩
  by_cases h : n < L
  · simp [h]
  · simp [h]

theorem exists_fin (k : Nat) : ∀ os : List Nat, (∀ x ∈ os, x < k) → ∃ d : List (Fin k), d.map Fin.val = os
  | [], _ => ⟨[], rfl⟩
  | x :: os, h => by
    obtain ⟨d, hd⟩ := exists_fin k os (fun y hy => h y (List.mem_cons_of_mem _ hy))
    exact ⟨⟨x, h x List.mem_cons_self⟩ :: d, by simp [hd]⟩

theorem filter_vals (k : Nat) (p : Nat → Bool) : ∀ d : List (Fin k), (d.filter fun x => p x.val).map Fin.val = (d.map Fin.val).filter p
  | [] => rfl
  | x :: d => by
    have ih := filter_vals k p d
    simp only [List.filter_cons, List.map_cons]
    split <;> simp [ih]

theorem delete_any (W : World) (B1 B2 bp op cp bo cap k L : Nat) (ps : List Str) (os : List Nat) (hos : ∀ x ∈ os, x < k + 1) (hl : os.length ≤ cap) (hbig : os.length < 100000)
    (hO : OrdAt W bo os) (n1 : B1 < W.heap.size ∧ B1 ≠ bo) (n2 : B2 < W.heap.size ∧ B2 ≠ bo) (n3 : bp < W.heap.size ∧ bp ≠ bo)
    (h0 : W.cell? ⟨B1, 0, none⟩ = some (.slice (some ⟨bp, op, none⟩) (k + 1) cp)) (h2 : W.cell? ⟨B2, 0, none⟩ = some (.int .i64 L))
    (hP : ∀ i, i < k + 1 → ∃ ao c, W.cell? ⟨bp, op + i, none⟩ = some (.slice ao (pat ps i).length c)) :
    Calls Tryz.prog 56 #[.slice (some ⟨bo, 0, none⟩) os.length cap, .func (.func 57) #[] #[.pointer (some ⟨B1, 0, none⟩), .pointer (some ⟨B2, 0, none⟩)]] W fun e w' =>
      e = .returned (.slice (some ⟨bo, 0, none⟩) (os.filter fun i => !shortB ps L i).length cap) ∧ OrdAt w' bo (os.filter fun i => !shortB ps L i) ∧ W.grownBy w' (some bo) := by
  obtain ⟨d, hd⟩ := exists_fin (k + 1) os hos
  obtain ⟨cur, c1, c2, c3⟩ := hO.ex
  have hdl : d.length = os.length := by rw [← hd]; simp
  have hg : ∀ (V : World), (∀ b o, b < W.heap.size → b ≠ bo → V.cell? ⟨b, o, none⟩ = W.cell? ⟨b, o, none⟩) → ∀ x : Fin (k + 1), FnGives Tryz.prog 57 #[.pointer (some ⟨B1, 0, none⟩), .pointer (some ⟨B2, 0, none⟩)] #[encN (k + 1) x] (.bool (shortB ps L x.val)) V := by
    intro V hV x
    obtain ⟨ao, c, h1⟩ := hP x.val x.isLt
    exact shortClosure_any V B1 B2 bp op (k + 1) cp x.val L ps ao c x.isLt (by rw [hV _ _ n1.1 n1.2]; exact h0) (by rw [hV _ _ n3.1 n3.2]; exact h1) (by rw [hV _ _ n2.1 n2.2]; exact h2)
  have hH : Holds (encN (k + 1)) W bo 0 d.toArray := by
    intro j hj
    simp only [List.size_toArray] at hj
    refine ⟨?_, frozen_of_row W bo (0 + j) cur _ c1⟩
    rw [Nat.zero_add, cell_of_blk c1, c3 j (by omega), getElem!_pos d.toArray j (by simpa using hj)]
    have : os.getD j 0 = (d[j]).val := by rw [← hd]; simp [List.getD, hj]
    rw [this]
    simp [encN]
  have hS := AnyE.slices_DeleteFunc Tryz.delL (encN (k + 1)) (fun _ => rfl) (fun x => shortB ps L x.val) 57 #[.pointer (some ⟨B1, 0, none⟩), .pointer (some ⟨B2, 0, none⟩)] (enters_of Tryz.func57 (by kernel_rfl) rfl) (0 : Fin (k + 1)) (fun w => by kernel_rfl)
    bo 0 cap d.toArray W (fun V x hb => hg V (fun b o h _ => hb.cell (p := ⟨b, o, none⟩) h) x) (fun n oo dk x hdk => hg _ (fun b o h hne => World.cell?_of_block (a := ⟨b, o, none⟩) ((grown_put (w := W) (g := bo) (n := n) (os := oo) (encN (k + 1)) dk).block b h (by simp [hne]))) x) hH (by simp; omega) (by simp; omega)
  simp only [List.size_toArray, hdl] at hS
  change Calls Tryz.prog 56 _ _ _ at hS
  refine hS.mono ?_
  rintro e w' ⟨rfl, q, rfl⟩
  have hf := filter_vals (k + 1) (fun i => !shortB ps L i) d
  rw [hd] at hf
  have hfl : (d.filter fun x => !shortB ps L x.val).length = (os.filter fun i => !shortB ps L i).length := by rw [← hf]; simp
  have hle : (os.filter fun i => !shortB ps L i).length ≤ os.length := List.length_filter_le _ _
  refine ⟨by rw [hfl], ?_, ?_⟩
  · rw [← grow_empty (putRow _ _ _ _ _)]
    refine ⟨_, heap_put (encN (k + 1)) _ c1, by rw [putCells_size]; omega, ?_⟩
    intro j hj
    rw [putCells_get _ _ _ _ (by simp [hfl]; omega) (by simp [hfl]; omega)]
    have hjd : j < (d.filter fun x => !shortB ps L x.val).length := by omega
    have : (os.filter fun i => !shortB ps L i).getD j 0 = ((d.filter fun x => !shortB ps L x.val)[j]).val := by
      rw [← hf]; simp [List.getD, hjd]
    rw [this, getElem!_pos _ j (by simp [hfl]; omega)]
    simp only [List.getElem_toArray]
    rw [List.getElem_append_left hjd]
    rfl
  · rw [← grow_empty (putRow _ _ _ _ _)]
    exact grown_put (encN (k + 1)) _
end Go.Proofs.YthbbhpbkoankhaaGreat
