import Derived.Test.YtfpohfifdfbpkaaGreatDoorPkD
import Derived.Deep.RegionLaw
import Derived.Test.YtfpohfifdfbpkaaGreatDoorPkA
namespace Go.Proofs.YtfpohfifdfbpkaaGreatDoor
open Go.RowKit Scour Go.Lib Go.Shelf Go.Sort
theorem Tryz.infoR : (Tryz.prog.info? 165).map (fun i => (i.zero, i.size, i.bytes)) = some (some (.agg #[.int .i64 0, .slice none 0 0]), 2, 32) := by kernel_rfl
set_option maxHeartbeats 2000000 in
theorem rlen_any (v : Option Addr) (m cap : Nat) (w : World) : Calls Tryz.prog 77 #[.slice v m cap] w fun e w' => e = .returned (.int .i64 m) /\ w' = w := by
 go_enter Tryz.func77, Tryz.ntmps77
 go_wp2
 go_ret
 exact ⟨rfl, rfl⟩
theorem owns_cut {w : World} {base e s g n m cap : Nat} {xs : List Value} (h : w.ownsRow base e s (.slice (some ⟨g, 0, none⟩) n cap) n xs) (hm : m <= n) : w.ownsRow base e s (.slice (some ⟨g, 0, none⟩) m cap) m (xs.take (m * s)) := by
 obtain ⟨h0, h1⟩ := h
 have hms : m * s <= n * s := Nat.mul_le_mul_right s hm
 rcases h1 with ⟨hv, _⟩ | ⟨g', cap', cur, hv, h2, h3, h4, h5, h6, h7⟩
 ·cases hv
 ·simp only [Value.slice.injEq, Option.some.injEq, Addr.mk.injEq, and_true, true_and] at hv
  obtain ⟨rfl, rfl⟩ := hv
  refine ⟨by rw [List.length_take]; omega, Or.inr ⟨g, cap, cur, rfl, h2, h3, by omega, h5, h6, ?_⟩⟩
  rw [← h7, List.take_take, Nat.min_eq_left hms]
theorem rowsV_take (es : Nat -> Value) : ∀ (l : List Nat) (m : Nat), (yW es l).take (m * 2) = yW es (l.take m)
 | [], m => by simp [yW]
 | x :: l, 0 => rfl
 | x :: l, m + 1 => by
   have e : yW es (x :: l) = .int .i64 (x : Nat) :: es x :: yW es l := rfl
   have e2 : yW es ((x :: l).take (m + 1)) = .int .i64 (x : Nat) :: es x :: yW es (l.take m) := rfl
   rw [e, e2, ← rowsV_take es l m, show (m + 1) * 2 = m * 2 + 1 + 1 by omega]
   rfl
theorem mod_alloc {P : Nat -> Prop} (w : World) (ob : Obj) : Mod P w (w.alloc ob) :=
 ⟨rfl, rfl, rfl, by simp, fun k hk _ => ((Below.refl w.heap.size w).alloc (Nat.le_refl _) ob).block k hk⟩
theorem zQ.pop {w : World} {rp gh cap m : Nat} {d : Array Nat} {es : Nat -> Value} (h : zQ w rp gh cap d es) (hd : d.size = m + 1) (ob : Obj) :
  zQ ((w.setCell ⟨rp, 0, none⟩ (.slice (some ⟨gh, 0, none⟩) m cap)).alloc ob) rp gh cap d.pop es /\ Mod (fun k => k = rp) w ((w.setCell ⟨rp, 0, none⟩ (.slice (some ⟨gh, 0, none⟩) m cap)).alloc ob) := by
 have hrp : rp < w.heap.size := (Array.getElem?_eq_some_iff.1 h.box).1
 have hM : Mod (fun k => k = rp) w ((w.setCell ⟨rp, 0, none⟩ (.slice (some ⟨gh, 0, none⟩) m cap)).alloc ob) :=
  Mod.trans (P := fun k => k = rp) (Mod.setCell w rp _ _) (mod_alloc _ ob) (fun _ _ e => e)
 have hsz : d.pop.size = m := by simp [hd]
 have hr := owns_cut (m := m) (zE (w' := (w.setCell ⟨rp, 0, none⟩ (.slice (some ⟨gh, 0, none⟩) m cap)).alloc ob) h.row (fun b hl hv => hM.out b hl (fun e => h.ne (by simp only [Value.ownBlock, Option.some.injEq] at hv; rw [hv, e])))) (by omega)
 rw [rowsV_take] at hr
 refine ⟨⟨?_, ?_, h.ne⟩, hM⟩
 ·rw [hsz]
  have h1 : (w.setCell ⟨rp, 0, none⟩ (.slice (some ⟨gh, 0, none⟩) m cap)).heap[rp]? = some (.cells #[.slice (some ⟨gh, 0, none⟩) m cap] 213 (0, 0)) := one_setCell h.box
  have h2 := (mod_alloc (P := fun _ => False) (w.setCell ⟨rp, 0, none⟩ (.slice (some ⟨gh, 0, none⟩) m cap)) ob).out rp (by simpa using hrp) (fun e => e)
  exact h2.trans h1
 ·rw [hsz]
  have e : d.pop.toList = d.toList.take m := by
   rw [Array.toList_pop, List.dropLast_eq_take]
   simp [hd]
  rw [e]
  exact hr
set_option maxHeartbeats 4000000 in
set_option maxRecDepth 100000 in
theorem rpop_any (rp gh cap : Nat) (d : Array Nat) (es : Nat -> Value) (w : World) (h : zQ w rp gh cap d es) (hes : ∀ s, s ∈ d.toList -> ∃ b m c, es s = .slice (some ⟨b, 0, none⟩) m c) (m : Nat) (hd : d.size = m + 1) (hds : m < 10000) :
  Calls Tryz.prog 209 #[.pointer (some ⟨rp, 0, none⟩)] w fun e w' => e = .returned (.iface 165 (.agg #[.int .i64 (d[m]! : Nat), es d[m]!])) /\ Hid (zQ w' rp gh cap d.pop es) /\ Hid (Mod (fun k => k = rp) w w') := by
 obtain ⟨a1, a2, f1, f2⟩ := h.cells m (by omega)
 obtain ⟨x1, x2, x3, ex⟩ := hes _ (h.mem (i := m) (by omega))
 have hc := h.cell
 rw [hd] at hc
 have hfz : w.frozen? ⟨rp, 0, none⟩ = false := free_of_one h.box
 have hcap : m + 1 <= cap := by
  rcases zV h.row with ⟨h1, _⟩ | ⟨_, _, h1, _, _, h2⟩
  ·cases h1
  ·simp only [Value.slice.injEq, Option.some.injEq, Addr.mk.injEq, and_true, true_and] at h1
   omega
 have hrp : rp < w.heap.size := (Array.getElem?_eq_some_iff.1 h.box).1
 have hgh : gh < w.heap.size := by obtain ⟨cur, hcur⟩ := zK h.row; exact (Array.getElem?_eq_some_iff.1 hcur).1
 have HP := zB (fun ob => h.pop hd ob)
 have hW : ∀ ob, Below w.heap.size w (w.alloc ob) := fun ob => (Below.refl _ _).alloc (Nat.le_refl _) _
 have g1 := fun ob => ((hW ob).cell (p := ⟨rp, 0, none⟩) hrp).trans hc
 have g2 : ∀ ob, (w.alloc ob).frozen? ⟨rp, 0, none⟩ = false := fun ob => by rw [alloc_eq_grow, frozen?_grow _ _ _ hrp]; exact hfz
 rw [ex] at a2 ⊢
 clear h hes
 generalize d[m]! = p at *
 generalize d.pop = d2 at *
 clear hW
 go_enter Tryz.func209, Tryz.ntmps209
 go_wp2
 go_ret
 exact ⟨rfl, zB (zA HP _).1, zB (zA HP _).2⟩
end Go.Proofs.YtfpohfifdfbpkaaGreatDoor
namespace Go.Proofs.YtfpohfifdfbpkaaGreatDoor
open Go.RowKit Scour Go.Lib Go.Shelf Go.Sort
theorem mod_grown {w w' : World} {g : Nat} (h : w.grownBy w' (some g)) : Mod (fun k => k = g) w w' :=
 by
 obtain ⟨a, b, c, e, _⟩ := id h
 exact ⟨by first | exact a | exact b | exact c, by first | exact a | exact b | exact c, by first | exact a | exact b | exact c, e, fun k hk hne => h.block k hk (fun e => hne (by simpa using e))⟩
theorem assertRow (a b : Value) (t : TypeId) (w : World) : (Instr.typeAssert (.iface 165 (.agg #[a, b])) t 165 false).run Tryz.prog w = .ok (.agg #[a, b]) w := by kernel_rfl
theorem rowsV_one (es : Nat -> Value) (s : Nat) : yW es [s] = [.int .i64 (s : Nat), es s] := rfl
theorem row_new {w : World} {x y : Value} {t : TypeId} : (w.alloc (.cells #[x, y] t)).drew.heap[w.heap.size]? = some (.cells #[x, y] t (0, 0)) := heap_alloc_new w _
theorem zQ.pushed {w w' : World} {rp gh cap g' cap' s : Nat} {d : Array Nat} {es : Nat -> Value} (h : zQ w rp gh cap d es)
  (ho : w'.ownsRow 0 165 2 (.slice (some ⟨g', 0, none⟩) (d.size + 1) cap') (d.size + 1) (yW es d.toList ++ [.int .i64 (s : Nat), es s])) (hg : (w.alloc (.cells #[.int .i64 (s : Nat), es s] 165)).drew.grownBy w' (some gh)) (hat : some gh = some g' \/ g' = w.heap.size + 1) :
  zQ (w'.setCell ⟨rp, 0, none⟩ (.slice (some ⟨g', 0, none⟩) (d.size + 1) cap')) rp g' cap' (d.push s) es /\ Mod (fun k => k = rp \/ k = gh) w (w'.setCell ⟨rp, 0, none⟩ (.slice (some ⟨g', 0, none⟩) (d.size + 1) cap')) /\ (g' = gh \/ w.heap.size <= g') := by
 have hrp : rp < w.heap.size := (Array.getElem?_eq_some_iff.1 h.box).1
 have hM1 : Mod (fun k => k = rp \/ k = gh) w w' := ((mod_alloc (P := fun k => k = rp \/ k = gh) w (.cells #[.int .i64 (s : Nat), es s] 165)).trans (Mod.drewN (P := fun _ => False) _ 1) (fun _ _ e => e.elim)).trans (mod_grown hg) (fun _ _ e => Or.inr e)
 have hM : Mod (fun k => k = rp \/ k = gh) w (w'.setCell ⟨rp, 0, none⟩ (.slice (some ⟨g', 0, none⟩) (d.size + 1) cap')) := hM1.trans (Mod.setCell _ rp _ _) (fun _ _ e => Or.inl e)
 have hb : w'.heap[rp]? = some (.cells #[.slice (some ⟨gh, 0, none⟩) d.size cap] 213 (0, 0)) := by
  have h1 := (mod_grown hg).out rp (by simp; omega) h.ne
  rw [h1]
  exact (((Below.refl w.heap.size w).alloc (Nat.le_refl _) _).block rp hrp).trans h.box
 have hne : rp ≠ g' := by
  rcases hat with e | e
  ·simp only [Option.some.injEq] at e; rw [← e]; exact h.ne
  ·omega
 have hsz : (d.push s).size = d.size + 1 := by simp
 refine ⟨⟨by rw [hsz]; exact one_setCell hb, ?_, hne⟩, hM, ?_⟩
 ·rw [hsz]
  have e : yW es (d.push s).toList = yW es d.toList ++ [.int .i64 (s : Nat), es s] := by
   rw [Array.toList_push, rowsV_append]; rfl
  rw [e]
  refine zE ho (fun b hl hv => ?_)
  simp only [Value.ownBlock, Option.some.injEq] at hv
  exact Below.heap_setCell w' _ _ b (fun e1 => hne (by rw [hv]; exact e1.symm))
 ·rcases hat with e | e
  ·simp only [Option.some.injEq] at e; exact Or.inl e.symm
  ·right; omega
set_option maxHeartbeats 8000000 in
set_option maxRecDepth 100000 in
theorem rpush_any (rp gh cap : Nat) (d : Array Nat) (es : Nat -> Value) (w : World) (h : zQ w rp gh cap d es) (s : Nat) (hes : ∃ b m c, es s = .slice (some ⟨b, 0, none⟩) m c) (hds : d.size < 10000) :
  Calls Tryz.prog 210 #[.pointer (some ⟨rp, 0, none⟩), .iface 165 (.agg #[.int .i64 (s : Nat), es s])] w fun e w' => e = .returned (.tuple #[]) /\ ∃ g' cap', Hid (zQ w' rp g' cap' (d.push s) es) /\ Hid (Mod (fun k => k = rp \/ k = gh) w w') /\ Hid (g' = gh \/ w.heap.size <= g') := by
 obtain ⟨i0, hi, hz0, hz1, hz2⟩ := info_parts Tryz.infoR
 obtain ⟨x1, x2, x3, ex⟩ := hes
 have hc := h.cell
 have hfz : w.frozen? ⟨rp, 0, none⟩ = false := free_of_one h.box
 have hrp : rp < w.heap.size := (Array.getElem?_eq_some_iff.1 h.box).1
 have HPU : Hid (∀ w' g' cap', w'.ownsRow 0 165 2 (.slice (some ⟨g', 0, none⟩) (d.size + 1) cap') (d.size + 1) (yW es d.toList ++ [.int .i64 (s : Nat), es s]) -> (w.alloc (.cells #[.int .i64 (s : Nat), es s] 165)).drew.grownBy w' (some gh) -> (some gh = some g' \/ g' = w.heap.size + 1) ->
  zQ (w'.setCell ⟨rp, 0, none⟩ (.slice (some ⟨g', 0, none⟩) (d.size + 1) cap')) rp g' cap' (d.push s) es /\ Mod (fun k => k = rp \/ k = gh) w (w'.setCell ⟨rp, 0, none⟩ (.slice (some ⟨g', 0, none⟩) (d.size + 1) cap')) /\ (g' = gh \/ w.heap.size <= g')) := zB fun w' g' cap' h1 h2 h3 => h.pushed h1 h2 h3
 have HOWN : Hid ((w.alloc (.cells #[.int .i64 (s : Nat), es s] 165)).drew.ownsRow 0 165 2 (.slice (some ⟨gh, 0, none⟩) d.size cap) d.size (yW es d.toList)) := zB (h.row.alloc _)
 have HFA : Hid (∀ w', (w.alloc (.cells #[.int .i64 (s : Nat), es s] 165)).drew.grownBy w' (some gh) -> w'.cell? ⟨rp, 0, none⟩ = some (.slice (some ⟨gh, 0, none⟩) d.size cap) /\ w'.frozen? ⟨rp, 0, none⟩ = false) := zB (by
  intro w' hg
  have h1 := (mod_grown hg).out rp (by simp; omega) h.ne
  have h2 : w'.heap[rp]? = some (.cells #[.slice (some ⟨gh, 0, none⟩) d.size cap] 213 (0, 0)) := h1.trans ((((Below.refl w.heap.size w).alloc (Nat.le_refl _) _).block rp hrp).trans h.box)
  exact ⟨cell_of_one h2, free_of_one h2⟩)
 have HNEW : Hid (∀ j u, [Value.int .i64 (s : Nat), es s][j]? = some u -> (w.alloc (.cells #[.int .i64 (s : Nat), es s] 165)).drew.cell? ((⟨w.heap.size, 0, none⟩ : Addr).add j) = some u) := zB (World.news_of_block (row_new (w := w)))
 clear h
 rw [ex] at HPU HOWN HFA HNEW ⊢
 generalize hrv : yW es d.toList = rv at *
 generalize hdp : d.push s = d2 at *
 generalize hdm : d.size = m at *
 have hta := assertRow
 clear hrv hdp hdm ex
 go_enter Tryz.func210, Tryz.ntmps210
 go_wp2
 go_region_law (refine step_append_lies _ rfl (.tmp 7) (.tmp 10) 213 rfl 0 165 i0 _ 2 32 Tryz.underlying213 hi hz0 hz1 hz2 rfl (by decide) _ m rv (by simp [Act.eval]) (zA HOWN) ⟨w.heap.size, 0, none⟩ 1 1 [.int .i64 (s : Nat), .slice (some ⟨x1, 0, none⟩) x2 x3] (by simp [Act.eval]) rfl (zA HNEW) (by intro u hu; simp at hu; rcases hu with rfl | rfl <;> rfl) (by omega) (by unfold maxLen; omega) (by omega) (by simp) _ rfl ?_; intro g' cap' w' hown' hgrow hat hlt'; have HOW := zB hown'; have HGW := zB hgrow; have HAW := zB hat; obtain ⟨f0, f1⟩ := zA HFA w' hgrow; clear hown' hgrow hat)
 all_goals go_wp2
 all_goals go_end0
 all_goals
  obtain ⟨k1, k2, k3⟩ := zA HPU _ _ _ (zA HOW) (zA HGW) (by simpa [Value.ownBlock] using zA HAW)
  exact ⟨rfl, _, _, zB k1, zB k2, zB k3⟩
end Go.Proofs.YtfpohfifdfbpkaaGreatDoor
namespace Go.Proofs.YtfpohfifdfbpkaaGreatDoor
open Go.RowKit Scour Go.Lib Go.Shelf Go.Sort
section
variable {α : Type} [Inhabited α]
theorem heapPop_spec {lt : α -> α -> Bool} (hS : SWO lt) {d : Array α} {m : Nat} (hm : d.size = m + 1) (h : HeapD lt (m + 1) d) :
  (siftDown lt m 0 0 (swp d 0 m)).size = m + 1 /\ (siftDown lt m 0 0 (swp d 0 m))[m]! = d[0]! /\ HeapD lt m (siftDown lt m 0 0 (swp d 0 m)).pop /\ ((siftDown lt m 0 0 (swp d 0 m)).pop.toList ++ [d[0]!]).Perm d.toList /\ (∀ s, s ∈ d.toList -> lt d[0]! s = false) := by
 have hs0 : (swp d 0 m).size = m + 1 := by rw [size_swp]; exact hm
 have g0 : ∀ k, 0 < k -> k < m -> (swp d 0 m)[k]! = d[k]! := fun k h1 h2 => swp_other d 0 m k (by omega) (by omega)
 have hov := sift hS m 0 0 m 0 (swp d 0 m) (by omega) (by omega) (Nat.le_refl _) (by
  intro i _ him hi0 k hk hkm
  have := h k (by omega) (by omega)
  rw [show (k - 1) / 2 = i by omega] at this
  rw [Nat.zero_add, Nat.zero_add, g0 i (by omega) him, g0 k (by omega) hkm]
  exact this) (by intro p _ hp; omega)
 obtain ⟨h1, h2⟩ := hov
 rw [Nat.zero_add] at h2
 have hz : (siftDown lt m 0 0 (swp d 0 m)).size = m + 1 := h2.1.trans hs0
 have hem : (siftDown lt m 0 0 (swp d 0 m))[m]! = d[0]! := by
  rw [h2.2.1 m (Or.inr (Nat.le_refl _)), swp_right d 0 m (by omega)]
 refine ⟨hz, hem, ?_, ?_, ?_⟩
 ·have h3 := HeapD.of_ok (fun i hi => h1 i (Nat.zero_le _) hi)
  intro k hk hkm
  have := h3 k hk hkm
  have gp : ∀ x, x < m -> (siftDown lt m 0 0 (swp d 0 m)).pop[x]! = (siftDown lt m 0 0 (swp d 0 m))[x]! := fun x hx => by
   rw [getElem!_pos (siftDown lt m 0 0 (swp d 0 m)).pop x (by rw [Array.size_pop]; omega), getElem!_pos (siftDown lt m 0 0 (swp d 0 m)) x (by omega)]
   simp
  rw [gp _ (by omega), gp _ hkm]
  exact this
 ·have e1 : (siftDown lt m 0 0 (swp d 0 m)).pop.toList ++ [d[0]!] = (siftDown lt m 0 0 (swp d 0 m)).toList := by
   rw [← hem, getElem!_pos _ m (by omega), Array.toList_pop]
   have hne : (siftDown lt m 0 0 (swp d 0 m)).toList ≠ [] := by
    intro e
    have := congrArg List.length e
    simp [hz] at this
   have hl := List.dropLast_concat_getLast hne
   conv => rhs; rw [← hl]
   congr 2
   rw [List.getLast_eq_getElem]
   simp [hz]
  rw [e1]
  have p2 := (permIn_mono _ _ 0 m 0 (m + 1) (Nat.le_refl _) (by omega) (by omega) h2).2.2
  have p1 := (swp_permIn d 0 (m + 1) 0 m (Nat.le_refl _) (by omega) (by omega) (by omega) (by omega)).2.2
  have q1 : (siftDown lt m 0 0 (swp d 0 m)).extract 0 (m + 1) = siftDown lt m 0 0 (swp d 0 m) := by rw [← hz]; simp
  have q2 : (swp d 0 m).extract 0 (m + 1) = swp d 0 m := by rw [← hs0]; simp
  have q3 : d.extract 0 (m + 1) = d := by rw [← hm]; simp
  rw [q1, q2] at p2
  rw [q2, q3] at p1
  exact p2.trans p1
 ·intro s hs
  obtain ⟨i, hi, e⟩ := List.getElem_of_mem hs
  have hi2 : i < d.size := by simpa using hi
  have := root_max hS (hi := m + 1) (F := 0) (d := d) h.ok i i (Nat.le_refl _) (by omega)
  rw [Nat.zero_add, Nat.zero_add, getElem!_pos d i hi2] at this
  rw [← e]
  simpa using this
end
theorem HOK.perm {L : Nat -> List (Nat × Nat)} {es : Nat -> Value} {n : Nat} {d d2 : Array Nat} (h : HOK L es n d) (hm : ∀ s, s ∈ d2.toList -> s ∈ d.toList) (hs : d2.size < 10000) : HOK L es n d2 := ⟨h.es, fun s k => h.mem s (hm s k), h.n, hs⟩
set_option maxHeartbeats 8000000 in
set_option maxRecDepth 100000 in
theorem hpush_any (L : Nat -> List (Nat × Nat)) (rp gh cap n : Nat) (d : Array Nat) (es : Nat -> Value) (w : World) (h : zQ w rp gh cap d es) (s : Nat) (hK : HOK L es n (d.push s)) :
  Calls Tryz.prog 119 #[.iface 160 (.pointer (some ⟨rp, 0, none⟩)), .iface 165 (.agg #[.int .i64 (s : Nat), es s])] w fun e w' => e = .returned (.tuple #[]) /\ ∃ g' cap', Hid (zQ w' rp g' cap' (heapPush (hlt L) d s) es) /\ Hid (Mod (fun k => k = rp \/ k = gh) w w') /\ Hid (g' = gh \/ w.heap.size <= g') := by
 have hsz : (d.push s).size = d.size + 1 := by simp
 have hsl := hK.size
 have hmb : d.size < 10000 := by omega
 have HP := zB (rpush_any rp gh cap d es w h s (hK.form s (by simp)) (by omega))
 have HU : Hid (∀ W g' cap', zQ W rp g' cap' (d.push s) es -> Calls Tryz.prog 145 #[.iface 160 (.pointer (some ⟨rp, 0, none⟩)), .int .i64 d.size] W fun e w' => e = .returned (.tuple #[]) /\ Hid (zQ w' rp g' cap' (heapPush (hlt L) d s) es) /\ Hid (Mod (fun k => k = g') W w')) := zB fun W g' cap' hW => up_any L rp g' cap' n (d.size + 1) (d.push s) es W hW hK hsz d.size (by omega)
 have HLN := zB rlen_any
 have hmp := mPush rp w
 have HML : Hid (∀ W g' cap', zQ W rp g' cap' (d.push s) es -> ∀ f, (method (f + 1) 160 (.pointer (some ⟨rp, 0, none⟩)) "Len").run Tryz.prog W = .ok (77, .slice (some ⟨g', 0, none⟩) (d.size + 1) cap') W) := zB (by
  intro W g' cap' hW f
  have := mLen rp _ W hW.cell f
  rw [hsz] at this
  exact this)
 clear h hsz
 generalize es s = ess at *
 generalize d.push s = d2 at *
 generalize heapPush (hlt L) d s = d3 at *
 generalize d.size = m at *
 have hsb : ((m + 1 : Nat) : Int) - 1 = (m : Int) := by omega
 have hsb2 : (m : Int) + 1 - 1 = (m : Int) := by omega
 go_enter Tryz.func119, Tryz.ntmps119
 go_wp2_with (first | (go_at_call 210; refine (zA HP).mono ?_; rintro e w1 ⟨rfl, g1, c1, H1, M1, G1⟩; have hml := zA HML w1 g1 c1 (zA H1)) | (go_at_call 77; refine (zA HLN _ _ _ _).mono ?_; rintro e w' ⟨rfl, hw'⟩; obtain rfl := hw'.symm) | (go_at_call 145; refine (zA HU w1 g1 c1 (zA H1)).mono ?_; rintro e w2 ⟨rfl, H2, M2⟩))
 go_end0
 refine ⟨rfl, g1, c1, H2, zB ((zA M1).trans (zA M2) (fun b hb e => ?_)), G1⟩
 rcases zA G1 with e1 | e1
 ·exact Or.inr (e.trans e1)
 ·omega
end Go.Proofs.YtfpohfifdfbpkaaGreatDoor
namespace Go.Proofs.YtfpohfifdfbpkaaGreatDoor
open Go.RowKit Scour Go.Lib Go.Shelf Go.Sort
theorem Mod.imp {P Q : Nat -> Prop} {w w' : World} (h : Mod P w w') (hPQ : ∀ k, P k -> Q k) : Mod Q w w' := ⟨h.os, h.tape, h.output, h.size, fun k hk hn => h.out k hk (fun p => hn (hPQ k p))⟩
set_option maxHeartbeats 8000000 in
set_option maxRecDepth 100000 in
theorem hpop_any (L : Nat -> List (Nat × Nat)) (rp gh cap n m : Nat) (d : Array Nat) (es : Nat -> Value) (w : World) (h : zQ w rp gh cap d es) (hK : HOK L es n d) (hm : d.size = m + 1) (hH : HeapD (hlt L) (m + 1) d) :
  Calls Tryz.prog 79 #[.iface 160 (.pointer (some ⟨rp, 0, none⟩))] w fun e w' => e = .returned (.iface 165 (.agg #[.int .i64 (d[0]! : Nat), es d[0]!])) /\ Hid (zQ w' rp gh cap (siftDown (hlt L) m 0 0 (swp d 0 m)).pop es) /\ Hid (Mod (fun k => k = rp \/ k = gh) w w') := by
 obtain ⟨q1, q2, _, q4, _⟩ := heapPop_spec (swo_hlt L) hm hH
 have hsl := hK.size
 have hmb : m < 10000 := by omega
 have hKs : HOK L es n (swp d 0 m) := hK.swp (by omega) (by omega)
 have hKe : HOK L es n (siftDown (hlt L) m 0 0 (swp d 0 m)) := by
  refine hK.perm (fun s hs => ?_) (by omega)
  have h0 := sift (swo_hlt L) m 0 0 m 0 (swp d 0 m) (by omega) (by rw [size_swp]; omega) (Nat.le_refl _) (by
   intro i _ him hi0 k hk hkm
   have := hH k (by omega) (by omega)
   rw [show (k - 1) / 2 = i by omega] at this
   rw [Nat.zero_add, Nat.zero_add, swp_other d 0 m i (by omega) (by omega), swp_other d 0 m k (by omega) (by omega)]
   exact this) (by intro p _ hp; omega)
  have p2 := (permIn_mono (swp d 0 m) (siftDown (hlt L) m 0 0 (swp d 0 m)) 0 m 0 (m + 1) (Nat.le_refl _) (by omega) (by rw [size_swp]; omega) (by rw [Nat.zero_add] at h0; exact h0.2)).2.2
  have q5 : (siftDown (hlt L) m 0 0 (swp d 0 m)).extract 0 (m + 1) = siftDown (hlt L) m 0 0 (swp d 0 m) := by rw [← q1]; simp
  have q6 : (swp d 0 m).extract 0 (m + 1) = swp d 0 m := by
   have : (swp d 0 m).size = m + 1 := by rw [size_swp]; exact hm
   rw [← this]; simp
  rw [q5, q6] at p2
  exact mem_swp (by omega) (by omega) (p2.mem_iff.1 hs)
 have HLN := zB rlen_any
 have hml := mLen rp _ w h.cell
 have hms := mSwap rp _ w h.cell
 rw [hm] at hml hms
 have hmp := mPop rp
 have HS : Hid (Calls Tryz.prog 211 #[.slice (some ⟨gh, 0, none⟩) (m + 1) cap, .int .i64 0, .int .i64 m] w fun e w' => e = .returned (.tuple #[]) /\ Hid (zQ w' rp gh cap (swp d 0 m) es) /\ Hid (Mod (fun k => k = gh) w w')) := zB (by
  have := rswap_any rp gh cap d es w h hK.form 0 m (by omega) (by omega) (by omega)
  rw [hm] at this
  exact this)
 have HD : Hid (∀ W, zQ W rp gh cap (swp d 0 m) es -> Calls Tryz.prog 122 #[.iface 160 (.pointer (some ⟨rp, 0, none⟩)), .int .i64 0, .int .i64 m] W fun e w' => ∃ v, e = .returned v /\ Hid (zQ w' rp gh cap (siftDown (hlt L) m 0 0 (swp d 0 m)) es) /\ Hid (Mod (fun k => k = gh) W w')) := zB fun W hW => down_any L rp gh cap n (m + 1) m (swp d 0 m) es W hW hKs (by rw [size_swp]; exact hm) (by omega)
 have HP : Hid (∀ W, zQ W rp gh cap (siftDown (hlt L) m 0 0 (swp d 0 m)) es -> Calls Tryz.prog 209 #[.pointer (some ⟨rp, 0, none⟩)] W fun e w' => e = .returned (.iface 165 (.agg #[.int .i64 (d[0]! : Nat), es d[0]!])) /\ Hid (zQ w' rp gh cap (siftDown (hlt L) m 0 0 (swp d 0 m)).pop es) /\ Hid (Mod (fun k => k = rp) W w')) := zB (by
  intro W hW
  have := rpop_any rp gh cap (siftDown (hlt L) m 0 0 (swp d 0 m)) es W hW hKe.form m q1 (by omega)
  rw [q2] at this
  exact this)
 clear h hK hKs hKe hm hH q1 q2 q4
 generalize es d[0]! = ess at *
 generalize d[0]! = d0 at *
 generalize swp d 0 m = d1 at *
 generalize siftDown (hlt L) m 0 0 d1 = d2 at *
 generalize d2.pop = d3 at *
 have hsb : ((m + 1 : Nat) : Int) - 1 = (m : Int) := by omega
 have hsb2 : (m : Int) + 1 - 1 = (m : Int) := by omega
 go_enter Tryz.func79, Tryz.ntmps79
 go_wp2_with (first | (go_at_call 77; refine (zA HLN _ _ _ _).mono ?_; rintro e w' ⟨rfl, hw'⟩; obtain rfl := hw'.symm) | (go_at_call 211; refine (zA HS).mono ?_; rintro e w1 ⟨rfl, H1, M1⟩) | (go_at_call 122; refine (zA HD w1 (zA H1)).mono ?_; rintro e w2 ⟨vv, rfl, H2, M2⟩) | (go_at_call 209; refine (zA HP w2 (zA H2)).mono ?_; rintro e w3 ⟨rfl, H3, M3⟩))
 go_ret
 have m1 : Mod (fun k => k = rp \/ k = gh) w w2 := ((zA M1).trans (zA M2) (fun _ _ e => e)).imp (fun _ e => Or.inr e)
 exact ⟨rfl, H3, zB (m1.trans (zA M3) (fun _ _ e => Or.inl e))⟩
end Go.Proofs.YtfpohfifdfbpkaaGreatDoor
namespace Go.Proofs.YtfpohfifdfbpkaaGreatDoor
open Go.RowKit Scour Go.Lib
structure zw (w0 w : World) (bk o : Nat) (cs : Array Value) (ty e sz : Nat) (v0 v : Value) (n : Nat) (xs : List Value) : Prop where
 blk : w.heap[bk]? = some (.cells (cs.setIfInBounds o v) ty (0, 0))
 row : w.ownsRow 0 e sz v n xs
 os : w.os = w0.os
 tape : w.tape = w0.tape
 output : w.output = w0.output
 size : w0.heap.size <= w.heap.size
 frame : ∀ k, k < w0.heap.size -> k ≠ bk -> v0.ownBlock ≠ some k -> w.heap[k]? = w0.heap[k]?
 lies : v.ownBlock = v0.ownBlock \/ ∀ b, v.ownBlock = some b -> w0.heap.size <= b
theorem zw.start {w : World} {bk o : Nat} {cs : Array Value} {ty e sz : Nat} {v : Value} {n : Nat} {xs : List Value} (hb : w.heap[bk]? = some (.cells cs ty (0, 0))) (hc : cs[o]? = some v) (hr : w.ownsRow 0 e sz v n xs) : zw w w bk o cs ty e sz v v n xs := by
 refine ⟨?_, hr, rfl, rfl, rfl, Nat.le_refl _, fun _ _ _ _ => rfl, Or.inl rfl⟩
 rw [hb]
 congr 2
 apply Array.ext_getElem?
 intro j
 rw [Array.getElem?_setIfInBounds]
 split
 ·rename_i h; subst h
  have hl := (Array.getElem?_eq_some_iff.1 hc).1
  rw [if_pos hl, hc]
 ·rfl
theorem zw.cell {w0 w : World} {bk o : Nat} {cs : Array Value} {ty e sz : Nat} {v0 v : Value} {n : Nat} {xs : List Value} (h : zw w0 w bk o cs ty e sz v0 v n xs) (ho : o < cs.size) : w.cell? ⟨bk, o, none⟩ = some v := by
 rw [zC h.blk, Array.getElem?_setIfInBounds, if_pos rfl, if_pos ho]
theorem zw.ne {w0 w : World} {bk o : Nat} {cs : Array Value} {ty e sz : Nat} {v0 v : Value} {n : Nat} {xs : List Value} (h : zw w0 w bk o cs ty e sz v0 v n xs) (hty : ty ≠ e) : v.ownBlock ≠ some bk := by
 intro hv
 rcases h.row.2 with ⟨rfl, _⟩ | ⟨g, cap, cur, rfl, _, hg, _⟩
 ·cases hv
 ·have : g = bk := by simpa [Value.ownBlock] using hv
  rw [this, h.blk] at hg
  simp only [Option.some.injEq, Obj.cells.injEq] at hg
  exact hty hg.2.1
theorem zw.ready {w0 w : World} {bk o : Nat} {cs : Array Value} {ty e sz : Nat} {v0 v : Value} {n : Nat} {xs : List Value} (h : zw w0 w bk o cs ty e sz v0 v n xs) (xc : Array Value) (H : Nat) (hH : w.heap.size = H) :
  (w.alloc (.cells xc e)).ownsRow 0 e sz v n xs /\ ∀ j u, xc.toList[j]? = some u -> (w.alloc (.cells xc e)).cell? ((⟨H, 0, none⟩ : Addr).add j) = some u := by
 subst hH
 exact ⟨h.row.alloc _, World.news_of_block (heap_alloc_new w _)⟩
theorem zw.behind {w0 w w1 : World} {bk o : Nat} {cs : Array Value} {ty e sz : Nat} {v0 v : Value} {n : Nat} {xs : List Value} (h : zw w0 w bk o cs ty e sz v0 v n xs) (hty : ty ≠ e) (ho : o < cs.size) (xc : Array Value)
  (hg : (w.alloc (.cells xc e)).grownBy w1 v.ownBlock) : w1.cell? ⟨bk, o, none⟩ = some v /\ w1.frozen? ⟨bk, o, none⟩ = false := by
 have hl := (Array.getElem?_eq_some_iff.1 h.blk).1
 have hb1 : w1.heap[bk]? = some (.cells (cs.setIfInBounds o v) ty (0, 0)) := by
  rw [hg.block bk (by simp; omega) (fun e1 => h.ne hty e1.symm), Below.heap_alloc _ _ bk hl]; exact h.blk
 refine ⟨?_, frozen_of_row w1 _ _ _ _ hb1⟩
 rw [zC hb1, Array.getElem?_setIfInBounds, if_pos rfl, if_pos ho]
theorem zw.step {w0 w w1 : World} {bk o : Nat} {cs : Array Value} {ty e sz : Nat} {v0 v : Value} {n : Nat} {xs : List Value} (h : zw w0 w bk o cs ty e sz v0 v n xs) (hty : ty ≠ e) (xc : Array Value) {g' cap' m : Nat} (H : Nat) (hH : w.heap.size = H)
  (hr : w1.ownsRow 0 e sz (.slice (some ⟨g', 0, none⟩) (n + m) cap') (n + m) (xs ++ xc.toList)) (hg : (w.alloc (.cells xc e)).grownBy w1 v.ownBlock) (hat : v.ownBlock = some g' \/ g' = H + 1) :
  zw w0 (w1.setCell ⟨bk, o, none⟩ (.slice (some ⟨g', 0, none⟩) (n + m) cap')) bk o cs ty e sz v0 (.slice (some ⟨g', 0, none⟩) (n + m) cap') (n + m) (xs ++ xc.toList) := by
 subst hH
 have hl := (Array.getElem?_eq_some_iff.1 h.blk).1
 have hb1 : w1.heap[bk]? = some (.cells (cs.setIfInBounds o v) ty (0, 0)) := by
  rw [hg.block bk (by simp; omega) (fun e1 => h.ne hty e1.symm), Below.heap_alloc _ _ bk hl]; exact h.blk
 have hs1 := hg.size
 simp only [World.alloc, Array.size_push] at hs1
 have hgne : g' ≠ bk := by
  rcases hat with e1 | e1
  ·intro e2; subst e2; exact h.ne hty e1
  ·omega
 refine ⟨?_, ?_, hg.os.trans h.os, hg.tape.trans h.tape, hg.output.trans h.output, ?_, ?_, ?_⟩
 ·rw [heap_setCell_same w1 _ _ _ _ _ hb1]
  congr 2
  apply Array.ext_getElem?
  intro j
  simp only [Array.getElem?_setIfInBounds, Array.size_setIfInBounds]
  split
  ·rfl
  ·rfl
 ·exact yp hr (Below.heap_setCell w1 _ _ g' hgne)
 ·have := h.size
  simp [World.setCell]; omega
 ·intro k hk hkb hv0
  have hkw := Nat.lt_of_lt_of_le hk h.size
  rw [Below.heap_setCell w1 _ _ k hkb, hg.block k (by simp; omega) (fun e1 => ?_), Below.heap_alloc _ _ k hkw]
  ·exact h.frame k hk hkb hv0
  ·rcases h.lies with e2 | e2
   ·exact hv0 (e2.symm.trans e1.symm)
   ·have := e2 k e1.symm; omega
 ·rcases hat with e1 | e1
  ·rcases h.lies with e2 | e2
   ·left; rw [← e2, e1]; rfl
   ·right
    intro b hb
    have : g' = b := by simpa [Value.ownBlock] using hb
    exact e2 b (by rw [e1, this])
  ·right
   intro b hb
   have : g' = b := by simpa [Value.ownBlock] using hb
   have := h.size
   omega
theorem zH {w : World} {g k : Nat} {c1 c2 : Array Value} {t1 t2 : Nat} (h1 : w.heap[g]? = some (.cells c1 t1 (0, 0))) (h2 : w.heap[k]? = some (.cells c2 t2 (0, 0))) (hne : t1 ≠ t2) : g ≠ k := by
 intro e; subst e
 rw [h1] at h2
 simp only [Option.some.injEq, Obj.cells.injEq] at h2
 exact hne h2.2.1
theorem zD {w : World} {base e s n : Nat} {v : Value} {xs : List Value} (h : w.ownsRow base e s v n xs) {b : Nat} (hb : v.ownBlock = some b) : ∃ cur, w.heap[b]? = some (.cells cur e (0, 0)) := by
 rcases h.2 with ⟨rfl, _⟩ | ⟨g, cap, cur, rfl, _, hg, _⟩
 ·cases hb
 ·have : g = b := by simpa [Value.ownBlock] using hb
  rw [← this]; exact ⟨cur, hg⟩
end Go.Proofs.YtfpohfifdfbpkaaGreatDoor
