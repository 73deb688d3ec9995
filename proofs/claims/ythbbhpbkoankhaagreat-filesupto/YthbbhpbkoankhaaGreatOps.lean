import Derived.Test.YthbbhpbkoankhaaGreatRows
import Derived.Test.YthbbhpbkoankhaaGreatStep
import Derived.WalkKit
import Derived.ProofKit
import Derived.OpenShut
import Derived.ShutString
import Derived.ChangeOld
import Derived.Below
import Derived.SliceStrings
import Derived.JoinedCond
namespace Go.Proofs.YthbbhpbkoankhaaGreat
open Go.ChangeShapes Go.WideShapes Go.ChangeAt Go.RowKit Scour

theorem bulk_mem {H : Type} {d : DataW H} : ∀ {l : List (DataW H)}, d ∈ l → Rows.uptoBulk d ≤ Rows.uptoBulkAll l
  | [], h => by cases h
  | x :: r, h => by
    simp only [Rows.uptoBulkAll]
    rcases List.mem_cons.1 h with rfl | h
    · omega
    · have := bulk_mem h; omega

set_option maxRecDepth 100000 in
theorem bulk_pos {H : Type} (d : DataW H) : 1 ≤ Rows.uptoBulk d := by
  cases d with
  | lit l => cases l <;> simp [Rows.uptoBulk]
  | _ => simp [Rows.uptoBulk]

theorem bulk_len {H : Type} : ∀ l : List (DataW H), l.length ≤ Rows.uptoBulkAll l
  | [] => by simp [Rows.uptoBulkAll]
  | x :: r => by
    have := bulk_pos x
    have := bulk_len r
    simp only [Rows.uptoBulkAll, List.length_cons]
    omega

theorem cells_get {w : World} {base n : Nat} {a : Addr} {cs : List Value} (h : w.cells? base a n = some cs) : ∀ j, j < n → w.cell? (a.add j) = cs[j]? := by
  intro j hj
  unfold World.cells? at h
  split at h
  · have := mapM_some_get h j j (by simp [hj])
    exact this
  · cases h

theorem bytes_eta (s : ByteArray) : (⟨s.data.toList.toArray⟩ : ByteArray) = s := by cases s; simp

set_option maxRecDepth 100000 in
theorem open_op {H : Type} {enc : TypeId × Value → H} {W : World} {sp : Nat → Bool} {hd : Bool} {fuel : Nat} {cs : List Value} {x : DataW H × List MemPlace} (h : DataW.trod enc Tryz.prog W 0 sp hd fuel 39 cs = some x) (hb : Rows.uptoBulk x.1 ≤ 1048576) :
    ∃ o : OpD, cs = o.vals ∧ o.OK W W.heap.size := by
  obtain ⟨xs, n, rfl, rfl, hl, hxs, hf⟩ := DataW.trod_struct Tryz.underlying39 h
  have hl5 : cs.length = 5 := hl.trans (by kernel_rfl)
  obtain ⟨c0, c1, c2, c3, c4, rfl⟩ : ∃ c0 c1 c2 c3 c4, cs = [c0, c1, c2, c3, c4] := by
    match cs, hl5 with
    | [c0, c1, c2, c3, c4], _ => exact ⟨c0, c1, c2, c3, c4, rfl⟩
  have hx5 : xs.length = 5 := hxs.trans rfl
  obtain ⟨y0, y1, y2, y3, y4, rfl⟩ : ∃ y0 y1 y2 y3 y4, xs = [y0, y1, y2, y3, y4] := by
    match xs, hx5 with
    | [c0, c1, c2, c3, c4], _ => exact ⟨c0, c1, c2, c3, c4, rfl⟩
  have f0 : DataW.trod enc Tryz.prog W 0 sp hd n 3 (([c0, c1, c2, c3, c4].drop 0).take (Tryz.prog.cellsOf 3)) = some y0 := hf 0 _ rfl
  have f1 : DataW.trod enc Tryz.prog W 0 sp hd n 3 (([c0, c1, c2, c3, c4].drop 1).take (Tryz.prog.cellsOf 3)) = some y1 := hf 1 _ rfl
  have f2 : DataW.trod enc Tryz.prog W 0 sp hd n 3 (([c0, c1, c2, c3, c4].drop 2).take (Tryz.prog.cellsOf 3)) = some y2 := hf 2 _ rfl
  have f3 : DataW.trod enc Tryz.prog W 0 sp hd n 9 (([c0, c1, c2, c3, c4].drop 3).take (Tryz.prog.cellsOf 9)) = some y3 := hf 3 _ rfl
  have f4 : DataW.trod enc Tryz.prog W 0 sp hd n 37 (([c0, c1, c2, c3, c4].drop 4).take (Tryz.prog.cellsOf 37)) = some y4 := hf 4 _ rfl
  clear hf
  have e0 : Tryz.prog.cellsOf 3 = 1 := by kernel_rfl
  have e3 : Tryz.prog.cellsOf 9 = 1 := by kernel_rfl
  have e4 : Tryz.prog.cellsOf 37 = 1 := by kernel_rfl
  simp only [e0, e3, e4, List.drop, List.take] at f0 f1 f2 f3 f4
  obtain ⟨k, hk, _, _⟩ := DataW.trod_int Tryz.underlying3 f0
  obtain ⟨a, ha, _, wa⟩ := DataW.trod_int Tryz.underlying3 f1
  obtain ⟨b, hb2, _, _⟩ := DataW.trod_int Tryz.underlying3 f2
  obtain ⟨s, hs, hy3, _⟩ := DataW.trod_string Tryz.underlying9 f3
  obtain rfl : c0 = .int .i64 k := by simpa using hk
  obtain rfl : c1 = .int .i64 a := by simpa using ha
  obtain rfl : c2 = .int .i64 b := by simpa using hb2
  obtain rfl : c3 = .string s := by simpa using hs
  have hab := bounds_i64 wa
  simp only [Rows.uptoBulk, List.map, Rows.uptoBulkAll] at hb
  have hss : s.size < 1000000000000 := by
    rw [hy3] at hb
    simp only [Rows.uptoBulk] at hb
    have : s.data.toList.length = s.size := by simp
    omega
  rcases open_strings Tryz.underlying37 Tryz.underlying9 e3 f4 with ⟨hcs, _⟩ | ⟨x, l, c, ss, hcs, _, hl, hm, hz, hy4, hcell, hws⟩
  · obtain rfl : c4 = .slice none 0 0 := by simpa using hcs
    exact ⟨⟨k, a, b, s, none, [], 0⟩, rfl, ⟨by omega, hss, fun h => absurd h (Nat.lt_irrefl _), fun _ => ⟨rfl, rfl⟩, Nat.zero_le _, fun i h => absurd h (Nat.not_lt_zero _)⟩⟩
  · obtain rfl : c4 = .slice (some x) l c := by simpa using hcs
    have hll : l ≤ ss.length := by rw [hz]; split <;> omega
    have hb4 : Rows.uptoBulk y4.1 ≤ 1048576 := by omega
    rw [hy4] at hb4
    simp only [Rows.uptoBulk] at hb4
    have hlen := bulk_len (strs (H := H) (ss.take l))
    rw [show (strs (H := H) (ss.take l)).length = l by simp [strs]; omega] at hlen
    have htl : ((ss.take l).map (fun t => t.data.toList)).length = l := by simp; omega
    have hpat : ∀ i, i < l → pat ((ss.take l).map (fun t => t.data.toList)) i = (ss.getD i ByteArray.empty).data.toList := fun i hi => by
      simp [pat, List.getD, hi, show i < ss.length by omega]
    refine ⟨⟨k, a, b, s, some x, (ss.take l).map (fun t => t.data.toList), c⟩, ?_, ⟨by omega, hss, ?_, fun h => (by cases h), ?_, ?_⟩⟩
    · unfold OpD.vals; rw [htl]
    · intro h0
      rw [htl] at h0
      obtain ⟨b', off, spot⟩ := x
      have hc := hcell 0 (by omega)
      have hspot : spot = none := by simpa [Addr.add] using World.cell?_spot hc
      subst hspot
      refine ⟨b', off, ?_, rfl, fun i hi => ?_⟩
      · have := World.block_lt_of_cell? W _ hc
        rw [add_addr] at this
        exact this
      · have hi' : i < l := by rw [htl] at hi; exact hi
        have := hcell i (by omega)
        rw [add_addr] at this
        rw [this, hpat i hi', bytes_eta]
    · simp only [] at htl ⊢
      rw [htl]
      omega
    · intro i hi
      simp only [] at hi ⊢
      rw [htl] at hi
      rw [hpat i hi]
      have hmem : (DataW.lit (H := H) (.string (ss.getD i ByteArray.empty).data.toList)) ∈ strs (H := H) (ss.take l) := by
        unfold strs
        refine List.mem_map.2 ⟨ss.getD i ByteArray.empty, ?_, rfl⟩
        have : (ss.take l)[i]? = some (ss.getD i ByteArray.empty) := by simp [List.getD, hi, show i < ss.length by omega]
        exact List.mem_of_getElem? this
      have h1 := bulk_mem hmem
      simp only [Rows.uptoBulk] at h1
      omega

/-- A script in memory. -/
structure OpsIn (W : World) (ap : Option Addr) (ops : List OpD) : Prop where
  at' : 0 < ops.length → ∃ b o, b < W.heap.size ∧ ap = some ⟨b, o, none⟩ ∧ ∀ i p, ops[i]? = some p → ∀ j, j < 5 → W.cell? ⟨b, o + (i * 5 + j), none⟩ = p.vals[j]?
  ok : ∀ p, p ∈ ops → p.OK W W.heap.size
  len : ops.length ≤ 1048576

set_option maxRecDepth 100000 in
theorem open_ops {H : Type} {enc : TypeId × Value → H} {W : World} {sp : Nat → Bool} {hd : Bool} {fuel : Nat} {ap : Option Addr} {len cap : Nat} {x : DataW H × List MemPlace} (h : DataW.trod enc Tryz.prog W 0 sp hd fuel 22 [.slice ap len cap] = some x) (hb : Rows.uptoBulk x.1 ≤ 1048576) :
    ∃ ops : List OpD, ops.length = len ∧ OpsIn W ap ops ∧ (ap = none → cap = 0) := by
  rcases DataW.trod_slice Tryz.underlying22 h with ⟨h0, _⟩ | ⟨a, l, c, elems, rest, n, _, hcs, rfl, _, hlc, hm, hlen, hel, _, _⟩
  · obtain ⟨rfl, rfl, rfl⟩ : ap = none ∧ len = 0 ∧ cap = 0 := by simpa using h0
    exact ⟨[], rfl, ⟨fun h => absurd h (Nat.lt_irrefl _), fun p hp => absurd hp List.not_mem_nil, Nat.zero_le _⟩, fun _ => rfl⟩
  · obtain ⟨rfl, rfl, rfl⟩ : ap = some a ∧ len = l ∧ cap = c := by simpa using hcs
    have e5 : Tryz.prog.cellsOf 39 = 5 := by kernel_rfl
    rw [e5] at hel
    simp only [Rows.uptoBulk] at hb
    have hbl := bulk_len (elems.map (·.1))
    have hone : ∀ i, i < len → ∃ o : OpD, o.OK W W.heap.size ∧ ∀ j, j < 5 → W.cell? ((a.add (i * 5)).add j) = o.vals[j]? := by
      intro i hi
      have h1 := hel i hi
      rw [List.getElem?_eq_getElem (by omega), Option.bind_eq_some_iff] at h1
      obtain ⟨cs', hcs', ht⟩ := h1
      have hmem : (elems[i]'(by omega)).1 ∈ elems.map (·.1) := List.mem_map.2 ⟨_, List.getElem_mem _, rfl⟩
      have hb1 := bulk_mem hmem
      obtain ⟨o, rfl, hok⟩ := open_op ht (by omega)
      exact ⟨o, hok, cells_get hcs'⟩
    obtain ⟨f, hf⟩ : ∃ f : Nat → OpD, ∀ i, i < len → (f i).OK W W.heap.size ∧ ∀ j, j < 5 → W.cell? ((a.add (i * 5)).add j) = (f i).vals[j]? := by
      refine ⟨fun i => if hi : i < len then (hone i hi).choose else ⟨0, 0, 0, ByteArray.empty, none, [], 0⟩, fun i hi => ?_⟩
      simp only [dif_pos hi]
      exact (hone i hi).choose_spec
    refine ⟨(List.range len).map f, by simp, ⟨fun h0 => ?_, fun p hp => ?_, by simp only [List.length_map, List.length_range] at hbl ⊢; omega⟩, fun h => by cases h⟩
    · simp only [List.length_map, List.length_range] at h0
      obtain ⟨b, off, spot⟩ := a
      have hc := (hf 0 h0).2 0 (by omega)
      have hv : (f 0).vals[0]? = some (.int .i64 (f 0).k) := rfl
      rw [hv] at hc
      have hspot : spot = none := by simpa [Addr.add] using World.cell?_spot hc
      subst hspot
      refine ⟨b, off, ?_, rfl, fun i p hp j hj => ?_⟩
      · have := World.block_lt_of_cell? W _ hc
        simpa [Addr.add] using this
      · have hi : i < len := by
          have := (List.getElem?_eq_some_iff.1 hp).1
          simpa using this
        simp [hi] at hp
        have := (hf i hi).2 j hj
        rw [add_addr, add_addr] at this
        rw [← hp, ← this]
        congr 2
        omega
    · obtain ⟨i, hi, rfl⟩ := List.mem_map.1 hp
      exact (hf i (by simpa using hi)).1
end Go.Proofs.YthbbhpbkoankhaaGreat
