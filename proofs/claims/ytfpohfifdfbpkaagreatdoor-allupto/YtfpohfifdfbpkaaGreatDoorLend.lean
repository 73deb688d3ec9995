import Derived.Test.YtfpohfifdfbpkaaGreatDoorLawA
import Derived.Lib.BufferWrite
import Derived.Deep.OwnRows
import Derived.Test.YtfpohfifdfbpkaaGreatDoorBoth
namespace Go.Proofs.YtfpohfifdfbpkaaGreatDoor
open Go.RowKit Scour Go.Lib
def yM (s : Str) (k : Nat) : List Value := s.map zT ++ (List.replicate k (.int .u8 77) ++ List.replicate (8 - k) (.int .u8 0))
theorem lentL_len (s : Str) (k : Nat) (h : k <= 8) : (yM s k).length = s.length + 8 := by simp [yM]; omega
theorem lentL_set (s : Str) (k : Nat) (h : k < 8) : (yM s k).set (s.length + k) (.int .u8 77) = yM s (k + 1) := by
 unfold yM
 rw [List.set_append_right _ _ (by simp), List.set_append_right _ _ (by simp)]
 simp only [List.length_map, List.length_replicate]
 rw [show s.length + k - s.length - k = 0 by omega, show 8 - k = (8 - (k + 1)) + 1 by omega, List.replicate_succ, List.set_cons_zero, List.replicate_succ', List.append_assoc]
 rfl
theorem lentL_at (s : Str) (k : Nat) (h : k < 8) : (yM s k)[s.length + k]? = some (.int .u8 0) := by
 unfold yM
 rw [List.getElem?_append_right (by simp), List.getElem?_append_right (by simp)]
 simp only [List.length_map, List.length_replicate]
 rw [show s.length + k - s.length - k = 0 by omega, show 8 - k = (8 - (k + 1)) + 1 by omega, List.replicate_succ]
 rfl
theorem copied (s : Str) : ((madeCells #[Value.int .u8 0] (s.length + 8)).toList.take 0 ++ byteCells s ++ (madeCells #[Value.int .u8 0] (s.length + 8)).toList.drop (0 + s.length)) = yM s 0 := by
 rw [toList_madeCells_one]
 unfold yM byteCells zT
 simp
set_option maxHeartbeats 2000000 in
set_option maxRecDepth 100000 in
theorem lentBytes_any (s : Str) (w : World) (hs : s.length < 100000000) :
  Calls Tryz.prog 88 #[.string ⟨s.toArray⟩] w fun e w' => e = .returned (.slice (some ⟨w.heap.size, 0, none⟩) s.length (s.length + 8)) /\ w'.heap[w.heap.size]? = some (.cells (yM s 8).toArray 5 (0, 0)) /\ w'.heap.size = w.heap.size + 1 /\ Below w.heap.size w w' := by
 have hsz : (⟨s.toArray⟩ : ByteArray).size = s.length := by simp [ByteArray.size]
 have hmk : ∀ W : World, (Instr.makeSlice 27 (.int .i64 ((s.length : Int) + 8)) (.int .i64 ((s.length : Int) + 8))).run Tryz.prog W = .ok (.slice (some ⟨W.heap.size, 0, none⟩) (s.length + 8) (s.length + 8)) (W.alloc (.cells (madeCells #[.int .u8 0] (s.length + 8)) 5)) := fun W => by
  have := run_make_row' (P := Tryz.prog) 27 5 (.int .u8 0) 1 Tryz.underlying27 Tryz.infoB rfl .i64 .i64 (s.length + 8) (by omega) (by omega) W
  rw [show (((s.length + 8 : Nat) : Int)) = (s.length : Int) + 8 by omega] at this
  exact this
 have hcp : (Builtin.copy_ #[27, 9] 3 #[.slice (some ⟨w.heap.size, 0, none⟩) (s.length + 8) (s.length + 8), .string ⟨s.toArray⟩]).run Tryz.prog (w.alloc (.cells (madeCells #[.int .u8 0] (s.length + 8)) 5)) = .ok (goInt s.length) ((w.alloc (.cells (madeCells #[.int .u8 0] (s.length + 8)) 5)).setRow w.heap.size (yM s 0).toArray) := by
  have := run_copy_row_string (P := Tryz.prog) (w.alloc (.cells (madeCells #[.int .u8 0] (s.length + 8)) 5)) 27 9 3 5 w.heap.size 0 (s.length + 8) (s.length + 8) ⟨s.toArray⟩ _ 5 Tryz.underlying27 (by kernel_rfl) (heap_alloc_new w _) (by rw [hsz]; omega) (by rw [hsz]; simp [madeCells])
  rw [hsz] at this
  simp only [] at this
  rw [copied] at this
  exact this
 have hw2 : ((w.alloc (.cells (madeCells #[.int .u8 0] (s.length + 8)) 5)).setRow w.heap.size (yM s 0).toArray).heap[w.heap.size]? = some (.cells (yM s 0).toArray 5 (0, 0)) := setRow_heap _ _ _ _ _ _ (heap_alloc_new w _)
 obtain ⟨w2, e2⟩ : ∃ w2, w2 = (w.alloc (.cells (madeCells #[.int .u8 0] (s.length + 8)) 5)).setRow w.heap.size (yM s 0).toArray := ⟨_, rfl⟩
 have hb2 : Below w.heap.size w w2 /\ w2.heap.size = w.heap.size + 1 := by
  subst e2
  refine ⟨⟨rfl, rfl, rfl, by simp [World.setRow], fun k hk => ?_⟩, by simp [World.setRow]⟩
  simp only [World.setRow, Array.getElem?_modify]
  rw [if_neg (by omega)]
  exact Below.heap_alloc w _ k hk
 rw [← e2] at hw2 hcp
 have HW2 := zB hw2
 have HB2 := zB hb2
 clear e2 hw2 hb2
 generalize (⟨s.toArray⟩ : ByteArray) = ts at hsz hcp ⊢
 have hsn : ts.size < 100000000 := by omega
 have HSZ := zB hsz
 rw [← hsz] at hmk hcp
 rw [← hsz]
 clear hsz
 go_enter Tryz.func88, Tryz.ntmps88
 go_wp2
 go_loopw [5] (fun v wr => ∃ k : Nat, v = .int .i64 ((ts.size : Int) + k) /\ k <= 8 /\ Hid (wr.heap[w.heap.size]? = some (.cells (yM s k).toArray 5 (0, 0))) /\ Hid (Below w.heap.size w wr /\ wr.heap.size = w.heap.size + 1)) (fun v _ => ts.size + 8 - (intOf v).toNat)
 case atStart => exact ⟨0, by simp, Nat.zero_le _, HW2, HB2⟩
 case round =>
  obtain ⟨k, rfl, hk, HH, HB⟩ := hrel
  have hsz := zA HSZ
  by_cases hlt : k < 8
  ·have c0 : wr.cell? ⟨w.heap.size, ts.size + k, none⟩ = some (.int .u8 0) := by rw [zC (zA HH), hsz]; simp only [List.getElem?_toArray]; exact lentL_at s k hlt
   have f0 : wr.frozen? ⟨w.heap.size, ts.size + k, none⟩ = false := frozen_of_row wr _ _ _ _ (zA HH)
   have HH2 : Hid ((wr.setCell ⟨w.heap.size, ts.size + k, none⟩ (.int .u8 77)).heap[w.heap.size]? = some (.cells (yM s (k + 1)).toArray 5 (0, 0))) := zB (by
    rw [heap_setCell_same wr _ _ _ _ _ (zA HH), hsz, ← lentL_set s k hlt]; simp)
   have HB2' : Hid (Below w.heap.size w (wr.setCell ⟨w.heap.size, ts.size + k, none⟩ (.int .u8 77)) /\ (wr.setCell ⟨w.heap.size, ts.size + k, none⟩ (.int .u8 77)).heap.size = w.heap.size + 1) := zB ⟨(zA HB).1.setCell (Nat.le_refl _) _, by rw [← (zA HB).2]; simp [World.setCell]⟩
   clear hsz
   go_wp2
   go_roundw
   case rel => exact ⟨k + 1, by congr 1, hlt, HH2, HB2'⟩
   case measure => simp [intOf]; omega
  ·obtain rfl : k = 8 := by omega
   clear hsz
   go_wp2
   go_ret
   exact ⟨rfl, zA HH, (zA HB).2, (zA HB).1⟩
end Go.Proofs.YtfpohfifdfbpkaaGreatDoor
namespace Go.Proofs.YtfpohfifdfbpkaaGreatDoor
open Go.RowKit Scour Go.Lib
def overL (s : Str) (k : Nat) : List Value := List.replicate k (.int .u8 1) ++ (yM s 8).drop k
theorem overL_len (s : Str) (k : Nat) (h : k <= s.length + 8) : (overL s k).length = s.length + 8 := by
 have := lentL_len s 8 (Nat.le_refl _)
 simp [overL, this]; omega
theorem overL_set (s : Str) (k : Nat) (h : k < s.length + 8) : (overL s k).set k (.int .u8 1) = overL s (k + 1) := by
 have hl := lentL_len s 8 (Nat.le_refl _)
 unfold overL
 rw [List.set_append_right _ _ (by simp)]
 simp only [List.length_replicate, Nat.sub_self]
 rw [List.drop_eq_getElem_cons (by omega), List.set_cons_zero, List.replicate_succ', List.append_assoc]
 rfl
theorem overL_at (s : Str) (k : Nat) (_h : k < s.length + 8) : (overL s k)[k]? = (yM s 8)[k]? := by
 unfold overL
 rw [List.getElem?_append_right (by simp)]
 simp
theorem lentL_low (s : Str) (k : Nat) (h : k < s.length) : (yM s 8)[k]? = some (.int .u8 (s.getD k 0).toNat) := by
 unfold yM
 rw [List.getElem?_append_left (by simpa using h)]
 simp [zT, List.getD, h]
theorem lentL_high (s : Str) (k : Nat) (h : s.length <= k) (h2 : k < s.length + 8) : (yM s 8)[k]? = some (.int .u8 77) := by
 unfold yM
 rw [List.getElem?_append_right (by simpa using h), List.getElem?_append_left (by simp; omega), List.getElem?_replicate, if_pos (by simp; omega)]
set_option maxHeartbeats 2000000 in
set_option maxRecDepth 100000 in
theorem wholeBytes_any (g : Nat) (s : Str) (w : World) (hs : s.length < 100000000) (hg : w.heap[g]? = some (.cells (yM s 8).toArray 5 (0, 0))) :
  Calls Tryz.prog 90 #[.slice (some ⟨g, 0, none⟩) s.length (s.length + 8), .string ⟨s.toArray⟩] w fun e w' => e = .returned (.bool true) /\ w'.heap[g]? = some (.cells (overL s (s.length + 8)).toArray 5 (0, 0)) /\ w.grownBy w' (some g) := by
 have hsz : (⟨s.toArray⟩ : ByteArray).size = s.length := by simp [ByteArray.size]
 have hcv : (convert 27 9 (.slice (some ⟨g, 0, none⟩) s.length (s.length + 8))).run Tryz.prog w = .ok (.string ⟨s.toArray⟩) w := conv_back (fun j hj => by rw [Nat.zero_add, zC hg]; simp only [List.getElem?_toArray]; exact lentL_low s j hj)
 have HG := zB hg
 clear hg
 generalize (⟨s.toArray⟩ : ByteArray) = ts at hsz hcv ⊢
 rw [← hsz] at hcv hs ⊢
 have HSZ := zB hsz
 clear hsz
 go_enter Tryz.func90, Tryz.ntmps90
 go_wp2
 go_loopw [7, 8] (fun v7 v8 wr => ∃ k : Nat, v7 = .bool true /\ v8 = .int .i64 k /\ k <= ts.size + 8 /\ Hid (wr.heap[g]? = some (.cells (overL s k).toArray 5 (0, 0))) /\ Hid (w.grownBy wr (some g))) (fun _ v _ => ts.size + 8 - (intOf v).toNat)
 case atStart => exact ⟨0, rfl, rfl, Nat.zero_le _, HG, zB ⟨rfl, rfl, rfl, Nat.le_refl _, fun _ _ _ => rfl⟩⟩
 case round =>
  obtain ⟨k, rfl, rfl, hk, HH, HB⟩ := hrel
  have hsz := zA HSZ
  by_cases hlt : k < ts.size + 8
  ·have c0 := zC (j := k) (zA HH)
   simp only [List.getElem?_toArray] at c0
   rw [overL_at s k (by omega)] at c0
   have f0 : wr.frozen? ⟨g, k, none⟩ = false := frozen_of_row wr _ _ _ _ (zA HH)
   have HH2 : Hid ((wr.setCell ⟨g, k, none⟩ (.int .u8 1)).heap[g]? = some (.cells (overL s (k + 1)).toArray 5 (0, 0))) := zB (by
    rw [heap_setCell_same wr _ _ _ _ _ (zA HH), ← overL_set s k (by omega)]; simp)
   have HB2 : Hid (w.grownBy (wr.setCell ⟨g, k, none⟩ (.int .u8 1)) (some g)) := zB ⟨(zA HB).os, (zA HB).tape, (zA HB).output, by have := (zA HB).size; simpa [World.setCell] using this, fun i hi hn => (Below.heap_setCell wr _ _ i (fun e => hn (by rw [e]))).trans ((zA HB).block i hi hn)⟩
   by_cases hlo : k < ts.size
   ·rw [lentL_low s k (by omega)] at c0
    have i1 : (k : Int) < (ts.size : Int) := by omega
    generalize (s.getD k 0).toNat = y at c0
    clear hsz
    go_wp2
    go_roundw
    case rel => exact ⟨k + 1, rfl, by go_num, hlt, HH2, HB2⟩
    case measure => simp [intOf]; omega
   ·rw [lentL_high s k (by omega) (by omega)] at c0
    have i1 : ¬ (k : Int) < (ts.size : Int) := by omega
    clear hsz
    go_wp2
    go_roundw
    case rel => exact ⟨k + 1, rfl, by go_num, hlt, HH2, HB2⟩
    case measure => simp [intOf]; omega
  ·obtain rfl : k = ts.size + 8 := by omega
   clear hsz
   go_wp2
   go_ret
   exact ⟨rfl, zA HH, zA HB⟩
end Go.Proofs.YtfpohfifdfbpkaaGreatDoor
namespace Go.Proofs.YtfpohfifdfbpkaaGreatDoor
open Go.RowKit Scour Go.Lib
def beyondS : Str := [98, 101, 121, 111, 110, 100]
def bs (ts : List Str) : List Str := ts ++ List.replicate 8 beyondS
theorem bs_len (ts : List Str) : (bs ts).length = ts.length + 8 := by simp [bs]
theorem bs_low (ts : List Str) (i : Nat) (h : i < ts.length) : pat (bs ts) i = pat ts i := yy h
theorem bs_high (ts : List Str) (i : Nat) (h : ts.length <= i) (h2 : i < ts.length + 8) : pat (bs ts) i = beyondS := by
 unfold pat bs
 rw [List.getD_eq_getElem?_getD, List.getElem?_append_right h, List.getElem?_replicate, if_pos (by omega)]
 rfl
def bc (ts : List Str) (i : Nat) : Nat := (pat (bs ts) i).length + 8
structure Lents (w : World) (base b0 : Nat) (vm : Value) (gs : Nat -> Nat) (ts : List Str) (k : Nat) : Prop where
 row : w.ownsRow base 27 1 (.slice (some ⟨b0, 0, none⟩) (ts.length + 8) (ts.length + 8)) (ts.length + 8) (outsF gs (bc ts) (bs ts) k)
 mine : w.ownsRow base 27 1 vm k ((outsF gs (bc ts) (bs ts) k).take k)
 each : ∀ i, i < k -> w.heap[gs i]? = some (.cells (yM (pat (bs ts) i) 8).toArray 5 (0, 0))
 apart : ∀ i j, i < k -> j < k -> gs i = gs j -> i = j
 ne : vm.ownBlock ≠ some b0
 ges : ∀ i, i < k -> base <= gs i
theorem updN_same (f : Nat -> Nat) (i : Nat) : updN f i (f i) = f := by
 funext k; unfold updN; split
 ·rename_i h; rw [h]
 ·rfl
theorem outsF_take (gs cs : Nat -> Nat) (ps : List Str) (k gb cb : Nat) (hk : k < ps.length) : (outsF (updN gs k gb) (updN cs k cb) ps (k + 1)).take (k + 1) = (outsF gs cs ps k).take k ++ [.slice (some ⟨gb, 0, none⟩) (pat ps k).length cb] := by
 rw [← outsF_set, List.take_succ_eq_append_getElem (by simp [yi]; omega)]
 rw [List.getElem_set_self]
 rw [List.take_set_of_le (Nat.le_refl _)]
theorem Lents.step {w w2 w4 : World} {base b0 k g' cap' : Nat} {vm : Value} {gs : Nat -> Nat} {ts : List Str} (h : Lents w base b0 vm gs ts k) (hk : k < ts.length + 8) (hbase : base <= w.heap.size) (hb : Below w.heap.size w w2)
  (hblk : w2.heap[w.heap.size]? = some (.cells (yM (pat (bs ts) k) 8).toArray 5 (0, 0)))
  (ho : w4.ownsRow base 27 1 (.slice (some ⟨g', 0, none⟩) (k + 1) cap') (k + 1) ((outsF gs (bc ts) (bs ts) k).take k ++ [.slice (some ⟨w.heap.size, 0, none⟩) (pat (bs ts) k).length (bc ts k)]))
  (hg : ((w2.setCell ⟨b0, k, none⟩ (.slice (some ⟨w.heap.size, 0, none⟩) (pat (bs ts) k).length (bc ts k))).alloc (.cells #[.slice (some ⟨w.heap.size, 0, none⟩) (pat (bs ts) k).length (bc ts k)] 27)).grownBy w4 vm.ownBlock) (hat : vm.ownBlock = some g' \/ g' = w2.heap.size + 1) :
  Lents w4 base b0 (.slice (some ⟨g', 0, none⟩) (k + 1) cap') (updN gs k w.heap.size) ts (k + 1) := by
 obtain ⟨cur0, hcur0⟩ := zK h.row
 have hb0 := (Array.getElem?_eq_some_iff.1 hcur0).1
 have hl2 := (Array.getElem?_eq_some_iff.1 hblk).1
 have hw2 := hb.size
 generalize hv : (Value.slice (some ⟨w.heap.size, 0, none⟩) (pat (bs ts) k).length (bc ts k)) = v at ho hg
 have hsame : ∀ j, j ≠ b0 -> j < w2.heap.size -> ((w2.setCell ⟨b0, k, none⟩ v).alloc (.cells #[v] 27)).heap[j]? = w2.heap[j]? := fun j hj hl => (Below.heap_alloc _ _ j (by simpa [World.setCell] using hl)).trans (Below.heap_setCell w2 _ _ j hj)
 have hne : ∀ {b : Nat} {s : Str}, w2.heap[b]? = some (.cells (yM s 8).toArray 5 (0, 0)) -> b ≠ b0 /\ some b ≠ vm.ownBlock := by
  intro b s hbb
  have hr2 := h.row.kept (zM hb none) (by simp [Value.ownBlock])
  obtain ⟨cur, hcur⟩ := zK hr2
  refine ⟨fun e => (by subst e; rw [hcur] at hbb; cases hbb), fun e => ?_⟩
  have hm2 := h.mine.kept (zM hb none) (by cases vm.ownBlock <;> simp)
  rcases hm2.2 with ⟨rfl, _⟩ | ⟨g, cap, cur, rfl, _, hg, _⟩
  ·cases e
  ·have : b = g := by simpa [Value.ownBlock] using e
   subst this
   rw [hg] at hbb; cases hbb
 have hbl : ∀ {b : Nat} {s : Str}, w2.heap[b]? = some (.cells (yM s 8).toArray 5 (0, 0)) -> w4.heap[b]? = some (.cells (yM s 8).toArray 5 (0, 0)) := by
  intro b s hbb
  obtain ⟨n1, n2⟩ := hne hbb
  have hlb := (Array.getElem?_eq_some_iff.1 hbb).1
  rw [hg.block b (by simp [World.setCell]; omega) n2, hsame b n1 hlb]
  exact hbb
 have hold : ∀ i, i < k -> w2.heap[gs i]? = some (.cells (yM (pat (bs ts) i) 8).toArray 5 (0, 0)) := fun i hi => by
  rw [hb.block (gs i) (Array.getElem?_eq_some_iff.1 (h.each i hi)).1]; exact h.each i hi
 have hkl : k < (bs ts).length := by rw [bs_len]; exact hk
 refine ⟨?_, ?_, ?_, ?_, ?_, ?_⟩
 ·have hr := ((h.row.kept (zM hb none) (by simp [Value.ownBlock])).stored k v).1
  rw [← hv, outsF_set, updN_same, hv] at hr
  refine yp hr ?_
  rw [hg.block b0 (by simp [World.setCell]; omega) (fun e => h.ne e.symm)]
  exact Below.heap_alloc _ _ b0 (by simp [World.setCell]; omega)
 ·have := outsF_take gs (bc ts) (bs ts) k w.heap.size (bc ts k) hkl
  rw [updN_same] at this
  rw [this, hv]; exact ho
 ·intro i hi
  unfold updN
  by_cases e : i = k
  ·subst e; rw [if_pos rfl]; exact hbl hblk
  ·rw [if_neg e]; exact hbl (hold i (by omega))
 ·intro i j hi hj e
  have lt : ∀ i, i < k -> gs i < w.heap.size := fun i hi => (Array.getElem?_eq_some_iff.1 (h.each i hi)).1
  unfold updN at e
  by_cases ei : i = k <;> by_cases ej : j = k
  ·omega
  ·rw [if_pos ei, if_neg ej] at e; have := lt j (by omega); omega
  ·rw [if_neg ei, if_pos ej] at e; have := lt i (by omega); omega
  ·rw [if_neg ei, if_neg ej] at e; exact h.apart i j (by omega) (by omega) e
 ·intro e
  rcases hat with g | g
  ·exact h.ne (g.trans e)
  ·have : g' = b0 := by simpa [Value.ownBlock] using e
   omega
 ·intro i hi
  unfold updN
  by_cases e : i = k
  ·rw [if_pos e]; exact hbase
  ·rw [if_neg e]; exact h.ges i (by omega)
theorem Lents.ready {w w2 : World} {base b0 k : Nat} {vm : Value} {gs : Nat -> Nat} {ts : List Str} (h : Lents w base b0 vm gs ts k) (hk : k < ts.length + 8) (hb : Below w.heap.size w w2) (v : Value) :
  w2.cell? ⟨b0, k, none⟩ = some (.slice none 0 0) /\ w2.frozen? ⟨b0, k, none⟩ = false /\ ((w2.setCell ⟨b0, k, none⟩ v).alloc (.cells #[v] 27)).ownsRow base 27 1 vm k ((outsF gs (bc ts) (bs ts) k).take k) /\
  ∀ j u, [v][j]? = some u -> ((w2.setCell ⟨b0, k, none⟩ v).alloc (.cells #[v] 27)).cell? ((⟨w2.heap.size, 0, none⟩ : Addr).add j) = some u := by
 have hr2 := h.row.kept (zM hb none) (by simp [Value.ownBlock])
 refine ⟨?_, hr2.frozenAt k, ?_, ?_⟩
 ·rw [hr2.cellAt k (by omega), jL _ _ _ _ _ (by rw [bs_len]; omega), if_neg (by omega)]
 ·refine World.ownsRow.alloc ?_ _
  have hm2 := h.mine.kept (zM hb none) (by cases vm.ownBlock <;> simp)
  exact hm2.kept (row := some b0) ⟨rfl, rfl, rfl, by simp [World.setCell], fun i _ hn => Below.heap_setCell w2 _ _ i (fun e => hn (by rw [e]))⟩ (by cases hv : vm.ownBlock with | none => simp | some x => right; rw [← hv]; exact h.ne)
 ·have := World.news_of_block (heap_alloc_new (w2.setCell ⟨b0, k, none⟩ v) (.cells #[v] 27))
  rw [show (w2.setCell ⟨b0, k, none⟩ v).heap.size = w2.heap.size by simp [World.setCell]] at this
  exact this
theorem beyondS_bytes : (⟨beyondS.toArray⟩ : ByteArray) = { data := #[98, 101, 121, 111, 110, 100] } := rfl
set_option maxHeartbeats 2000000 in
set_option maxRecDepth 100000 in
theorem lentLists_nil (w : World) :
  Calls Tryz.prog 85 #[.slice none 0 0] w fun e w' => e = .returned (.tuple #[.slice none 0 0, .slice none 0 0]) /\ w' = w := by
 have hq : ∀ W : World, (binOp .eql 26 (.slice none 0 0) (.slice none 0 0)).run Tryz.prog W = .ok (.bool true) W := fun W => run_eql_slice_nil W _ _ none 0 0 0 0 Tryz.underlying26
 go_enter Tryz.func85, Tryz.ntmps85
 go_wp2
 go_ret2
 exact ⟨rfl, rfl⟩
set_option maxHeartbeats 2000000 in
set_option maxRecDepth 100000 in
theorem lentLists_any (a : Addr) (cap : Nat) (ts : List Str) (w : World) (hS : TxtIn w w.heap.size (some a) ts) (hn : ts.length <= 2000000) (hl : ∀ i, i < ts.length -> (pat ts i).length < 100000000) :
  Calls Tryz.prog 85 #[.slice (some a) ts.length cap] w fun e w' => ∃ b0 bm cm gs, e = .returned (.tuple #[.slice (some ⟨b0, 0, none⟩) ts.length (ts.length + 8), .slice (some ⟨bm, 0, none⟩) (ts.length + 8) cm]) /\ Lents w' w.heap.size b0 (.slice (some ⟨bm, 0, none⟩) (ts.length + 8) cm) gs ts (ts.length + 8) /\ Below w.heap.size w w' := by
 obtain ⟨i0, hi, hz0, hz1, hz2⟩ := info_parts Tryz.infoL
 have hq : ∀ W : World, (binOp .eql 26 (.slice (some a) ts.length cap) (.slice none 0 0)).run Tryz.prog W = .ok (.bool false) W := fun W => run_eql_slice_nil W _ _ (some a) _ _ 0 0 Tryz.underlying26
 have HS := zB hS
 have HL := zB hl
 clear hS hl
 go_enter Tryz.func85, Tryz.ntmps85
 go_wp2_with (first | (at_make; go_loud (refine wpList_make_full _ rfl (.tmp 15) (.tmp 15) 30 rfl w.heap.size 27 i0 (.slice none 0 0) 1 Tryz.underlying30 hi hz0 hz1 .i64 .i64 (ts.length + 8) (ts.length + 8) (ts.length + 8) rfl rfl rfl rfl (by rw [hz2]; omega) (by unfold maxLen; omega) (by simp) ?_); intro w1 hown hgrow; have HOW := zB hown; have HGW := zB hgrow; clear hown hgrow))
 go_loopw [6, 7] (fun v6 v wr => ∃ (k : Nat) (gs : Nat -> Nat), v = .int .i64 k /\ k <= ts.length + 8 /\ Hid (Lents wr w.heap.size w.heap.size v6 gs ts k) /\ Hid (Below w.heap.size w wr)) (fun _ v _ => ts.length + 8 - (intOf v).toNat)
 case atStart =>
  refine ⟨0, fun _ => 0, rfl, Nat.zero_le _, zB ⟨?_, ?_, fun i h => absurd h (Nat.not_lt_zero _), fun i j h => absurd h (Nat.not_lt_zero _), by simp [Value.ownBlock], fun i h => absurd h (Nat.not_lt_zero _)⟩, zB (zG (zA HGW) (Nat.le_refl _) (fun k h => by cases h))⟩
  ·have := zA HOW
   rw [← bs_len ts, made_outs (fun _ => 0) (bc ts)] at this
   rw [← bs_len ts]
   exact this
  ·exact World.ownsRow_nil _ _ _ _
 case round =>
  obtain ⟨k, gs, rfl, hk, HO, HB⟩ := hrel
  have hsz := (zA HB).size
  by_cases hlt : k < ts.length + 8
  ·have hbk : (pat (bs ts) k).length < 100000000 := by
    by_cases hlo : k < ts.length
    ·rw [bs_low ts k hlo]; exact zA HL k hlo
    ·rw [bs_high ts k (by omega) hlt]; decide
   have HLB := zB (lentBytes_any (pat (bs ts) k) wr hbk)
   have HRD : Hid (∀ w2, Below wr.heap.size wr w2 -> _) := zB (fun w2 hb2 => (zA HO).ready hlt hb2 (.slice (some ⟨wr.heap.size, 0, none⟩) (pat (bs ts) k).length (bc ts k)))
   have HSTP : Hid (∀ w2 w4 g' cap', Below wr.heap.size wr w2 -> w2.heap[wr.heap.size]? = some (.cells (yM (pat (bs ts) k) 8).toArray 5 (0, 0)) -> w4.ownsRow w.heap.size 27 1 (.slice (some ⟨g', 0, none⟩) (k + 1) cap') (k + 1) ((outsF gs (bc ts) (bs ts) k).take k ++ [.slice (some ⟨wr.heap.size, 0, none⟩) (pat (bs ts) k).length (bc ts k)]) -> ((w2.setCell ⟨w.heap.size, k, none⟩ (.slice (some ⟨wr.heap.size, 0, none⟩) (pat (bs ts) k).length (bc ts k))).alloc (.cells #[.slice (some ⟨wr.heap.size, 0, none⟩) (pat (bs ts) k).length (bc ts k)] 27)).grownBy w4 u6.ownBlock -> (u6.ownBlock = some g' \/ g' = w2.heap.size + 1) -> Lents w4 w.heap.size w.heap.size (.slice (some ⟨g', 0, none⟩) (k + 1) cap') (updN gs k wr.heap.size) ts (k + 1) /\ Below w.heap.size w w4) := zB (fun w2 w4 g' cap' hb2 hblk ho hg hat => by
    refine ⟨(zA HO).step hlt hsz hb2 hblk ho hg hat, ?_⟩
    have hb3 : Below w.heap.size w ((w2.setCell ⟨w.heap.size, k, none⟩ (.slice (some ⟨wr.heap.size, 0, none⟩) (pat (bs ts) k).length (bc ts k))).alloc (.cells #[.slice (some ⟨wr.heap.size, 0, none⟩) (pat (bs ts) k).length (bc ts k)] 27)) := (((zA HB).trans (hb2.mono hsz)).setCell (Nat.le_refl _) _).alloc (by have := hb2.size; simp [World.setCell]; omega) _
    exact hb3.trans (zG hg (hb3.size) (yN (zA HO).mine)))
   have i0' : (0 : Int) <= (k : Int) := by omega
   have i3 : (k : Int) < (ts.length : Int) + 8 := by omega
   generalize hgo : (outsF gs (bc ts) (bs ts) k).take k = xs at HRD HSTP
   clear hgo
   have hbc : bc ts k = (pat (bs ts) k).length + 8 := rfl
   rw [hbc] at HRD HSTP
   by_cases hlo : k < ts.length
   ·obtain ⟨b, o, hb, ha, hcell⟩ := zA HS (by omega)
    obtain rfl : a = ⟨b, o, none⟩ := by simpa using ha
    have c0 := ((zA HB).cell (p := ⟨b, o + k, none⟩) hb).trans (hcell k hlo)
    have i1 : (k : Int) < (ts.length : Int) := by omega
    have e1 := bs_low ts k hlo
    rw [e1] at HLB HRD HSTP
    clear e1 hcell hbc hbk
    generalize (pat ts k) = s at *
    go_wp2_with (first | (go_at_call 88; refine (zA HLB).mono ?_; rintro e w2 ⟨rfl, hblk, hsz2, hb2⟩; obtain ⟨f1, f2, f3, f4⟩ := zA HRD w2 hb2; rw [hsz2] at f4; have HF3 := zB f3; have HF4 := zB f4; have HBK := zB hblk; have HB2 := zB hb2; clear f3 f4 hblk hb2) | (at_builtin; refine wpList_append_lies _ rfl (.tmp 36) (.tmp 38) 30 rfl w.heap.size 27 i0 (.slice none 0 0) 1 24 Tryz.underlying30 hi hz0 hz1 hz2 rfl (by decide) _ k xs rfl (zA HF3) ⟨wr.heap.size + 1, 0, none⟩ 1 1 [.slice (some ⟨wr.heap.size, 0, none⟩) s.length (s.length + 8)] rfl rfl (zA HF4) (by intro u hu; simp at hu; subst hu; rfl) (by omega) (by unfold maxLen; omega) (by omega) (by simp [World.setCell]; omega) (w2.heap.size + 1) (by simp [World.setCell]) ?_; intro g' cap' w4 hown' hgrow hat hlt'; obtain ⟨k1, k2⟩ := zA HSTP w2 w4 g' cap' (zA HB2) (zA HBK) hown' hgrow hat; have HK1 := zB k1; have HK2 := zB k2; clear hown' hgrow hat k1 k2))
    go_roundw
    case rel => exact ⟨k + 1, updN gs k wr.heap.size, by go_num, hlt, HK1, HK2⟩
    case measure => simp [intOf]; omega
   ·have e1 := bs_high ts k (by omega) hlt
    have i1 : ¬ (k : Int) < (ts.length : Int) := by omega
    rw [e1, beyondS_bytes] at HLB
    rw [e1] at HRD HSTP
    clear e1 hbc hbk
    go_wp2_with (first | (go_at_call 88; refine (zA HLB).mono ?_; rintro e w2 ⟨rfl, hblk, hsz2, hb2⟩; obtain ⟨f1, f2, f3, f4⟩ := zA HRD w2 hb2; rw [hsz2] at f4; have HF3 := zB f3; have HF4 := zB f4; have HBK := zB hblk; have HB2 := zB hb2; clear f3 f4 hblk hb2) | (at_builtin; refine wpList_append_lies _ rfl (.tmp 36) (.tmp 38) 30 rfl w.heap.size 27 i0 (.slice none 0 0) 1 24 Tryz.underlying30 hi hz0 hz1 hz2 rfl (by decide) _ k xs rfl (zA HF3) ⟨wr.heap.size + 1, 0, none⟩ 1 1 [.slice (some ⟨wr.heap.size, 0, none⟩) beyondS.length (beyondS.length + 8)] rfl rfl (zA HF4) (by intro u hu; simp at hu; subst hu; rfl) (by omega) (by unfold maxLen; omega) (by omega) (by simp [World.setCell]; omega) (w2.heap.size + 1) (by simp [World.setCell]) ?_; intro g' cap' w4 hown' hgrow hat hlt'; obtain ⟨k1, k2⟩ := zA HSTP w2 w4 g' cap' (zA HB2) (zA HBK) hown' hgrow hat; have HK1 := zB k1; have HK2 := zB k2; clear hown' hgrow hat k1 k2))
    go_roundw
    case rel => exact ⟨k + 1, updN gs k wr.heap.size, by go_num, hlt, HK1, HK2⟩
    case measure => simp [intOf]; omega
  ·obtain rfl : k = ts.length + 8 := by omega
   obtain ⟨bm, cm, hu6, _, _⟩ := (zA HO).mine.form (by omega)
   subst hu6
   have i3 : ¬ (((ts.length + 8 : Nat) : Int) < (ts.length : Int) + 8) := by omega
   go_wp2
   go_ret2
   exact ⟨w.heap.size, bm, cm, rfl, ⟨gs, zA HO⟩, zA HB⟩
end Go.Proofs.YtfpohfifdfbpkaaGreatDoor
namespace Go.Proofs.YtfpohfifdfbpkaaGreatDoor
open Go.RowKit Scour Go.Lib
def backF (gs : Nat -> Nat) (ts : List Str) (k : Nat) : List Value := (List.range (ts.length + 8)).map fun i => if i < k then .slice none 0 0 else .slice (some ⟨gs i, 0, none⟩) (pat (bs ts) i).length (bc ts i)
theorem backF_length (gs : Nat -> Nat) (ts : List Str) (k : Nat) : (backF gs ts k).length = ts.length + 8 := by simp [backF]
theorem backF_get (gs : Nat -> Nat) (ts : List Str) (k i : Nat) (h : i < ts.length + 8) : (backF gs ts k)[i]? = some (if i < k then .slice none 0 0 else .slice (some ⟨gs i, 0, none⟩) (pat (bs ts) i).length (bc ts i)) := by simp [backF, h]
theorem backF_set (gs : Nat -> Nat) (ts : List Str) (k : Nat) : (backF gs ts k).set k (.slice none 0 0) = backF gs ts (k + 1) := by
 apply List.ext_getElem?
 intro i
 rw [List.getElem?_set]
 by_cases hi : i < ts.length + 8
 ·rw [backF_get _ _ _ _ hi, backF_get _ _ _ _ hi, backF_length]
  by_cases e : k = i
  ·subst e; simp [hi]
  ·rw [if_neg e]
   by_cases g : i < k
   ·rw [if_pos g, if_pos (by omega)]
   ·rw [if_neg g, if_neg (by omega)]
 ·rw [List.getElem?_eq_none (by rw [backF_length]; omega), List.getElem?_eq_none (by rw [backF_length]; omega)]
  split
  ·split
   ·rename_i h1 h2; rw [backF_length] at h2; omega
   ·rfl
  ·rfl
theorem backF_zero (gs : Nat -> Nat) (ts : List Str) : outsF gs (bc ts) (bs ts) (ts.length + 8) = backF gs ts 0 := by
 apply List.ext_getElem?
 intro i
 by_cases hi : i < ts.length + 8
 ·rw [backF_get _ _ _ _ hi, jL _ _ _ _ _ (by rw [bs_len]; exact hi), if_pos hi, if_neg (by omega)]
 ·rw [List.getElem?_eq_none (by rw [yi, bs_len]; omega), List.getElem?_eq_none (by rw [backF_length]; omega)]
structure Backs (w : World) (base b0 : Nat) (vm : Value) (gs : Nat -> Nat) (ts : List Str) (k : Nat) : Prop where
 row : w.ownsRow base 27 1 (.slice (some ⟨b0, 0, none⟩) (ts.length + 8) (ts.length + 8)) (ts.length + 8) (backF gs ts k)
 mine : w.ownsRow base 27 1 vm (ts.length + 8) (backF gs ts 0)
 each : ∀ i, k <= i -> i < ts.length + 8 -> w.heap[gs i]? = some (.cells (yM (pat (bs ts) i) 8).toArray 5 (0, 0))
 apart : ∀ i j, i < ts.length + 8 -> j < ts.length + 8 -> gs i = gs j -> i = j
 ne : vm.ownBlock ≠ some b0
 ges : ∀ i, i < ts.length + 8 -> base <= gs i
theorem Lents.backs {w : World} {base b0 : Nat} {vm : Value} {gs : Nat -> Nat} {ts : List Str} (h : Lents w base b0 vm gs ts (ts.length + 8)) : Backs w base b0 vm gs ts 0 := by
 have hr := h.row
 have hm := h.mine
 rw [List.take_of_length_le (by rw [yi, bs_len]; omega)] at hm
 rw [backF_zero] at hr hm
 exact ⟨hr, hm, fun i _ hi => h.each i hi, h.apart, h.ne, h.ges⟩
theorem Lents.kept {w w' : World} {base b0 k : Nat} {vm : Value} {gs : Nat -> Nat} {ts : List Str} (h : Lents w base b0 vm gs ts k) (hb : Below w.heap.size w w') : Lents w' base b0 vm gs ts k :=
 ⟨h.row.kept (zM hb none) (by simp [Value.ownBlock]), h.mine.kept (zM hb none) (by cases vm.ownBlock <;> simp), fun i hi => (hb.block _ (Array.getElem?_eq_some_iff.1 (h.each i hi)).1).trans (h.each i hi), h.apart, h.ne, h.ges⟩
structure BackB (base b0 : Nat) (gs : Nat -> Nat) (n : Nat) (w w' : World) : Prop where
 below : Below base w w'
 only : ∀ k, k < w.heap.size -> k ≠ b0 -> (∀ i, i < n -> gs i ≠ k) -> w'.heap[k]? = w.heap[k]?
theorem BackB.refl (base b0 : Nat) (gs : Nat -> Nat) (n : Nat) (w : World) : BackB base b0 gs n w w := ⟨Below.refl _ _, fun _ _ _ _ => rfl⟩
theorem BackB.trans {base b0 n : Nat} {gs : Nat -> Nat} {w w1 w2 : World} (h : BackB base b0 gs n w w1) (k : BackB base b0 gs n w1 w2) : BackB base b0 gs n w w2 :=
 ⟨h.below.trans k.below, fun i hi h1 h2 => (k.only i (Nat.lt_of_lt_of_le hi h.below.size) h1 h2).trans (h.only i hi h1 h2)⟩
theorem Backs.step {w w2 : World} {base b0 k : Nat} {vm : Value} {gs : Nat -> Nat} {ts : List Str} (h : Backs w base b0 vm gs ts k) (hk : k < ts.length + 8) (hg : w.grownBy w2 (some (gs k))) :
  w2.cell? ⟨b0, k, none⟩ = some (.slice (some ⟨gs k, 0, none⟩) (pat (bs ts) k).length (bc ts k)) /\ w2.frozen? ⟨b0, k, none⟩ = false /\ Backs (w2.setCell ⟨b0, k, none⟩ (.slice none 0 0)) base b0 vm gs ts (k + 1) /\ BackB base b0 gs (ts.length + 8) w (w2.setCell ⟨b0, k, none⟩ (.slice none 0 0)) := by
 have hgk := h.each k (Nat.le_refl _) hk
 obtain ⟨cur, hcur⟩ := zK h.row
 have hne0 : b0 ≠ gs k := fun e => by rw [← e, hcur] at hgk; cases hgk
 have hnem : vm.ownBlock ≠ some (gs k) := fun e => by
  rcases h.mine.2 with ⟨rfl, _⟩ | ⟨g, cap, cur, rfl, _, hg, _⟩
  ·cases e
  ·have : g = gs k := by simpa [Value.ownBlock] using e
   rw [this, hgk] at hg; cases hg
 have hr2 := h.row.kept hg (Or.inr (by simp [Value.ownBlock]; omega))
 have hm2 := h.mine.kept hg (Or.inr hnem)
 have hbase := yQ h.row
 refine ⟨?_, hr2.frozenAt k, ⟨?_, ?_, ?_, h.apart, h.ne, h.ges⟩, ?_⟩
 ·rw [hr2.cellAt k (by omega), backF_get _ _ _ _ hk, if_neg (by omega)]
 ·have := (hr2.stored k (.slice none 0 0)).1
  rw [backF_set] at this
  exact this
 ·exact hm2.kept (row := some b0) ⟨rfl, rfl, rfl, by simp [World.setCell], fun i _ hn => Below.heap_setCell w2 _ _ i (fun e => hn (by rw [e]))⟩ (Or.inr h.ne)
 ·intro i hi1 hi2
  have hei := h.each i (by omega) hi2
  have hl := (Array.getElem?_eq_some_iff.1 hei).1
  rw [Below.heap_setCell w2 _ _ (gs i) (fun e => by rw [e, hcur] at hei; cases hei), hg.block (gs i) hl (fun e => by
   have : gs i = gs k := by simpa using e
   have := h.apart i k hi2 hk this
   omega)]
  exact hei
 ·have hb2 : Below base w w2 := zG hg (Nat.le_trans hbase (Nat.le_of_lt (Array.getElem?_eq_some_iff.1 hcur).1)) (fun x hx => by
   have e : gs k = x := by simpa using hx
   rw [← e]; exact h.ges k hk)
  refine ⟨hb2.setCell hbase _, fun j hj h1 h2 => ?_⟩
  rw [Below.heap_setCell w2 _ _ j h1]
  exact hg.block j hj (fun e => h2 k hk (by simpa using e.symm))
theorem overL_first (s : Str) : (overL s (s.length + 8))[0]? = some (.int .u8 1) := by
 unfold overL
 rw [List.getElem?_append_left (by simp), List.getElem?_replicate, if_pos (by omega)]
set_option maxHeartbeats 2000000 in
set_option maxRecDepth 100000 in
theorem wholeLists_nil (vo vm : Value) (w : World) :
  Calls Tryz.prog 87 #[vo, vm, .slice none 0 0] w fun e w' => e = .returned (.bool true) /\ w' = w := by
 have hq : ∀ W : World, (binOp .eql 26 (.slice none 0 0) (.slice none 0 0)).run Tryz.prog W = .ok (.bool true) W := fun W => run_eql_slice_nil W _ _ none 0 0 0 0 Tryz.underlying26
 go_enter Tryz.func87, Tryz.ntmps87
 go_wp2
 go_ret
 exact ⟨rfl, rfl⟩
set_option maxHeartbeats 2000000 in
set_option maxRecDepth 100000 in
theorem wholeLists_any (a : Addr) (cap base b0 bm cm : Nat) (gs : Nat -> Nat) (ts : List Str) (w : World) (hS : TxtIn w base (some a) ts) (hn : ts.length <= 2000000) (hl : ∀ i, i < ts.length -> (pat ts i).length < 100000000)
  (hB : Backs w base b0 (.slice (some ⟨bm, 0, none⟩) (ts.length + 8) cm) gs ts 0) :
  Calls Tryz.prog 87 #[.slice (some ⟨b0, 0, none⟩) ts.length (ts.length + 8), .slice (some ⟨bm, 0, none⟩) (ts.length + 8) cm, .slice (some a) ts.length cap] w fun e w' => e = .returned (.bool true) /\ BackB base b0 gs (ts.length + 8) w w' := by
 have hq : ∀ W : World, (binOp .eql 26 (.slice (some a) ts.length cap) (.slice none 0 0)).run Tryz.prog W = .ok (.bool false) W := fun W => run_eql_slice_nil W _ _ (some a) _ _ 0 0 Tryz.underlying26
 have HS := zB hS
 have HL := zB hl
 have HBK := zB hB
 clear hS hl hB
 go_enter Tryz.func87, Tryz.ntmps87
 go_wp2
 go_loopw [9, 10] (fun v9 v wr => ∃ (k : Nat), v9 = .bool true /\ v = .int .i64 k /\ k <= ts.length + 8 /\ Hid (Backs wr base b0 (.slice (some ⟨bm, 0, none⟩) (ts.length + 8) cm) gs ts k) /\ Hid (BackB base b0 gs (ts.length + 8) w wr)) (fun _ v _ => ts.length + 8 - (intOf v).toNat)
 case atStart => exact ⟨0, rfl, rfl, Nat.zero_le _, HBK, zB (BackB.refl _ _ _ _ _)⟩
 case round =>
  obtain ⟨k, rfl, rfl, hk, HO, HB⟩ := hrel
  by_cases hlt : k < ts.length + 8
  ·have hbk : (pat (bs ts) k).length < 100000000 := by
    by_cases hlo : k < ts.length
    ·rw [bs_low ts k hlo]; exact zA HL k hlo
    ·rw [bs_high ts k (by omega) hlt]; decide
   have HWB := zB (wholeBytes_any (gs k) (pat (bs ts) k) wr hbk ((zA HO).each k (Nat.le_refl _) hlt))
   have HST : Hid (∀ w2, wr.grownBy w2 (some (gs k)) -> _) := zB (fun w2 hg => (zA HO).step hlt hg)
   have cf : wr.cell? ⟨b0, k, none⟩ = some (.slice (some ⟨gs k, 0, none⟩) (pat (bs ts) k).length (bc ts k)) := by
    rw [(zA HO).row.cellAt k (by omega), backF_get _ _ _ _ hlt, if_neg (by omega)]
   have cm' : wr.cell? ⟨bm, k, none⟩ = some (.slice (some ⟨gs k, 0, none⟩) (pat (bs ts) k).length (bc ts k)) := by
    rw [(zA HO).mine.cellAt k (by omega), backF_get _ _ _ _ hlt, if_neg (by omega)]
   have hcv : (convert 27 9 (.slice (some ⟨gs k, 0, none⟩) (pat (bs ts) k).length (bc ts k))).run Tryz.prog wr = .ok (.string ⟨(pat (bs ts) k).toArray⟩) wr := conv_back (fun j hj => by rw [Nat.zero_add, zC ((zA HO).each k (Nat.le_refl _) hlt)]; simp only [List.getElem?_toArray]; exact lentL_low _ j hj)
   have i0' : (0 : Int) <= (k : Int) := by omega
   have i3 : (k : Int) < (ts.length : Int) + 8 := by omega
   have hbc : bc ts k = (pat (bs ts) k).length + 8 := rfl
   rw [hbc] at HST cf cm' hcv
   by_cases hlo : k < ts.length
   ·obtain ⟨b, o, hb, ha, hcell⟩ := zA HS (by omega)
    obtain rfl : a = ⟨b, o, none⟩ := by simpa using ha
    have c0 := ((zA HB).below.cell (p := ⟨b, o + k, none⟩) hb).trans (hcell k hlo)
    have i1 : (k : Int) < (ts.length : Int) := by omega
    have e1 := bs_low ts k hlo
    rw [e1] at HWB HST cf cm' hcv
    clear e1 hcell hbc hbk ha
    generalize (pat ts k) = s at *
    by_cases h0 : s.length = 0
    ·have i5 : ((s.length : Int) == 0) = true := by rw [show (s.length : Int) = 0 by omega]; rfl
     clear h0
     go_wp2_with (first | (go_at_call 90; refine (zA HWB).mono ?_; rintro e w2 ⟨rfl, hblk, hgr⟩; obtain ⟨f1, f2, f3, f4⟩ := zA HST w2 hgr; have c1 : w2.cell? ⟨gs k, 0, none⟩ = some (.int .u8 1) := (by rw [zC hblk]; simp only [List.getElem?_toArray]; exact overL_first _); have HF3 := zB f3; have HF4 := zB ((zA HB).trans f4); clear f3 f4 hblk hgr))
     go_roundw
     case rel => exact ⟨k + 1, rfl, by go_num, hlt, HF3, HF4⟩
     case measure => simp [intOf]; omega
    ·have i5 : ((s.length : Int) == 0) = false := by simp only [beq_eq_false_iff_ne, ne_eq]; omega
     have i6 : (0 : Int) < (s.length : Int) := by omega
     go_wp2_with (first | (go_at_call 90; refine (zA HWB).mono ?_; rintro e w2 ⟨rfl, hblk, hgr⟩; obtain ⟨f1, f2, f3, f4⟩ := zA HST w2 hgr; have c1 : w2.cell? ⟨gs k, 0, none⟩ = some (.int .u8 1) := (by rw [zC hblk]; simp only [List.getElem?_toArray]; exact overL_first _); have HF3 := zB f3; have HF4 := zB ((zA HB).trans f4); clear f3 f4 hblk hgr))
     go_roundw
     case rel => exact ⟨k + 1, rfl, by go_num, hlt, HF3, HF4⟩
     case measure => simp [intOf]; omega
   ·have e1 := bs_high ts k (by omega) hlt
    have i1 : ¬ (k : Int) < (ts.length : Int) := by omega
    rw [e1, beyondS_bytes] at HWB hcv
    rw [e1] at HST cf cm'
    have e6 : beyondS.length = 6 := rfl
    clear e1 hbc hbk
    rw [e6] at HST cf cm' hcv HWB
    go_wp2_with (first | (go_at_call 90; refine (zA HWB).mono ?_; rintro e w2 ⟨rfl, hblk, hgr⟩; obtain ⟨f1, f2, f3, f4⟩ := zA HST w2 hgr; have c1 : w2.cell? ⟨gs k, 0, none⟩ = some (.int .u8 1) := (by rw [zC hblk]; simp only [List.getElem?_toArray]; exact overL_first _); have HF3 := zB f3; have HF4 := zB ((zA HB).trans f4); clear f3 f4 hblk hgr))
    go_roundw
    case rel => exact ⟨k + 1, rfl, by go_num, hlt, HF3, HF4⟩
    case measure => simp [intOf]; omega
  ·obtain rfl : k = ts.length + 8 := by omega
   have i3 : ¬ (((ts.length + 8 : Nat) : Int) < (ts.length : Int) + 8) := by omega
   go_wp2
   go_ret
   exact ⟨rfl, zA HB⟩
end Go.Proofs.YtfpohfifdfbpkaaGreatDoor
