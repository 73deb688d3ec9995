import Derived.Test.YtfpohfifdfbpkaaGreatDoorRow
import Derived.Test.YtfpohfifdfbpkaaGreatDoorShelf
import Derived.Test.YtfpohfifdfbpkaaGreatDoorMath2
import Derived.Lib.Bytealg
import Derived.Lib.BytesEntry
import Derived.Deep.QuietTactic
import Derived.BigQuiet
namespace Go.Proofs.YtfpohfifdfbpkaaGreatDoor
open Go.RowKit Scour Go.Shelf Go.Lib Go.Sort
theorem cmpB_neg : ∀ a b : Str, compareBytes a b < 0 ↔ blt a b = true
 | [], [] => by simp [compareBytes, blt]
 | [], _ :: _ => by simp [compareBytes, blt]
 | _ :: _, [] => by simp [compareBytes, blt]
 | a :: xs, b :: ys => by
   unfold compareBytes blt
   rcases u8_tri a b with g | g | g
   ·simp [g]
   ·subst g; simp only [yh, if_false]; exact cmpB_neg xs ys
   ·simp [g, u8_lt_asymm g]
def nums (s : Str) : List Int := s.map fun b => (b.toNat : Int)
theorem nums_length (s : Str) : (nums s).length = s.length := by simp [nums]
theorem bytesOf_nums (s : Str) : Lib.bytesOf (nums s) = s := by
 unfold Lib.bytesOf nums
 rw [List.map_map]
 conv => rhs; rw [← List.map_id s]
 apply List.map_congr_left
 intro b _
 simp
theorem zg (b o j : Nat) : (⟨b, o, none⟩ : Addr).add j = ⟨b, o + j, none⟩ := by unfold Addr.add; split <;> simp_all
theorem run_loadStr {P : Program} (w : World) (s : Str) (b o : Nat) (h : ∀ j, j < s.length -> w.cell? ⟨b, o + j, none⟩ = some (.int .u8 (s.getD j 0).toNat)) :
 (Extern.Bytes.loadBytes ⟨b, o, none⟩ s.length .empty).run P w = .ok ⟨s.toArray⟩ w := by
 have := Lib.run_loadBytesX (P := P) w (nums s) ⟨b, o, none⟩ .empty (fun j x hj => by
  rw [zg]
  have hjl : j < s.length := by have := (List.getElem?_eq_some_iff.1 hj).1; rwa [nums_length] at this
  rw [h j hjl]
  simp [nums, hjl] at hj
  simp [List.getD, hjl, hj])
 rw [nums_length, bytesOf_nums] at this
 rw [this]
 congr
 exact Array.empty_append
theorem run_compareSl {P : Program} (w : World) (s t : Str) (b o c b' o' c' : Nat) (h : ∀ j, j < s.length -> w.cell? ⟨b, o + j, none⟩ = some (.int .u8 (s.getD j 0).toNat)) (h' : ∀ j, j < t.length -> w.cell? ⟨b', o' + j, none⟩ = some (.int .u8 (t.getD j 0).toNat)) :
 (Extern.BytealgCompare.compare #[.slice (some ⟨b, o, none⟩) s.length c, .slice (some ⟨b', o', none⟩) t.length c']).run P w = .ok (.int .i64 (compareBytes s t)) w := by
 change Sem.run P (do pure (goInt (Extern.BytealgCompare.cmp (← Extern.Bytes.bytesOf (.slice (some ⟨b, o, none⟩) s.length c)) (← Extern.Bytes.bytesOf (.slice (some ⟨b', o', none⟩) t.length c'))))) w = _
 simp only [Extern.Bytes.bytesOf, Sem.run_bind, Sem.run_pure, run_loadStr w s b o h, run_loadStr w t b' o' h', Result.andThen]
 rw [cmp_eq]
 rfl
set_option maxHeartbeats 1000000 in
set_option maxRecDepth 100000 in
theorem bytesCompare_any (w : World) (s t : Str) (b o c b' o' c' : Nat) (h : ∀ j, j < s.length -> w.cell? ⟨b, o + j, none⟩ = some (.int .u8 (s.getD j 0).toNat)) (h' : ∀ j, j < t.length -> w.cell? ⟨b', o' + j, none⟩ = some (.int .u8 (t.getD j 0).toNat)) :
 Calls Tryz.prog 114 #[.slice (some ⟨b, o, none⟩) s.length c, .slice (some ⟨b', o', none⟩) t.length c'] w fun e w' => e = .returned (.int .i64 (compareBytes s t)) /\ w' = w := by
 have HR := zB (run_compareSl (P := Tryz.prog) w s t b o c b' o' c' h h')
 clear h h'
 generalize compareBytes s t = r at HR ⊢
 go_enter Tryz.func114, Tryz.ntmps114
 go_wp2
 rw [run_callFunc_extern Tryz.func143 (by kernel_rfl) (by kernel_rfl) (by kernel_rfl) (e := Extern.BytealgCompare.compare) (by kernel_rfl), zA HR]
 simp only [Result.andThen]
 rw [Oper.upon_value]
 go_wp2
 go_ret
 exact ⟨rfl, rfl⟩
set_option maxHeartbeats 1000000 in
theorem cmpClosure_any (W : World) (Bs bp op m cp x y : Nat) (ps : List Str) (b o c b' o' c' : Nat) (hx : x < m) (hy : y < m)
 (h0 : W.cell? ⟨Bs, 0, none⟩ = some (.slice (some ⟨bp, op, none⟩) m cp)) (h1 : W.cell? ⟨bp, op + x, none⟩ = some (.slice (some ⟨b, o, none⟩) (pat ps x).length c)) (h2 : W.cell? ⟨bp, op + y, none⟩ = some (.slice (some ⟨b', o', none⟩) (pat ps y).length c'))
 (h3 : ∀ j, j < (pat ps x).length -> W.cell? ⟨b, o + j, none⟩ = some (.int .u8 ((pat ps x).getD j 0).toNat)) (h4 : ∀ j, j < (pat ps y).length -> W.cell? ⟨b', o' + j, none⟩ = some (.int .u8 ((pat ps y).getD j 0).toNat)) :
 Calls Tryz.prog 113 #[.int .i64 x, .int .i64 y, .pointer (some ⟨Bs, 0, none⟩)] W fun e w' => e = .returned (.int .i64 (compareBytes (pat ps x) (pat ps y))) /\ ∃ q, w' = W.drewN q := by
 have HC := zB (fun q => bytesCompare_any (W.drewN q) (pat ps x) (pat ps y) b o c b' o' c' h3 h4)
 clear h3 h4
 have i1 : (x : Int) < (m : Int) := by omega
 have i2 : (y : Int) < (m : Int) := by omega
 have i3 : (0 : Int) <= (x : Int) := by omega
 have i4 : (0 : Int) <= (y : Int) := by omega
 generalize compareBytes (pat ps x) (pat ps y) = r at HC ⊢
 generalize (pat ps x).length = n1 at *
 generalize (pat ps y).length = n2 at *
 go_enter Tryz.func113, Tryz.ntmps113
 go_wp2
 go_quiet ((go_at_call 114; exact Calls.quiet_of_same (zA HC _)))
 go_wp2
 go_ret
 exact ⟨rfl, _, rfl⟩
end Go.Proofs.YtfpohfifdfbpkaaGreatDoor
namespace Go.Proofs.YtfpohfifdfbpkaaGreatDoor
open Go.RowKit Scour Go.Shelf Go.Lib Go.Sort
section
variable {α : Type} [Inhabited α]
theorem grown_put {w : World} {g n : Nat} {os : Array Obj} (enc : α -> Value) (d : Array α) : w.grownBy (grow (putRow enc (Sort.ahead w n) g 0 d) os) (some g) := by
 refine ⟨rfl, rfl, rfl, by simp, fun k hk hne => ?_⟩
 rw [heap_grow_old _ _ (by simpa using hk)]
 have : g ≠ k := fun e => hne (by rw [e])
 simp [putRow, mapBlock, Sort.ahead, Array.getElem?_modify, this]
theorem heap_put {w : World} {g n : Nat} {os : Array Obj} {cur : Array Value} {e : TypeId} {fr : Nat × Nat} (enc : α -> Value) (d : Array α) (hb : w.heap[g]? = some (.cells cur e fr)) :
 (grow (putRow enc (Sort.ahead w n) g 0 d) os).heap[g]? = some (.cells (putCells enc 0 d cur) e fr) := by
 have hg : g < w.heap.size := (Array.getElem?_eq_some_iff.1 hb).1
 rw [heap_grow_old _ _ (by simpa using hg)]
 simp [putRow, mapBlock, Sort.ahead, Array.getElem?_modify, hb, onCells]
theorem putCells_get (enc : α -> Value) (d : Array α) (cur : Array Value) (j : Nat) (hj : j < d.size) (h : d.size <= cur.size) : (putCells enc 0 d cur)[j]? = some (enc d[j]!) := by
 simp [putCells, hj, show j < cur.size by omega]
theorem putCells_size (enc : α -> Value) (d : Array α) (cur : Array Value) : (putCells enc 0 d cur).size = cur.size := by simp [putCells]
end
structure OrdAt (w : World) (b : Nat) (os : List Nat) : Prop where
 ex : ∃ cur, w.heap[b]? = some (.cells cur 3 (0, 0)) /\ os.length <= cur.size /\ ∀ j, j < os.length -> cur[j]? = some (.int .i64 (os.getD j 0 : Nat))
theorem OrdAt.lt {w : World} {b : Nat} {os : List Nat} (h : OrdAt w b os) : b < w.heap.size := by
 obtain ⟨cur, h1, _⟩ := h.ex; exact (Array.getElem?_eq_some_iff.1 h1).1
theorem OrdAt.ints {w : World} {b : Nat} {os : List Nat} (h : OrdAt w b os) : IntsAt w b os := by
 obtain ⟨cur, h1, _, h3⟩ := h.ex
 exact fun j hj => (zC h1 j).trans (h3 j hj)
theorem OrdAt.kept {w w' : World} {b : Nat} {os : List Nat} (h : OrdAt w b os) (hb : w'.heap[b]? = w.heap[b]?) : OrdAt w' b os := by
 obtain ⟨cur, h1, h2, h3⟩ := h.ex
 exact ⟨cur, hb.trans h1, h2, h3⟩
def encN (m : Nat) (i : Fin m) : Value := .int .i64 (i.val : Int)
def cfP (ps : List Str) (m : Nat) (x y : Fin m) : Int := compareBytes (pat ps x.val) (pat ps y.val)
theorem ltP (ps : List Str) (m : Nat) (x y : Fin m) : ltOf (cfP ps m) x y = blt (pat ps x.val) (pat ps y.val) := by
 unfold ltOf cfP
 have := cmpB_neg (pat ps x.val) (pat ps y.val)
 cases h : blt (pat ps x.val) (pat ps y.val) <;> simp [this, h]
theorem swoP (ps : List Str) (m : Nat) : SWO (ltOf (cfP ps m)) where
 irrefl x := by rw [ltP, blt_irrefl]
 trans x y z h1 h2 := by rw [ltP] at *; exact blt_trans h1 h2
 ntrans x y z h1 h2 := by rw [ltP] at *; exact blt_ntrans h1 h2
theorem cmpLays (W : World) (Bs bp op cp bo k : Nat) (ps : List Str) (hBs : Bs < W.heap.size) (hB : Bs ≠ bo)
 (h0 : W.cell? ⟨Bs, 0, none⟩ = some (.slice (some ⟨bp, op, none⟩) (k + 1) cp)) (hbp : bp < bo)
 (hP : ∀ i, i < k + 1 -> ∃ b o c, b < bo /\ W.cell? ⟨bp, op + i, none⟩ = some (.slice (some ⟨b, o, none⟩) (pat ps i).length c) /\ ∀ j, j < (pat ps i).length -> W.cell? ⟨b, o + j, none⟩ = some (.int .u8 ((pat ps i).getD j 0).toNat)) (hbo : bo < W.heap.size) :
 CmpLays1 Tryz.prog 113 #[.pointer (some ⟨Bs, 0, none⟩)] (encN (k + 1)) (cfP ps (k + 1)) bo 0 (k + 1) W := by
 intro n os dk hdk x y
 have hg : W.grownBy (sortWorld (encN (k + 1)) W bo 0 n dk os) (some bo) := grown_put (encN (k + 1)) dk
 have hc : ∀ b o, b < W.heap.size -> b ≠ bo -> (sortWorld (encN (k + 1)) W bo 0 n dk os).cell? ⟨b, o, none⟩ = W.cell? ⟨b, o, none⟩ := fun b o hb hne => World.cell?_of_block (a := ⟨b, o, none⟩) (hg.block b hb (by simp [hne]))
 generalize sortWorld (encN (k + 1)) W bo 0 n dk os = V at hc ⊢
 obtain ⟨b, o, c, hb, h1, h3⟩ := hP x.val x.isLt
 obtain ⟨b', o', c', hb', h2, h4⟩ := hP y.val y.isLt
 refine (cmpClosure_any V Bs bp op (k + 1) cp x.val y.val ps b o c b' o' c' x.isLt y.isLt ?_ ?_ ?_ ?_ ?_).mono ?_
 ·rw [hc Bs 0 hBs hB]; exact h0
 ·rw [hc bp _ (by omega) (by omega)]; exact h1
 ·rw [hc bp _ (by omega) (by omega)]; exact h2
 ·intro j hj; rw [hc b _ (by omega) (by omega)]; exact h3 j hj
 ·intro j hj; rw [hc b' _ (by omega) (by omega)]; exact h4 j hj
 ·rintro e w' ⟨rfl, q, rfl⟩
  exact ⟨rfl, q, #[], by rw [grow_empty]⟩
def iota (k i : Nat) : Int := if i < k then (i : Int) else 0
theorem iota_zero (m : Nat) : zZ (iota 0) m = List.replicate m (.int .i64 0) := by
 apply List.ext_getElem?
 intro j
 by_cases hj : j < m
 ·rw [zW _ _ _ hj]; simp [hj, iota]
 ·rw [List.getElem?_eq_none (by rw [zi]; omega), List.getElem?_eq_none (by simp; omega)]
theorem iota_succ (k : Nat) : upd (iota k) k (k : Int) = iota (k + 1) := by
 funext i
 unfold upd iota
 by_cases h : i = k
 ·subst h; simp
 ·rw [if_neg h]
  by_cases g : i < k
  ·rw [if_pos g, if_pos (by omega)]
  ·rw [if_neg g, if_neg (by omega)]
theorem Tryz.infoI : (Tryz.prog.info? 3).map (fun i => (i.zero, i.size, i.bytes)) = some (some (.int .i64 0), 1, 8) := by kernel_rfl
end Go.Proofs.YtfpohfifdfbpkaaGreatDoor
namespace Go.Proofs.YtfpohfifdfbpkaaGreatDoor
open Go.RowKit Scour Go.Shelf Go.Lib Go.Sort
structure IsOrder (ps : List Str) (os : List Nat) : Prop where
 len : os.length = ps.length
 perm : os.Perm (List.range ps.length)
 asc : ∀ i j, i < j -> j < ps.length -> blt (pat ps (os.getD j 0)) (pat ps (os.getD i 0)) = false
theorem holds_iota {w : World} {bo k cap base : Nat} (h : w.ownsRow base 3 1 (.slice (some ⟨bo, 0, none⟩) (k + 1) cap) (k + 1) (zZ (iota (k + 1)) (k + 1))) :
 Holds (encN (k + 1)) w bo 0 (Array.ofFn (fun i : Fin (k + 1) => i)) := by
 intro j hj
 simp only [Array.size_ofFn] at hj
 refine ⟨?_, by rw [Nat.zero_add]; exact h.frozenAt j⟩
 rw [Nat.zero_add, h.cellAt j (by omega), zW _ _ _ hj]
 rw [getElem!_pos _ j (by simpa using hj)]
 simp [encN, iota, hj]
theorem made_iota (m : Nat) : (madeCells (Value.int .i64 0).cells (m * 1)).toList = zZ (iota 0) m := by
 rw [iota_zero, Nat.mul_one]; exact toList_madeCells_one _ _
theorem extract_all {α : Type} (d : Array α) (n : Nat) (h : d.size = n) : d.extract 0 n = d := by subst h; simp
theorem vals_ofFn (n : Nat) : (Array.ofFn (fun i : Fin n => i)).toList.map Fin.val = List.range n := by
 apply List.ext_getElem (by simp)
 intro j h1 h2
 rw [List.getElem_map, Array.getElem_toList, Array.getElem_ofFn, List.getElem_range]
theorem zK {w : World} {base e s g n cap : Nat} {xs : List Value} (h : w.ownsRow base e s (.slice (some ⟨g, 0, none⟩) n cap) n xs) : ∃ cur, w.heap[g]? = some (.cells cur e (0, 0)) := by
 rcases h.2 with ⟨hv, _⟩ | ⟨g', cap', cur, hv, _, hg, _⟩
 ·cases hv
 ·simp only [Value.slice.injEq, Option.some.injEq, Addr.mk.injEq, and_true, true_and] at hv
  obtain ⟨rfl, rfl⟩ := hv
  exact ⟨cur, hg⟩
theorem order_of {ps : List Str} {k : Nat} (hm : ps.length = k + 1) {d' : Array (Fin (k + 1))} (hp : PermIn 0 (k + 1) (Array.ofFn (fun i : Fin (k + 1) => i)) d') (hs : SortedIn (ltOf (cfP ps (k + 1))) 0 (k + 1) d') :
 IsOrder ps (d'.toList.map Fin.val) := by
 obtain ⟨h1, _, h3⟩ := hp
 simp only [Array.size_ofFn] at h1
 have e1 := extract_all d' (k + 1) h1
 have e2 := extract_all (Array.ofFn (fun i : Fin (k + 1) => i)) (k + 1) (by simp)
 rw [e1, e2] at h3
 refine ⟨by simp [h1, hm], ?_, ?_⟩
 ·have := h3.map Fin.val
  rw [vals_ofFn] at this
  rw [hm]
  exact this
 ·intro i j hij hj
  rw [hm] at hj
  have := hs i j (Nat.zero_le _) hij hj
  rw [ltP] at this
  have g1 : (d'.toList.map Fin.val).getD j 0 = (d'[j]!).val := by
   rw [getElem!_pos d' j (by omega)]; simp [List.getD, show j < d'.size by omega]
  have g2 : (d'.toList.map Fin.val).getD i 0 = (d'[i]!).val := by
   rw [getElem!_pos d' i (by omega)]; simp [List.getD, show i < d'.size by omega]
  rw [g1, g2]
  exact this
theorem ord_of {W : World} {bo k n cap base : Nat} {os : Array Obj} {d' : Array (Fin (k + 1))} (hsz : d'.size = k + 1) (h : W.ownsRow base 3 1 (.slice (some ⟨bo, 0, none⟩) (k + 1) cap) (k + 1) (zZ (iota (k + 1)) (k + 1))) :
 OrdAt (sortWorld (encN (k + 1)) W bo 0 n d' os) bo (d'.toList.map Fin.val) := by
 rcases h.2 with ⟨hv, h0⟩ | ⟨g', cap', cur, hv, hb, hg, hc, _, hcs, _⟩
 ·omega
 ·simp only [Value.slice.injEq, Option.some.injEq, Addr.mk.injEq, and_true, true_and] at hv
  obtain ⟨rfl, rfl⟩ := hv
  refine ⟨_, heap_put (encN (k + 1)) d' hg, by rw [putCells_size]; simp [hsz]; omega, fun j hj => ?_⟩
  simp only [List.length_map, Array.length_toList] at hj
  rw [putCells_get _ _ _ _ hj (by omega)]
  have g1 : (d'.toList.map Fin.val).getD j 0 = (d'[j]!).val := by
   rw [getElem!_pos d' j (by omega)]; simp [List.getD, hj]
  rw [g1]; rfl
set_option maxHeartbeats 2000000 in
theorem sorted_any (ap : Option Addr) (cp base : Nat) (ps : List Str) (w : World) (hP : yO w base ap ps) (hb : base <= w.heap.size) (hne : ∀ i, i < ps.length -> 0 < (pat ps i).length) (hm : ps.length < 100000) :
 Calls Tryz.prog 70 #[.slice ap ps.length cp] w fun e w' => ∃ bo os, e = .returned (.slice (some ⟨bo, 0, none⟩) ps.length ps.length) /\ w.heap.size <= bo /\ OrdAt w' bo os /\ IsOrder ps os /\ Below w.heap.size w w' := by
 obtain ⟨i0, hi, hz0, hz1, hz2⟩ := info_parts Tryz.infoI
 have HP := zB hP
 have HNE := zB hne
 clear hP hne
 go_enter Tryz.func70, Tryz.ntmps70
 go_wp2_with (first | (at_make; refine wpList_make_full _ rfl (.tmp 6) (.tmp 6) 24 rfl (w.heap.size + 1) 3 i0 (.int .i64 0) 1 Tryz.underlying24 hi hz0 hz1 .i64 .i64 ps.length ps.length ps.length rfl rfl rfl rfl (by rw [hz2]; omega) (by unfold maxLen; omega) (by simp) ?_; intro w1 hown hgrow; have HOW := zB hown; have HGW := zB hgrow; clear hown hgrow))
 go_loopw [10] (fun v wr => ∃ k : Nat, v = .int .i64 k /\ k <= ps.length /\ Hid (wr.ownsRow (w.heap.size + 1) 3 1 (.slice (some ⟨w.heap.size + 1, 0, none⟩) ps.length ps.length) ps.length (zZ (iota k) ps.length)) /\ Hid (w1.grownBy wr (some (w.heap.size + 1)))) (fun v _ => ps.length - (intOf v).toNat)
 case atStart => exact ⟨0, rfl, Nat.zero_le _, zB (by have := zA HOW; rw [made_iota, show (w.alloc (.cells #[.slice ap ps.length cp] 30)).heap.size = w.heap.size + 1 by simp] at this; exact this), zB (World.grownBy.refl _ _)⟩
 case round =>
  obtain ⟨k, rfl, hk, HO, HG⟩ := hrel
  by_cases hlt : k < ps.length
  ·have c0 : wr.cell? ⟨w.heap.size + 1, k, none⟩ = some (.int .i64 0) := by rw [(zA HO).cellAt k (by omega), zW _ _ _ hlt]; simp [iota]
   have f0 : wr.frozen? ⟨w.heap.size + 1, k, none⟩ = false := (zA HO).frozenAt k
   have i1 : (k : Int) < (ps.length : Int) := by omega
   have hst := (zA HO).stored k (.int .i64 k)
   rw [yq, iota_succ] at hst
   have HS1 := zB hst.1
   have HS2 := zB (grown_trans (zA HG) hst.2)
   clear hst
   go_wp2
   go_roundw
   case rel => exact ⟨k + 1, by go_num, hlt, HS1, HS2⟩
   case measure => simp [intOf]; omega
  ·obtain rfl : k = ps.length := by omega
   have hbel0 : Below w.heap.size w w1 := ((Below.refl _ _).alloc (Nat.le_refl _) _).trans (zG (zA HGW) (by simp) (fun k h => by cases h))
   have hsz1 := (zA HGW).size
   simp at hsz1
   have hbel : Below w.heap.size w wr := hbel0.trans (zG (zA HG) (by omega) (fun k h => by cases h; omega))
   have HB := zB hbel
   have cB : wr.cell? ⟨w.heap.size, 0, none⟩ = some (.slice ap ps.length cp) := by
    have h1 := (zA HGW).block w.heap.size (by simp) (by simp)
    have h2 := (zA HG).block w.heap.size (by omega) (by simp)
    rw [zC ((h2.trans h1).trans (heap_alloc_new w _))]; rfl
   have hszr := (zA HG).size
   clear hbel hbel0
   by_cases h0 : ps.length = 0
   ·obtain rfl : ps = [] := List.length_eq_zero_iff.1 h0
    have HS : Hid (∀ W, Calls Tryz.prog 112 #[.slice (some ⟨w.heap.size + 1, 0, none⟩) 0 0, .func (.func 113) #[] #[.pointer (some ⟨w.heap.size, 0, none⟩)]] W fun e w' => e = .returned (.tuple #[]) /\ w' = W) :=
     zB (fun W => AnyF.slices_SortFunc_none (P := Tryz.prog) (ρ := Tryz.sortL_ren) { Tryz.sortL with } (some ⟨w.heap.size + 1, 0, none⟩) 0 (.func (.func 113) #[] #[.pointer (some ⟨w.heap.size, 0, none⟩)]) W)
    clear h0
    go_wp2_with (go_at_call 112; refine (zA HS _).mono ?_; rintro e w' ⟨rfl, rfl⟩)
    go_ret
    refine ⟨w.heap.size + 1, [], rfl, by omega, ?_, ⟨rfl, List.Perm.refl _, fun i j _ h => absurd h (Nat.not_lt_zero _)⟩, zA HB⟩
    obtain ⟨cur, hcur⟩ := zK (zA HO)
    exact ⟨cur, hcur, Nat.zero_le _, fun j h => absurd h (Nat.not_lt_zero _)⟩
   ·obtain ⟨k, hk1⟩ : ∃ k, ps.length = k + 1 := ⟨ps.length - 1, by omega⟩
    obtain ⟨bp, op, hbp, hap, hpat⟩ := zA HP (by omega)
    have hbo1 := (jI (zA HO) (by omega)).2.1
    have hcmp : CmpLays1 Tryz.prog 113 #[.pointer (some ⟨w.heap.size, 0, none⟩)] (encN (k + 1)) (cfP ps (k + 1)) (w.heap.size + 1) 0 (k + 1) wr := by
     refine cmpLays wr w.heap.size bp op cp (w.heap.size + 1) k ps (by omega) (by omega) (by rw [cB, hap, hk1]) (by omega) ?_ (by omega)
     intro i hi
     obtain ⟨ao, c, h4, h5⟩ := hpat i (by omega)
     obtain ⟨b, o, hb', rfl, h6⟩ := h5 (zA HNE i (by omega))
     exact ⟨b, o, c, by omega, ((zA HB).cell (p := ⟨bp, op + i, none⟩) (by show bp < _; omega)).trans h4, fun j hj => ((zA HB).cell (p := ⟨b, o + j, none⟩) (by show b < _; omega)).trans (h6 j hj)⟩
    have hown := zA HO
    rw [hk1] at hown
    have eg : ∀ args w, (callFunc 113 args).run Tryz.prog w = .ok (.enter 113 args) w := enters_of Tryz.func113 (by kernel_rfl) rfl
    have hS := Any.slices_SortFunc Tryz.sortL (encN (k + 1)) (fun _ => rfl) (cfP ps (k + 1)) (swoP ps (k + 1)) 113 #[.pointer (some ⟨w.heap.size, 0, none⟩)] (w.heap.size + 1) 0 (k + 1) (Array.ofFn (fun i : Fin (k + 1) => i)) wr eg (by rw [Array.size_ofFn]; exact hcmp) (holds_iota hown) (by omega) (by rw [Array.size_ofFn]; omega)
    rw [Array.size_ofFn] at hS
    change Calls Tryz.prog 112 _ _ _ at hS
    have HS : Hid (Calls Tryz.prog 112 #[.slice (some ⟨w.heap.size + 1, 0, none⟩) ps.length ps.length, .func (.func 113) #[] #[.pointer (some ⟨w.heap.size, 0, none⟩)]] wr fun e w' => e = .returned (.tuple #[]) /\ ∃ (d' : Array (Fin (k + 1))) (n : Nat) (os : Array Obj), PermIn 0 (k + 1) (Array.ofFn (fun i : Fin (k + 1) => i)) d' /\ SortedIn (ltOf (cfP ps (k + 1))) 0 (k + 1) d' /\ w' = sortWorld (encN (k + 1)) wr (w.heap.size + 1) 0 n d' os) := zB (by rw [hk1]; exact hS)
    have HK1 := zB hk1
    have HAP := zB hap
    have HW := zB hown
    clear hS hcmp eg hown hpat hk1 hap
    go_wp2_with (go_at_call 112; refine (zA HS).mono ?_; rintro e w' ⟨rfl, d', n, os, hpm, hso, rfl⟩; have HPM := zB hpm; have HSO := zB hso; clear hpm hso)
    go_ret
    have hk1 := zA HK1
    have hpm := zA HPM
    have hso := zA HSO
    have hsz' : d'.size = k + 1 := by have := hpm.1; simpa using this
    exact ⟨w.heap.size + 1, _, rfl, by omega, ord_of hsz' (zA HW), order_of hk1 hpm hso, (zA HB).trans (zG (grown_put (encN (k + 1)) d') (by omega) (fun x hx => by cases hx; omega))⟩
end Go.Proofs.YtfpohfifdfbpkaaGreatDoor
