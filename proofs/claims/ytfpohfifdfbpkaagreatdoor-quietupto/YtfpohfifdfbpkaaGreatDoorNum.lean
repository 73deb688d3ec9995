import Derived.Test.YtfpohfifdfbpkaaGreatDoorRef
import Derived.Test.YtfpohfifdfbpkaaGreatDoorFileDef
import Derived.Lib.BufferRead
import Derived.Test.YtfpohfifdfbpkaaGreatDoorPackDef
namespace Go.Proofs.YtfpohfifdfbpkaaGreatDoor
open Go.RowKit Scour Go.Lib
theorem conv_one (W : World) (x : Int) (h0 : 0 <= x) (h1 : x < 256) : (convert 27 9 (.slice (some ⟨W.heap.size, 0, none⟩) 1 1)).run Tryz.prog (W.alloc (.cells #[.int .u8 x] 5)) = .ok (.string ⟨#[UInt8.ofNat x.toNat]⟩) (W.alloc (.cells #[.int .u8 x] 5)) :=
 run_convert_bytes_back _ 27 9 5 ⟨W.heap.size, 0, none⟩ 1 [UInt8.ofNat x.toNat] Tryz.underlying27 Tryz.underlying5 Tryz.underlying9 (fun j hj => by
  have : j = 0 := by simp at hj; exact hj
  subst this
  rw [zg, zC (w := W.alloc (.cells #[.int .u8 x] 5)) (heap_alloc_new W _) (0 + 0)]
  have e : ((UInt8.ofNat x.toNat).toNat : Int) = x := by
   rw [UInt8.toNat_ofNat']
   omega
  simp only [List.getElem_cons_zero, e]
  rfl)
set_option maxHeartbeats 1000000 in
set_option maxRecDepth 100000 in
theorem number_any (n : Nat) (w : World) (hn : n < 1000000000000) :
  Calls Tryz.prog 129 #[.int .i64 n] w fun e w' => e = .returned (.string ⟨(zN n).toArray⟩) /\ Below w.heap.size w w' := by
 go_enter Tryz.func129, Tryz.ntmps129
 go_wp2
 go_loopw [0, 3] (fun v0 v3 wr => ∃ (k : Nat) (x : Str), v0 = .int .i64 k /\ k <= n /\ x.length + k <= n + 1 /\ v3 = .string ⟨x.toArray⟩ /\ Hid (x ++ zN k = zN n) /\ Hid (Below w.heap.size w wr)) (fun v0 _ _ => (intOf v0).toNat)
 case atStart => exact ⟨n, [], rfl, Nat.le_refl _, by simp, rfl, zB rfl, zB (Below.refl _ _)⟩
 case round =>
  obtain ⟨k, x, rfl, hk, hx, rfl, HX, HB⟩ := hrel
  have e1 : ∀ b : UInt8, (⟨x.toArray⟩ : ByteArray) ++ (⟨#[b]⟩ : ByteArray) = ⟨(x ++ [b]).toArray⟩ := append_bytes x
  have hbA : ∀ ob, Below w.heap.size w (wr.alloc ob) := fun ob => (zA HB).alloc (zA HB).size _
  have HBA := zB hbA
  have hxs : (⟨x.toArray⟩ : ByteArray).size < 1000000000001 := by simp [ByteArray.size]; omega
  by_cases hb : k < 128
  ·have hcv := conv_one wr k (by omega) (by omega)
   have i1 : ¬ (128 : Int) <= (k : Int) := by omega
   have HR : Hid (x ++ [UInt8.ofNat k] = zN n) := zB (by rw [← zA HX, yH hb])
   rw [Int.toNat_natCast] at hcv
   have e2 := e1 (UInt8.ofNat k)
   clear e1 hbA
   generalize (⟨x.toArray⟩ : ByteArray) = tx at *
   go_wp2
   go_ret
   exact ⟨by rw [← zA HR, ← e2]; rfl, zA HBA _⟩
  ·have hcv := conv_one wr ((k : Int) % 128 + 128) (by omega) (by omega)
   have i1 : (128 : Int) <= (k : Int) := by omega
   have HR : Hid ((x ++ [UInt8.ofNat ((k : Int) % 128 + 128).toNat]) ++ zN (k / 128) = zN n) := zB (by
    rw [← zA HX, numS_big hb, show ((k : Int) % 128 + 128).toNat = k % 128 + 128 by omega]; simp)
   have e2 := e1 (UInt8.ofNat ((k : Int) % 128 + 128).toNat)
   clear e1 hbA
   generalize UInt8.ofNat ((k : Int) % 128 + 128).toNat = u at *
   generalize ht : (⟨x.toArray⟩ : ByteArray) = tx at *
   clear ht
   go_wp2
   go_roundw
   case rel => exact ⟨k / 128, x ++ [u], by go_num, by omega, by simp; omega, rfl, HR, zB (zA HBA _)⟩
   case measure => simp [intOf]; omega
set_option maxHeartbeats 1000000 in
set_option maxRecDepth 100000 in
theorem bit_any (s : Str) (i : Nat) (w : World) (hi : i < 1000000000000) :
  Calls Tryz.prog 147 #[.string ⟨s.toArray⟩, .int .i64 i] w fun e w' => e = .returned (.int .i64 (bitOf s i)) /\ w' = w := by
 obtain ⟨tx, htx⟩ : ∃ tx, tx = (⟨s.toArray⟩ : ByteArray) := ⟨_, rfl⟩
 have hsz : tx.size = s.length := by rw [htx]; simp [ByteArray.size]
 by_cases h0 : s.length <= i / 8
 ·have HR : Hid (bitOf s i = 0) := zB (by unfold bitOf; rw [if_pos h0])
  rw [← htx]
  clear htx
  have i1 : (tx.size : Int) <= (i : Int) / 8 := by omega
  go_enter Tryz.func147, Tryz.ntmps147
  go_wp2
  go_ret
  exact ⟨by rw [zA HR]; rfl, rfl⟩
 ·have hl : i / 8 < tx.size := by omega
  have hg : tx[i / 8] = s.getD (i / 8) 0 := by
   subst htx
   simp only [ByteArray.getElem_eq_getElem_data, List.getElem_toArray]
   simp [List.getD, show i / 8 < s.length by omega]
  have HR : Hid (bitOf s i = tx[i / 8].toNat / 2 ^ (7 - i % 8) % 2) := zB (by unfold bitOf; rw [if_neg h0, hg])
  have hu : tx[i / 8].toNat < 256 := tx[i / 8].toNat_lt
  rw [← htx]
  clear htx hg
  have i1 : ¬ (tx.size : Int) <= (i : Int) / 8 := by omega
  go_enter Tryz.func147, Tryz.ntmps147
  go_wp2
  go_loop [5, 6] (fun v5 v6 => ∃ k : Nat, v6 = .int .i64 k /\ i % 8 <= k /\ k <= 7 /\ v5 = .int .i64 ((tx[i / 8].toNat / 2 ^ (k - i % 8) : Nat) : Int)) (fun _ v6 => 7 - (intOf v6).toNat)
  case atStart => exact ⟨i % 8, by go_num, Nat.le_refl _, by omega, by simp⟩
  case round =>
   obtain ⟨k, rfl, h1, h2, rfl⟩ := hrel
   by_cases hlt : k < 7
   ·have HX : Hid (((tx[i / 8].toNat / 2 ^ (k - i % 8) : Nat) : Int) / 2 = ((tx[i / 8].toNat / 2 ^ (k + 1 - i % 8) : Nat) : Int)) := zB (by
     rw [show k + 1 - i % 8 = (k - i % 8) + 1 by omega, Nat.pow_succ, ← Nat.div_div_eq_div_mul]; omega)
    have hx : tx[i / 8].toNat / 2 ^ (k - i % 8) < 256 := Nat.lt_of_le_of_lt (Nat.div_le_self _ _) hu
    generalize tx[i / 8].toNat / 2 ^ (k - i % 8) = x at *
    go_wp2
    go_round
    case rel => exact ⟨k + 1, by go_num, by omega, by omega, by rw [← zA HX]⟩
    case measure => simp [intOf]; omega
   ·obtain rfl : k = 7 := by omega
    have hx : tx[i / 8].toNat / 2 ^ (7 - i % 8) < 256 := Nat.lt_of_le_of_lt (Nat.div_le_self _ _) hu
    generalize tx[i / 8].toNat / 2 ^ (7 - i % 8) = x at *
    go_wp2
    go_ret
    exact ⟨by rw [zA HR]; rfl, rfl⟩
end Go.Proofs.YtfpohfifdfbpkaaGreatDoor
namespace Go.Proofs.YtfpohfifdfbpkaaGreatDoor
open Go.RowKit Scour Go.Lib
set_option maxHeartbeats 4000000 in
set_option maxRecDepth 100000 in
theorem sum_any (s : Str) (w : World) (hs : s.length < 100000000) :
  Calls Tryz.prog 124 #[.string ⟨s.toArray⟩] w fun e w' => e = .returned (.string ⟨(yK s).toArray⟩) /\ Below w.heap.size w w' := by
 obtain ⟨i0, hi, hz0, hz1, hz2⟩ := info_parts Tryz.infoI
 obtain ⟨j0, hj, hy0, hy1, hy2⟩ := info_parts Tryz.infoB
 have HBT : Hid (∀ (i : Nat) (W : World), i < 1000000000000 -> Calls Tryz.prog 147 #[.string ⟨s.toArray⟩, .int .i64 i] W fun e w' => e = .returned (.int .i64 (bitOf s i)) /\ w' = W) := zB (fun i W h => bit_any s i W h)
 have hsz : (⟨s.toArray⟩ : ByteArray).size = s.length := by simp [ByteArray.size]
 obtain ⟨tx, htx⟩ : ∃ tx, tx = (⟨s.toArray⟩ : ByteArray) := ⟨_, rfl⟩
 rw [← htx] at HBT hsz ⊢
 clear htx
 have HN : Hid ((8 : Int) * (s.length : Int) + 32 = ((8 * s.length + 32 : Nat) : Int)) := zB (by omega)
 go_enter Tryz.func124, Tryz.ntmps124
 go_wp2_with (first | (at_make; go_loud (refine wpList_make_full _ rfl (.tmp 15) (.tmp 15) 24 rfl w.heap.size 3 i0 (.int .i64 0) 1 Tryz.underlying24 hi hz0 hz1 .i64 .i64 _ _ (8 * s.length + 32) rfl rfl (zA HN) (zA HN) (by rw [hz2]; omega) (by unfold maxLen; omega) (Nat.le_refl _) ?_); intro w1 hown hgrow; have HOW := zB hown; have HGW := zB hgrow; clear hown hgrow))
 have HBB := zB (bits_bitsI s)
 obtain ⟨B, hB⟩ : ∃ B, B = bitsI s := ⟨_, rfl⟩
 have HBE : Hid (∀ j, B j = (bitOf s j : Nat)) := zB (fun j => by rw [hB]; rfl)
 rw [← hB] at HBB
 have HSU : Hid (yK s = (List.range 4).map fun i => UInt8.ofNat (zd (dvTo B (8 * s.length)) (8 * s.length + 8 * i) 8).toNat) := zB (by rw [hB]; rfl)
 clear hB
 have HR0 : Hid (w1.ownsRow w.heap.size 3 1 (.slice (some ⟨w.heap.size, 0, none⟩) (8 * s.length + 32) (8 * s.length + 32)) (8 * s.length + 32) (zZ (fun _ => 0) (8 * s.length + 32))) := zB (by
  have := zA HOW
  rw [Nat.mul_one, show (Value.int .i64 0).cells = #[.int .i64 0] from rfl, zeros_ints] at this
  exact this)
 have HB0 : Hid (Below w.heap.size w w1) := zB (zG (zA HGW) (Nat.le_refl _) (fun k h => by cases h))
 clear HOW HGW HN
 generalize hss : yK s = out at *
 have HSS := zB hss
 clear hss
 generalize hbk : w.heap.size = bk at *
 have HBK := zB hbk
 clear hbk
 go_loopw [5] (fun v5 wr => ∃ (k : Nat) (E : Nat -> Int), v5 = .int .i64 k /\ k <= 8 * s.length + 32 /\ Hid (wr.ownsRow bk 3 1 (.slice (some ⟨bk, 0, none⟩) (8 * s.length + 32) (8 * s.length + 32)) (8 * s.length + 32) (zZ E (8 * s.length + 32))) /\ Hid (∀ j, j < k -> E j = B j) /\ Hid (Below bk w wr)) (fun v5 _ => 8 * s.length + 32 - (intOf v5).toNat)
 case atStart => exact ⟨0, fun _ => 0, rfl, Nat.zero_le _, HR0, zB (fun j h => absurd h (Nat.not_lt_zero _)), HB0⟩
 case round =>
  obtain ⟨k, E, rfl, hk, HR, HE, HB⟩ := hrel
  by_cases hlt : k < 8 * s.length + 32
  ·have c1 : wr.cell? ⟨bk, k, none⟩ = some (.int .i64 (E k)) := by rw [(zA HR).cellAt k (by omega), zW _ _ _ hlt]
   have f1 : wr.frozen? ⟨bk, k, none⟩ = false := (zA HR).frozenAt k
   have HBC := zB (zA HBT k wr (by omega))
   have HR2 : Hid ((wr.setCell ⟨bk, k, none⟩ (.int .i64 (bitOf s k : Nat))).ownsRow bk 3 1 (.slice (some ⟨bk, 0, none⟩) (8 * s.length + 32) (8 * s.length + 32)) (8 * s.length + 32) (zZ (upd E k (bitOf s k : Nat)) (8 * s.length + 32))) := zB (by
    have := ((zA HR).stored k (.int .i64 (bitOf s k : Nat))).1
    rw [yq] at this
    exact this)
   have HE2 : Hid (∀ j, j < k + 1 -> upd E k (bitOf s k : Nat) j = B j) := zB (fun j hj => by
    unfold upd
    split
    ·rename_i e; rw [e, zA HBE]
    ·exact zA HE j (by omega))
   have HB2 : Hid (Below bk w (wr.setCell ⟨bk, k, none⟩ (.int .i64 (bitOf s k : Nat)))) := zB ((zA HB).setCell (Nat.le_refl _) _)
   have i1 : (k : Int) < 8 * (s.length : Int) + 32 := by omega
   have i2 : (0 : Int) <= (k : Int) := by omega
   generalize bitOf s k = x at *
   go_wp2_with (go_at_call 147; refine (zA HBC).mono ?_; rintro e w' ⟨rfl, hw⟩; have hw' := hw.symm; clear hw; subst hw')
   go_roundw
   case rel => exact ⟨k + 1, _, by go_num, hlt, HR2, HE2, HB2⟩
   case measure => simp [intOf]; omega
  ·obtain rfl : k = 8 * s.length + 32 := by omega
   have i1 : ¬ ((8 * s.length + 32 : Nat) : Int) < 8 * (s.length : Int) + 32 := by omega
   have HR1 : Hid (wr.ownsRow bk 3 1 (.slice (some ⟨bk, 0, none⟩) (8 * s.length + 32) (8 * s.length + 32)) (8 * s.length + 32) (zZ (dvTo B 0) (8 * s.length + 32))) := zB (by
    have := zA HR
    rw [intsF_congr (zA HE)] at this
    exact this)
   go_wp2
   go_loopw [6] (fun v6 wr => ∃ i : Nat, v6 = .int .i64 i /\ i <= 8 * s.length /\ Hid (wr.ownsRow bk 3 1 (.slice (some ⟨bk, 0, none⟩) (8 * s.length + 32) (8 * s.length + 32)) (8 * s.length + 32) (zZ (dvTo B i) (8 * s.length + 32))) /\ Hid (Below bk w wr)) (fun v6 _ => 8 * s.length - (intOf v6).toNat)
   case atStart => exact ⟨0, rfl, Nat.zero_le _, HR1, HB⟩
   case round =>
    obtain ⟨i, rfl, hi8, HRi, HBi⟩ := hrel
    by_cases hil : i < 8 * s.length
    ·have hbit := (zA HBB).dvTo i
     have HDV : Hid (dvTo B (i + 1) = dv (dvTo B i) i) := zB rfl
     obtain ⟨E, hE⟩ : ∃ E, dvTo B i = E := ⟨_, rfl⟩
     rw [hE] at hbit HDV HRi
     clear hE
     have c0 : wr.cell? ⟨bk, i, none⟩ = some (.int .i64 (E i)) := by rw [(zA HRi).cellAt i (by omega), zW _ _ _ (by omega)]
     have j1 : (i : Int) + 32 < 8 * (s.length : Int) + 32 := by omega
     have j2 : (0 : Int) <= (i : Int) := by omega
     by_cases h1 : E i = 1
     ·have f0 : wr.frozen? ⟨bk, i, none⟩ = false := (zA HRi).frozenAt i
      have r1 := ((zA HRi).stored i (.int .i64 0)).1
      rw [yq] at r1
      have b1 := hbit.upd i 0 (Or.inl rfl)
      obtain ⟨E1, hE1⟩ : ∃ E1, E1 = upd E i 0 := ⟨_, rfl⟩
      rw [← hE1] at r1 b1
      have c1 : (wr.setCell ⟨bk, i, none⟩ (.int .i64 0)).cell? ⟨bk, i + 10, none⟩ = some (.int .i64 (E1 (i + 10))) := by rw [r1.cellAt (i + 10) (by omega), zW _ _ _ (by omega)]
      have f1 := r1.frozenAt (i + 10)
      have q1 := b1 (i + 10)
      have r2 := (r1.stored (i + 10) (.int .i64 (1 - E1 (i + 10)))).1
      rw [yq] at r2
      have b2 := b1.flip (i + 10)
      obtain ⟨E2, hE2⟩ : ∃ E2, E2 = flipI E1 (i + 10) := ⟨_, rfl⟩
      have e2 : upd E1 (i + 10) (1 - E1 (i + 10)) = E2 := hE2.symm
      rw [e2] at r2
      rw [← hE2] at b2
      generalize E1 (i + 10) = x1 at c1 q1 r2
      have c2 : ((wr.setCell ⟨bk, i, none⟩ (.int .i64 0)).setCell ⟨bk, i + 10, none⟩ (.int .i64 (1 - x1))).cell? ⟨bk, i + 30, none⟩ = some (.int .i64 (E2 (i + 30))) := by rw [r2.cellAt (i + 30) (by omega), zW _ _ _ (by omega)]
      have f2 := r2.frozenAt (i + 30)
      have q2 := b2 (i + 30)
      have r3 := (r2.stored (i + 30) (.int .i64 (1 - E2 (i + 30)))).1
      rw [yq] at r3
      have b3 := b2.flip (i + 30)
      obtain ⟨E3, hE3⟩ : ∃ E3, E3 = flipI E2 (i + 30) := ⟨_, rfl⟩
      have e3 : upd E2 (i + 30) (1 - E2 (i + 30)) = E3 := hE3.symm
      rw [e3] at r3
      rw [← hE3] at b3
      generalize E2 (i + 30) = x2 at c2 q2 r3
      have c3 : (((wr.setCell ⟨bk, i, none⟩ (.int .i64 0)).setCell ⟨bk, i + 10, none⟩ (.int .i64 (1 - x1))).setCell ⟨bk, i + 30, none⟩ (.int .i64 (1 - x2))).cell? ⟨bk, i + 31, none⟩ = some (.int .i64 (E3 (i + 31))) := by rw [r3.cellAt (i + 31) (by omega), zW _ _ _ (by omega)]
      have f3 := r3.frozenAt (i + 31)
      have q3 := b3 (i + 31)
      have r4 := (r3.stored (i + 31) (.int .i64 (1 - E3 (i + 31)))).1
      rw [yq] at r4
      have b4 := b3.flip (i + 31)
      obtain ⟨E4, hE4⟩ : ∃ E4, E4 = flipI E3 (i + 31) := ⟨_, rfl⟩
      have e4 : upd E3 (i + 31) (1 - E3 (i + 31)) = E4 := hE4.symm
      rw [e4] at r4
      rw [← hE4] at b4
      generalize E3 (i + 31) = x3 at c3 q3 r4
      have c4 : ((((wr.setCell ⟨bk, i, none⟩ (.int .i64 0)).setCell ⟨bk, i + 10, none⟩ (.int .i64 (1 - x1))).setCell ⟨bk, i + 30, none⟩ (.int .i64 (1 - x2))).setCell ⟨bk, i + 31, none⟩ (.int .i64 (1 - x3))).cell? ⟨bk, i + 32, none⟩ = some (.int .i64 (E4 (i + 32))) := by rw [r4.cellAt (i + 32) (by omega), zW _ _ _ (by omega)]
      have f4 := r4.frozenAt (i + 32)
      have q4 := b4 (i + 32)
      have r5 := (r4.stored (i + 32) (.int .i64 (1 - E4 (i + 32)))).1
      rw [yq] at r5
      obtain ⟨E5, hE5⟩ : ∃ E5, E5 = flipI E4 (i + 32) := ⟨_, rfl⟩
      have e5 : upd E4 (i + 32) (1 - E4 (i + 32)) = E5 := hE5.symm
      rw [e5] at r5
      generalize E4 (i + 32) = x4 at c4 q4 r5
      have HR5 : Hid ((((((wr.setCell ⟨bk, i, none⟩ (.int .i64 0)).setCell ⟨bk, i + 10, none⟩ (.int .i64 (1 - x1))).setCell ⟨bk, i + 30, none⟩ (.int .i64 (1 - x2))).setCell ⟨bk, i + 31, none⟩ (.int .i64 (1 - x3))).setCell ⟨bk, i + 32, none⟩ (.int .i64 (1 - x4))).ownsRow bk 3 1 (.slice (some ⟨bk, 0, none⟩) (8 * s.length + 32) (8 * s.length + 32)) (8 * s.length + 32) (zZ (dvTo B (i + 1)) (8 * s.length + 32))) := zB (by
       rw [zA HDV, dv, if_pos h1, ← hE1, ← hE2, ← hE3, ← hE4, ← hE5]
       exact r5)
      have HB5 : Hid (Below bk w (((((wr.setCell ⟨bk, i, none⟩ (.int .i64 0)).setCell ⟨bk, i + 10, none⟩ (.int .i64 (1 - x1))).setCell ⟨bk, i + 30, none⟩ (.int .i64 (1 - x2))).setCell ⟨bk, i + 31, none⟩ (.int .i64 (1 - x3))).setCell ⟨bk, i + 32, none⟩ (.int .i64 (1 - x4)))) := zB ((((((zA HBi).setCell (Nat.le_refl _) _).setCell (Nat.le_refl _) _).setCell (Nat.le_refl _) _).setCell (Nat.le_refl _) _).setCell (Nat.le_refl _) _)
      rw [h1] at c0
      clear r1 r2 r3 r4 r5 b1 b2 b3 b4 hE1 hE2 hE3 hE4 hE5 e2 e3 e4 e5 h1 hbit HDV HRi HBi
      go_wp2
      go_roundw
      case rel => exact ⟨i + 1, by go_num, hil, HR5, HB5⟩
      case measure => simp [intOf]; omega
     ·have h0 : E i = 0 := by have := hbit i; omega
      rw [h0] at c0
      have HR2 : Hid (wr.ownsRow bk 3 1 (.slice (some ⟨bk, 0, none⟩) (8 * s.length + 32) (8 * s.length + 32)) (8 * s.length + 32) (zZ (dvTo B (i + 1)) (8 * s.length + 32))) := zB (by
       rw [zA HDV, dv, if_neg h1]; exact zA HRi)
      clear h1 h0 hbit HDV
      go_wp2
      go_roundw
      case rel => exact ⟨i + 1, by go_num, hil, HR2, HBi⟩
      case measure => simp [intOf]; omega
    ·obtain rfl : i = 8 * s.length := by omega
     have hbit := (zA HBB).dvTo (8 * s.length)
     obtain ⟨D, hD⟩ : ∃ D, dvTo B (8 * s.length) = D := ⟨_, rfl⟩
     rw [hD] at hbit HRi HSU
     clear hD
     have HBD := zB hbit
     have hol : out.length = 4 := by rw [zA HSU]; simp
     have HOG : Hid (∀ i, i < 4 -> out[i]? = some (UInt8.ofNat (zd D (8 * s.length + 8 * i) 8).toNat)) := zB (fun i hi => by rw [zA HSU]; simp [hi])
     clear hbit HSU
     have j1 : ¬ ((8 * s.length : Nat) : Int) + 32 < 8 * (s.length : Int) + 32 := by omega
     go_wp2
     go_loopw [7, 8] (fun v7 v8 wr => ∃ i : Nat, v8 = .int .i64 i /\ i <= 4 /\ Hid (wr.ownsRow bk 5 1 v7 i ((out.take i).map zT)) /\ Hid (wr.ownsRow bk 3 1 (.slice (some ⟨bk, 0, none⟩) (8 * s.length + 32) (8 * s.length + 32)) (8 * s.length + 32) (zZ D (8 * s.length + 32))) /\ Hid (Below bk w wr)) (fun _ v8 _ => 4 - (intOf v8).toNat)
     case atStart => exact ⟨0, rfl, Nat.zero_le _, zB (World.ownsRow_nil _ _ _ _), HRi, HBi⟩
     case round =>
      obtain ⟨i, rfl, hi4, HO, HR, HB⟩ := hrel
      by_cases hil : i < 4
      ·have k1 : (i : Int) < 4 := by omega
       go_wp2
       go_loop [9, 10] (fun v9 v10 => ∃ k : Nat, v10 = .int .i64 k /\ k <= 8 /\ v9 = .int .i64 (zd D (8 * s.length + 8 * i) k)) (fun _ v10 => 8 - (intOf v10).toNat)
       case atStart => exact ⟨0, rfl, Nat.zero_le _, rfl⟩
       case round =>
        obtain ⟨k, rfl, hk8, rfl⟩ := hrel
        by_cases hkl : k < 8
        ·have c0 : wr.cell? ⟨bk, 8 * s.length + 8 * i + k, none⟩ = some (.int .i64 (D (8 * s.length + 8 * i + k))) := by rw [(zA HR).cellAt _ (by omega), zW _ _ _ (by omega)]
         have q := zA HBD (8 * s.length + 8 * i + k)
         have hy := byteI_lt (zA HBD) (8 * s.length + 8 * i) k
         have hy2 : (2 : Int) ^ k <= 256 := by
          have : k = 0 \/ k = 1 \/ k = 2 \/ k = 3 \/ k = 4 \/ k = 5 \/ k = 6 \/ k = 7 := by omega
          rcases this with rfl | rfl | rfl | rfl | rfl | rfl | rfl | rfl <;> decide
         have HY : Hid (zd D (8 * s.length + 8 * i) (k + 1) = 2 * zd D (8 * s.length + 8 * i) k + D (8 * s.length + 8 * i + k)) := zB rfl
         obtain ⟨hya, hyb⟩ := hy
         have hyc : zd D (8 * s.length + 8 * i) k < 256 := by omega
         clear hyb hy2
         generalize zd D (8 * s.length + 8 * i) k = y at *
         generalize D (8 * s.length + 8 * i + k) = z at *
         go_wp2
         go_round
         case rel => exact ⟨k + 1, by go_num, hkl, by rw [zA HY]⟩
         case measure => simp [intOf]; omega
        ·obtain rfl : k = 8 := by omega
         obtain ⟨hya, hyb⟩ := byteI_lt (zA HBD) (8 * s.length + 8 * i) 8
         have hyc : zd D (8 * s.length + 8 * i) 8 < 256 := by simpa using hyb
         have hszr : bk <= wr.heap.size := by
          have h1 := (zA HB).size
          have h2 := zA HBK
          omega
         have HOi := zB (zA HOG i hil)
         clear hyb
         generalize zd D (8 * s.length + 8 * i) 8 = y at *
         have HNX : Hid (∀ g' cap' w4, w4.ownsRow bk 5 1 (.slice (some ⟨g', 0, none⟩) (i + 1) cap') (i + 1) ((out.take i).map zT ++ [.int .u8 y]) -> (wr.alloc (.cells #[.int .u8 y] 5)).grownBy w4 u7.ownBlock -> (u7.ownBlock = some g' \/ g' = wr.heap.size + 1) -> w4.ownsRow bk 5 1 (.slice (some ⟨g', 0, none⟩) (i + 1) cap') (i + 1) ((out.take (i + 1)).map zT) /\ w4.ownsRow bk 3 1 (.slice (some ⟨bk, 0, none⟩) (8 * s.length + 32) (8 * s.length + 32)) (8 * s.length + 32) (zZ D (8 * s.length + 32)) /\ Below bk w w4) := zB (fun g' cap' w4 ho hg hat => by
          have e3 : zT (UInt8.ofNat y.toNat) = .int .u8 y := by
           unfold zT
           rw [UInt8.toNat_ofNat', Nat.mod_eq_of_lt (by omega), Int.toNat_of_nonneg hya]
          refine ⟨?_, ?_, (y8 ((zA HB).alloc (by omega) _) (by simp; omega) (yN (zA HO)) hg hat (by simp)).1⟩
          ·rw [List.take_add_one, zA HOi]
           simp only [Option.toList_some, List.map_append, List.map_cons, List.map_nil, e3]
           exact ho
          ·obtain ⟨cur, hcur⟩ := zK (zA HR)
           have hl := (Array.getElem?_eq_some_iff.1 hcur).1
           refine yp (zA HR) ?_
           rw [hg.block bk (by simp; omega) (fun e => ?_), Below.heap_alloc _ _ bk hl]
           obtain ⟨cur2, hc2⟩ := zD (zA HO) e.symm
           exact zH hcur hc2 (by decide) rfl)
         go_wp2_with (at_builtin; refine wpList_append_lies _ rfl (.tmp 103) (.tmp 106) 27 rfl bk 5 j0 (.int .u8 0) 1 1 Tryz.underlying27 hj hy0 hy1 hy2 rfl (by decide) _ i ((out.take i).map zT) rfl ((zA HO).alloc _) ⟨wr.heap.size, 0, none⟩ 1 1 [.int .u8 y] rfl rfl (World.news_of_block (heap_alloc_new wr _)) (by intro u hu; simp at hu; subst hu; rfl) (by omega) (by unfold maxLen; omega) (by omega) (by simp; omega) (wr.heap.size + 1) (by simp) ?_; intro g' cap' w4 hown' hgrow hat hlt'; obtain ⟨q1, q2, q3⟩ := zA HNX g' cap' w4 hown' hgrow hat; have HQ1 := zB q1; have HQ2 := zB q2; have HQ3 := zB q3; clear hown' hgrow hat q1 q2 q3)
         go_roundw
         case rel => exact ⟨i + 1, by go_num, hil, HQ1, HQ2, HQ3⟩
         case measure => simp [intOf]; omega
      ·obtain rfl : i = 4 := by omega
       rcases (zA HO).2 with ⟨_, h0⟩ | ⟨g, cap, cur, rfl, _⟩
       ·omega
       ·have hcv : (convert 27 9 (.slice (some ⟨g, 0, none⟩) out.length cap)).run Tryz.prog wr = .ok (.string ⟨out.toArray⟩) wr := conv_back (fun j hj => by
         rw [Nat.zero_add, (zA HO).cellAt j (by omega)]
         simp [zT, List.getD, show j < 4 by omega, show j < out.length by omega])
        rw [hol] at hcv
        go_wp2
        go_ret
        exact ⟨by rw [zA HSS]; rfl, by rw [zA HBK]; exact zA HB⟩
end Go.Proofs.YtfpohfifdfbpkaaGreatDoor
namespace Go.Proofs.YtfpohfifdfbpkaaGreatDoor
open Go.RowKit Scour Go.Lib
theorem any_take {α : Type} (l : List α) (f : α -> Bool) (k : Nat) (h : k < l.length) : (l.take (k + 1)).any f = ((l.take k).any f || f l[k]) := by
 rw [List.take_succ_eq_append_getElem h, List.any_append]; simp
theorem any_of_take {α : Type} (l : List α) (f : α -> Bool) (k : Nat) (h : (l.take k).any f = true) : l.any f = true := by
 rw [List.any_eq_true] at h ⊢
 obtain ⟨x, hx, hf⟩ := h
 exact ⟨x, List.mem_of_mem_take hx, hf⟩
set_option maxHeartbeats 4000000 in
set_option maxRecDepth 100000 in
theorem classes_any (br gS cS : Nat) (vL : Value) (ps S : List Str) (w : World) (hM : yZ w br vL gS cS ps S) (hps : ps.length <= 64) (hpl : ∀ i, i < ps.length -> (pat ps i).length <= 64) :
  Calls Tryz.prog 128 #[.pointer (some ⟨br, 0, none⟩)] w fun e w' => e = .returned (.string ⟨(zL ps).toArray⟩) /\ Below w.heap.size w w' := by
 obtain ⟨j0, hj, hy0, hy1, hy2⟩ := info_parts Tryz.infoB
 obtain ⟨aL, cL, hvL⟩ : ∃ aL cL, vL = .slice aL ps.length cL := by
  rcases hM.lrow.2 with ⟨h, h0⟩ | ⟨g, cap, cur, h, _⟩
  ·exact ⟨none, 0, by rw [h, h0]⟩
  ·exact ⟨_, cap, h⟩
 subst hvL
 have HCE : Hid (∀ W, Below w.heap.size w W -> W.cell? ⟨br, 0, none⟩ = some (.slice aL ps.length cL) /\ (0 < ps.length -> ∃ gL, aL = some ⟨gL, 0, none⟩ /\ ∀ i, i < ps.length -> W.cell? ⟨gL, i, none⟩ = some (.string ⟨(pat ps i).toArray⟩))) := zB (fun W hb => by
  have hM2 := hM.below hb
  refine ⟨by rw [zC hM2.blk]; rfl, fun h0 => ?_⟩
  rcases hM2.lrow.2 with ⟨h, h1⟩ | ⟨gL, cap, cur, h, _, hg, _⟩
  ·omega
  ·obtain ⟨rfl, rfl⟩ : aL = some ⟨gL, 0, none⟩ /\ cL = cap := by simpa using h
   exact ⟨gL, rfl, fun i hi => cellT hM2.lrow rfl i hi⟩)
 have HPL := zB hpl
 clear hM hpl
 go_enter Tryz.func128, Tryz.ntmps128
 go_wp2
 go_loopw [3, 4] (fun v3 v4 wr => ∃ b : Nat, v4 = .int .i64 b /\ b <= 256 /\ Hid (wr.ownsRow w.heap.size 5 1 v3 (jN ps b).length ((jN ps b).map zT)) /\ Hid (Below w.heap.size w wr)) (fun _ v4 _ => 256 - (intOf v4).toNat)
 case atStart => exact ⟨0, rfl, Nat.zero_le _, zB (World.ownsRow_nil _ _ _ _), zB (Below.refl _ _)⟩
 case round =>
  obtain ⟨b, rfl, hb, HO, HB⟩ := hrel
  obtain ⟨c0, hLc⟩ := zA HCE wr (zA HB)
  have HLC := zB hLc
  have hsz := (zA HB).size
  clear hLc
  by_cases hlt : b < 256
  ·have i1 : (b : Int) < 256 := by omega
   go_wp2
   go_loop [5, 6] (fun v5 v6 => ∃ (i : Nat) (x : Bool), v5 = .bool x /\ v6 = .int .i64 i /\ i <= ps.length /\ Hid (x = (ps.take i).any fun p => p.any fun c => c.toNat == b)) (fun _ v6 => ps.length - (intOf v6).toNat)
   case atStart => exact ⟨0, false, rfl, rfl, Nat.zero_le _, zB (by simp)⟩
   case round =>
    obtain ⟨i, x, rfl, rfl, hi, HX⟩ := hrel
    by_cases hgo : i < ps.length /\ x = false
    ·obtain ⟨hil, rfl⟩ := hgo
     obtain ⟨gL, rfl, hcell⟩ := zA HLC (by omega)
     have c1 := hcell i hil
     have hpi := zA HPL i hil
     have hsz : (⟨(pat ps i).toArray⟩ : ByteArray).size = (pat ps i).length := by simp [ByteArray.size]
     have HTK : Hid (∀ k (hk : k < (⟨(pat ps i).toArray⟩ : ByteArray).size), ((pat ps i).take (k + 1)).any (fun c => c.toNat == b) = (((pat ps i).take k).any (fun c => c.toNat == b) || ((⟨(pat ps i).toArray⟩ : ByteArray)[k].toNat == b))) := zB (fun k hk => by
      rw [any_take _ _ k (by rw [← hsz]; exact hk)]; rfl)
     have HEND : Hid ((ps.take (i + 1)).any (fun p => p.any fun c => c.toNat == b) = (pat ps i).any (fun c => c.toNat == b)) := zB (by
      rw [any_take _ _ i hil, ← zA HX]
      simp [pat, List.getD, hil])
     have j1 : (i : Int) < (ps.length : Int) := by omega
     have j2 : (0 : Int) <= (i : Int) := by omega
     rw [← hsz] at hpi
     have HSZ := zB hsz
     clear hsz hcell
     generalize (⟨(pat ps i).toArray⟩ : ByteArray) = tx at *
     go_wp2
     go_loop [5, 7] (fun v5 v7 => ∃ (k : Nat) (x : Bool), v5 = .bool x /\ v7 = .int .i64 k /\ k <= tx.size /\ Hid (x = ((pat ps i).take k).any fun c => c.toNat == b)) (fun _ v7 => tx.size - (intOf v7).toNat)
     case atStart => exact ⟨0, false, rfl, rfl, Nat.zero_le _, zB (by simp)⟩
     case round =>
      obtain ⟨k, x, rfl, rfl, hk, HX2⟩ := hrel
      by_cases hkl : k < tx.size
      ·have HT := zB (zA HTK k hkl)
       have hu : tx[k].toNat < 256 := tx[k].toNat_lt
       have k1 : (k : Int) < (tx.size : Int) := by omega
       cases x with
       | true =>
         have HX3 : Hid (true = ((pat ps i).take (k + 1)).any fun c => c.toNat == b) := zB (by rw [zA HT, ← zA HX2]; rfl)
         go_wp2
         go_round
         case rel => exact ⟨k + 1, true, rfl, by go_num, hkl, HX3⟩
         case measure => simp [intOf]; omega
       | false =>
         by_cases he : tx[k].toNat = b
         ·have HX3 : Hid (true = ((pat ps i).take (k + 1)).any fun c => c.toNat == b) := zB (by rw [zA HT, ← zA HX2, he]; simp)
          have e1 : ((tx[k].toNat : Int) == (b : Int)) = true := by rw [he]; simp
          clear he
          go_wp2
          go_round
          case rel => exact ⟨k + 1, true, rfl, by go_num, hkl, HX3⟩
          case measure => simp [intOf]; omega
         ·have HX3 : Hid (false = ((pat ps i).take (k + 1)).any fun c => c.toNat == b) := zB (by rw [zA HT, ← zA HX2]; simp [he])
          have e1 : ((tx[k].toNat : Int) == (b : Int)) = false := by simp only [beq_eq_false_iff_ne, ne_eq]; omega
          clear he
          go_wp2
          go_round
          case rel => exact ⟨k + 1, false, rfl, by go_num, hkl, HX3⟩
          case measure => simp [intOf]; omega
      ·obtain rfl : k = tx.size := by omega
       have k1 : ¬ (tx.size : Int) < (tx.size : Int) := by omega
       have HX3 : Hid (x = (ps.take (i + 1)).any fun p => p.any fun c => c.toNat == b) := zB (by
        rw [zA HX2, zA HEND, zA HSZ, List.take_length])
       go_wp2
       go_round
       case rel => exact ⟨i + 1, x, rfl, by go_num, hil, HX3⟩
       case measure => simp [intOf]; omega
    ·have HOC : Hid (occB ps b = x) := zB (by
      cases x with
      | true => exact any_of_take _ _ i (zA HX).symm
      | false =>
        have : i = ps.length := by
         rcases Nat.lt_or_ge i ps.length with h | h
         ·exact absurd ⟨h, rfl⟩ hgo
         ·omega
        subst this
        have := zA HX
        rw [List.take_length] at this
        exact this.symm)
     have HSU := zB (clsTo_succ ps b)
     have hcl := clsTo_len ps b
     cases x with
     | true =>
       have HNX : Hid (∀ g' cap' w4, w4.ownsRow w.heap.size 5 1 (.slice (some ⟨g', 0, none⟩) ((jN ps b).length + 1) cap') ((jN ps b).length + 1) ((jN ps b).map zT ++ [.int .u8 b]) -> (wr.alloc (.cells #[.int .u8 b] 5)).grownBy w4 u3.ownBlock -> (u3.ownBlock = some g' \/ g' = wr.heap.size + 1) -> w4.ownsRow w.heap.size 5 1 (.slice (some ⟨g', 0, none⟩) ((jN ps b).length + 1) cap') (jN ps (b + 1)).length ((jN ps (b + 1)).map zT) /\ Below w.heap.size w w4) := zB (fun g' cap' w4 ho hg hat => by
        have e2 : jN ps (b + 1) = jN ps b ++ [UInt8.ofNat b] := by rw [zA HSU, zA HOC]; rfl
        have e3 : zT (UInt8.ofNat b) = .int .u8 b := by
         unfold zT
         rw [UInt8.toNat_ofNat', Nat.mod_eq_of_lt hlt]
        refine ⟨?_, (y8 ((zA HB).alloc hsz _) (by simp; omega) (yN (zA HO)) hg hat (by simp)).1⟩
        rw [e2, List.length_append, List.map_append, List.map_singleton, e3]
        exact ho)
       clear HOC HSU HX
       by_cases j1 : (i : Int) < (ps.length : Int)
       all_goals
        go_wp2_with (at_builtin; refine wpList_append_lies _ rfl (.tmp 53) (.tmp 56) 27 rfl w.heap.size 5 j0 (.int .u8 0) 1 1 Tryz.underlying27 hj hy0 hy1 hy2 rfl (by decide) _ (jN ps b).length ((jN ps b).map zT) rfl ((zA HO).alloc _) ⟨wr.heap.size, 0, none⟩ 1 1 [.int .u8 b] rfl rfl (World.news_of_block (heap_alloc_new wr _)) (by intro u hu; simp at hu; subst hu; rfl) (by omega) (by unfold maxLen; omega) (by omega) (by simp; omega) (wr.heap.size + 1) (by simp) ?_; intro g' cap' w4 hown' hgrow hat hlt'; obtain ⟨k1, k2⟩ := zA HNX g' cap' w4 hown' hgrow hat; have HK1 := zB k1; have HK2 := zB k2; clear hown' hgrow hat k1 k2)
        go_roundw
        case rel => exact ⟨b + 1, by go_num, hlt, HK1, HK2⟩
        case measure => simp [intOf]; omega
     | false =>
       obtain rfl : i = ps.length := by
        rcases Nat.lt_or_ge i ps.length with h | h
        ·exact absurd ⟨h, rfl⟩ hgo
        ·omega
       have HO2 : Hid (wr.ownsRow w.heap.size 5 1 u3 (jN ps (b + 1)).length ((jN ps (b + 1)).map zT)) := zB (by
        have e2 : jN ps (b + 1) = jN ps b := by rw [zA HSU, zA HOC]; simp
        rw [e2]; exact zA HO)
       clear HOC HSU HX
       have j1 : ¬ (ps.length : Int) < (ps.length : Int) := by omega
       go_wp2
       go_roundw
       case rel => exact ⟨b + 1, by go_num, hlt, HO2, HB⟩
       case measure => simp [intOf]; omega
  ·obtain rfl : b = 256 := by omega
   have HE : Hid (jN ps 256 = zL ps) := zB rfl
   rcases (zA HO).2 with ⟨rfl, h0⟩ | ⟨g, cap, cur, rfl, _⟩
   ·have HE2 : Hid (zL ps = []) := zB (by rw [← zA HE]; exact List.length_eq_zero_iff.1 h0)
    clear h0
    have hcv := run_convert_nil_bytes (P := Tryz.prog) wr 27 9 5 0 Tryz.underlying27 Tryz.underlying5 Tryz.underlying9
    go_wp2
    go_ret
    exact ⟨by rw [zA HE2]; rfl, zA HB⟩
   ·have hcv : (convert 27 9 (.slice (some ⟨g, 0, none⟩) (jN ps 256).length cap)).run Tryz.prog wr = .ok (.string ⟨(jN ps 256).toArray⟩) wr := conv_back (fun j hj => by
     rw [Nat.zero_add, (zA HO).cellAt j (by simpa using hj)]
     simp [zT, hj, List.getD])
    generalize jN ps 256 = cs at *
    go_wp2
    go_ret
    exact ⟨by rw [← zA HE]; rfl, zA HB⟩
end Go.Proofs.YtfpohfifdfbpkaaGreatDoor
namespace Go.Proofs.YtfpohfifdfbpkaaGreatDoor
open Go.RowKit Scour Go.Lib
structure Owns (w : World) (base : Nat) (v : Value) (rs : Nat -> Value) (L : Nat -> List (Nat × Nat)) (n : Nat) : Prop where
 row : w.ownsRow base 24 1 v n ((List.range n).map rs)
 each : ∀ i, i < n -> w.ownsRow base 3 1 (rs i) (2 * (L i).length) (encP (L i))
theorem Owns.below {w w' : World} {base : Nat} {v : Value} {rs : Nat -> Value} {L : Nat -> List (Nat × Nat)} {n : Nat} (h : Owns w base v rs L n) (hb : Below w.heap.size w w') : Owns w' base v rs L n :=
 ⟨zE h.row (fun b hl _ => hb.block b hl), fun i hi => zE (h.each i hi) (fun b hl _ => hb.block b hl)⟩
theorem Owns.more {w wa w1 : World} {base g' cap' : Nat} {v vl : Value} {rs : Nat -> Value} {L : Nat -> List (Nat × Nat)} {n : Nat} (h : Owns w base v rs L n) (hbase : base <= w.heap.size) (hb : Below w.heap.size w wa) (hl : wa.ownsRow w.heap.size 3 1 vl (2 * (L n).length) (encP (L n)))
  (ho : w1.ownsRow base 24 1 (.slice (some ⟨g', 0, none⟩) (n + 1) cap') (n + 1) ((List.range n).map rs ++ [vl])) (hg : (wa.alloc (.cells #[vl] 24)).grownBy w1 v.ownBlock) :
  Owns w1 base (.slice (some ⟨g', 0, none⟩) (n + 1) cap') (fun i => if i = n then vl else rs i) L (n + 1) := by
 have hba : Below wa.heap.size wa (wa.alloc (.cells #[vl] 24)) := (Below.refl _ _).alloc (Nat.le_refl _) _
 have hint : ∀ {u : Value} {m : Nat} {xs : List Value} {bs : Nat}, wa.ownsRow bs 3 1 u m xs -> w1.ownsRow bs 3 1 u m xs := by
  intro u m xs bs hu
  refine zE hu (fun b hl2 hv => ?_)
  obtain ⟨cur, hc⟩ := zD hu hv
  rw [hg.block b (by simp; omega) (fun e => ?_), hba.block b hl2]
  obtain ⟨cur2, hc2⟩ := zD (zE h.row (w' := wa) (fun b hl _ => hb.block b hl)) e.symm
  exact zH hc hc2 (by decide) rfl
 refine ⟨?_, fun i hi => ?_⟩
 ·have e1 : (List.range (n + 1)).map (fun i => if i = n then vl else rs i) = (List.range n).map rs ++ [vl] := by
   rw [List.range_succ, List.map_append]
   congr 1
   ·refine List.map_congr_left (fun i hi => ?_)
    rw [if_neg (by have := List.mem_range.1 hi; omega)]
   ·simp
  rw [e1]; exact ho
 ·by_cases e : i = n
  ·subst e
   rw [if_pos rfl]
   exact owns_lower (hint hl) hbase
  ·rw [if_neg e]
   exact hint (zE (h.each i (by omega)) (fun b hl _ => hb.block b hl))
theorem Tryz.infoIL : (Tryz.prog.info? 24).map (fun i => (i.zero, i.size, i.bytes)) = some (some (.slice none 0 0), 1, 24) := by kernel_rfl
theorem rnext_lt {w : World} {br gS cS : Nat} {vL : Value} {ps S : List Str} (h : yZ w br vL gS cS ps S) (k : Nat) (b : UInt8) : zO S k b < S.length := by
 have h0 : [] ∈ S := by
  have := jO h.pos
  rw [h.head] at this; exact this
 exact List.idxOf_lt_length_of_mem (lsuf_mem S h0 _)
theorem intsF_succ (E : Nat -> Int) (m : Nat) : zZ E (m + 1) = zZ E m ++ [.int .i64 (E m)] := by
 unfold zZ; rw [List.range_succ, List.map_append]; rfl
set_option maxHeartbeats 8000000 in
set_option maxRecDepth 100000 in
theorem exceptions_any (br gS cS : Nat) (vL : Value) (ps S : List Str) (c : Str) (w : World) (hM : yZ w br vL gS cS ps S) (hsh : ∀ k, k < S.length -> (at' S k).length < 1000) (hcl : c.length <= 256) :
  Calls Tryz.prog 150 #[.pointer (some ⟨br, 0, none⟩), .string ⟨c.toArray⟩] w fun e w' => ∃ v rs, e = .returned v /\ Owns w' w.heap.size v rs (zU S c) S.length /\ Below w.heap.size w w' := by
 obtain ⟨i0, hi, hz0, hz1, hz2⟩ := info_parts Tryz.infoI
 obtain ⟨j0, hj, hy0, hy1, hy2⟩ := info_parts Tryz.infoIL
 have hSl := hM.len
 have hpos := hM.pos
 have HNX : Hid (∀ W n (b : UInt8), Below w.heap.size w W -> n < S.length -> Calls Tryz.prog 127 #[.pointer (some ⟨br, 0, none⟩), .int .i64 n, .int .u8 b.toNat] W fun e w' => e = .returned (.int .i64 (zO S n b)) /\ Below W.heap.size W w') := zB (fun W n b hb hn => rnext_any br gS cS vL ps S n b W (hM.below hb) hn (hsh n hn))
 have HC1 : Hid (∀ W, Below w.heap.size w W -> W.cell? ⟨br, 1, none⟩ = some (.slice (some ⟨gS, 0, none⟩) S.length cS)) := zB (fun W hb => by rw [zC (hM.below hb).blk]; rfl)
 have HNL : Hid (∀ n b, zO S n b < 10000) := zB (fun n b => Nat.lt_of_lt_of_le (rnext_lt hM n b) (by omega))
 have hsz : (⟨c.toArray⟩ : ByteArray).size = c.length := by simp [ByteArray.size]
 have HG : Hid (∀ k (hk : k < (⟨c.toArray⟩ : ByteArray).size), (⟨c.toArray⟩ : ByteArray)[k] = c.getD k 0) := zB (fun k hk => by
  simp only [ByteArray.getElem_eq_getElem_data, List.getElem_toArray]
  simp [List.getD, show k < c.length by omega])
 clear hM hsh
 obtain ⟨tx, htx⟩ : ∃ tx, tx = (⟨c.toArray⟩ : ByteArray) := ⟨_, rfl⟩
 rw [← htx] at hsz ⊢
 have HG2 : Hid (∀ k (hk : k < tx.size), tx[k] = c.getD k 0) := zB (fun k hk => by subst htx; exact zA HG k hk)
 clear htx HG
 go_enter Tryz.func150, Tryz.ntmps150
 go_wp2
 go_loopw [5, 6] (fun v5 v6 wr => ∃ k : Nat, v6 = .int .i64 k /\ k <= c.length /\ Hid (wr.ownsRow w.heap.size 3 1 v5 k (zZ (fun i => (zO S 0 (c.getD i 0) : Nat)) k)) /\ Hid (Below w.heap.size w wr)) (fun _ v6 _ => c.length - (intOf v6).toNat)
 case atStart => exact ⟨0, rfl, Nat.zero_le _, zB (World.ownsRow_nil _ _ _ _), zB (Below.refl _ _)⟩
 case round =>
  obtain ⟨k, rfl, hk, HO, HB⟩ := hrel
  have hszr := (zA HB).size
  by_cases hlt : k < c.length
  ·have hkx : k < tx.size := by omega
   have i1 : (k : Int) < (tx.size : Int) := by omega
   have HN1 := zB (zA HNX wr 0 tx[k] (zA HB) hpos)
   have hnl := zA HNL 0 tx[k]
   have HST : Hid (∀ w2 g' cap' w4, Below wr.heap.size wr w2 -> w4.ownsRow w.heap.size 3 1 (.slice (some ⟨g', 0, none⟩) (k + 1) cap') (k + 1) (zZ (fun i => (zO S 0 (c.getD i 0) : Nat)) k ++ [.int .i64 (zO S 0 tx[k] : Nat)]) -> (w2.alloc (.cells #[.int .i64 (zO S 0 tx[k] : Nat)] 3)).grownBy w4 u5.ownBlock -> (u5.ownBlock = some g' \/ g' = w2.heap.size + 1) -> w4.ownsRow w.heap.size 3 1 (.slice (some ⟨g', 0, none⟩) (k + 1) cap') (k + 1) (zZ (fun i => (zO S 0 (c.getD i 0) : Nat)) (k + 1)) /\ Below w.heap.size w w4) := zB (fun w2 g' cap' w4 hb2 ho hg hat => by
    refine ⟨?_, (y8 (((zA HB).trans (hb2.mono hszr)).alloc (by have := hb2.size; omega) _) (by have := hb2.size; simp; omega) (yN (zA HO)) hg hat (by simp)).1⟩
    rw [intsF_succ, ← zA HG2 k hkx]; exact ho)
   have HAL : Hid (∀ w2 ob, Below wr.heap.size wr w2 -> (w2.alloc ob).ownsRow w.heap.size 3 1 u5 k (zZ (fun i => (zO S 0 (c.getD i 0) : Nat)) k)) := zB (fun w2 ob hb2 => (zE (zA HO) (fun b hl _ => hb2.block b hl)).alloc _)
   rw [Int.natCast_zero] at HN1
   generalize zO S 0 tx[k] = nx at *
   generalize zZ (fun i => ((zO S 0 (c.getD i 0) : Nat) : Int)) k = xs at *
   go_wp2_with (first | (go_at_call 127; refine (zA HN1).mono ?_; rintro e w2 ⟨rfl, hb2⟩; have hs2 := hb2.size; have HB2 := zB hb2; clear hb2) | (at_builtin; refine wpList_append_lies _ rfl (.tmp 24) (.tmp 26) 24 rfl w.heap.size 3 i0 (.int .i64 0) 1 8 Tryz.underlying24 hi hz0 hz1 hz2 rfl (by decide) _ k xs rfl (zA HAL w2 _ (zA HB2)) ⟨w2.heap.size, 0, none⟩ 1 1 [.int .i64 nx] rfl rfl (World.news_of_block (heap_alloc_new w2 _)) (by intro u hu; simp at hu; subst hu; rfl) (by omega) (by unfold maxLen; omega) (by omega) (by simp; omega) (w2.heap.size + 1) (by simp) ?_; intro g' cap' w4 hown' hgrow hat hlt'; obtain ⟨k1, k2⟩ := zA HST w2 g' cap' w4 (zA HB2) hown' hgrow hat; have HK1 := zB k1; have HK2 := zB k2; clear hown' hgrow hat k1 k2))
   go_roundw
   case rel => exact ⟨k + 1, by go_num, hlt, HK1, HK2⟩
   case measure => simp [intOf]; omega
  ·obtain rfl : k = c.length := by omega
   have i1 : ¬ (c.length : Int) < (tx.size : Int) := by omega
   obtain ⟨wf, hwf⟩ : ∃ wf, wf = wr := ⟨_, rfl⟩
   subst hwf
   have HF5 : Hid (∀ W, Below wf.heap.size wf W -> ∀ k, k < c.length -> ∃ g5 c5, u5 = .slice (some ⟨g5, 0, none⟩) c.length c5 /\ W.cell? ⟨g5, k, none⟩ = some (.int .i64 (zO S 0 (c.getD k 0) : Nat))) := zB (fun W hb k hk => by
    have h5 := zE (zA HO) (w' := W) (fun b hl _ => hb.block b hl)
    rcases h5.2 with ⟨_, h0⟩ | ⟨g5, c5, cur, rfl, _⟩
    ·omega
    ·exact ⟨g5, c5, rfl, by rw [h5.cellAt k (by omega), zW _ _ _ hk]⟩)
   clear HO
   go_wp2
   go_loopw [8, 9] (fun v8 v9 wr => ∃ (s : Nat) (rs : Nat -> Value), v9 = .int .i64 s /\ s <= S.length /\ Hid (Owns wr wf.heap.size v8 rs (zU S c) s) /\ Hid (Below wf.heap.size wf wr)) (fun _ v9 _ => S.length - (intOf v9).toNat)
   case atStart => exact ⟨0, fun _ => .slice none 0 0, rfl, Nat.zero_le _, zB ⟨World.ownsRow_nil _ _ _ _, fun i h => absurd h (Nat.not_lt_zero _)⟩, zB (Below.refl _ _)⟩
   case round =>
    obtain ⟨s, rs, rfl, hs, HOW, HBF⟩ := hrel
    obtain ⟨ws, hws⟩ : ∃ ws, ws = wr := ⟨_, rfl⟩
    subst hws
    have hsf := (zA HBF).size
    have HBW : Hid (Below w.heap.size w ws) := zB ((zA HB).trans ((zA HBF).mono hszr))
    have c1 := zA HC1 ws (zA HBW)
    by_cases hsl : s < S.length
    ·have j1 : (s : Int) < (S.length : Int) := by omega
     go_wp2
     go_loopw [10, 11] (fun v10 v11 wr => ∃ k : Nat, v11 = .int .i64 k /\ k <= c.length /\ Hid (wr.ownsRow ws.heap.size 3 1 v10 (2 * (zt S c s k).length) (encP (zt S c s k))) /\ Hid (Below ws.heap.size ws wr)) (fun _ v11 _ => c.length - (intOf v11).toNat)
     case atStart => exact ⟨0, rfl, Nat.zero_le _, zB (World.ownsRow_nil _ _ _ _), zB (Below.refl _ _)⟩
     case round =>
      obtain ⟨k, rfl, hk, HL, HBS⟩ := hrel
      have hss := (zA HBS).size
      by_cases hlt : k < c.length
      ·have hkx : k < tx.size := by omega
       have k1 : (k : Int) < (tx.size : Int) := by omega
       have HN1 := zB (zA HNX wr s tx[k] ((zA HBW).trans ((zA HBS).mono (by omega))) hsl)
       have hnl := zA HNL s tx[k]
       have hn0 := zA HNL 0 tx[k]
       have hel := excTo_len S c s k
       have HF6 : Hid (∀ w2, Below wr.heap.size wr w2 -> ∃ g5 c5, u5 = .slice (some ⟨g5, 0, none⟩) c.length c5 /\ w2.cell? ⟨g5, k, none⟩ = some (.int .i64 (zO S 0 tx[k] : Nat))) := zB (fun w2 hb2 => by
        rw [zA HG2 k hkx]
        exact zA HF5 w2 ((zA HBF).trans (((zA HBS).mono hsf).trans (hb2.mono (by omega)))) k hlt)
       by_cases he : zO S s tx[k] = zO S 0 tx[k]
       ·have HX : Hid (zt S c s (k + 1) = zt S c s k) := zB (by
         rw [zt, ← zA HG2 k hkx, if_pos he, List.append_nil])
        have HK : Hid (∀ w2, Below wr.heap.size wr w2 -> w2.ownsRow ws.heap.size 3 1 u10 (2 * (zt S c s (k + 1)).length) (encP (zt S c s (k + 1))) /\ Below ws.heap.size ws w2) := zB (fun w2 hb2 => by
         rw [zA HX]
         exact ⟨zE (zA HL) (fun b hl _ => hb2.block b hl), (zA HBS).trans (hb2.mono hss)⟩)
        rw [he] at HN1
        clear he hnl HL
        generalize zO S 0 tx[k] = n0 at *
        have e1 : ((n0 : Int) != (n0 : Int)) = false := by simp
        go_wp2_with (go_at_call 127; refine (zA HN1).mono ?_; rintro e w2 ⟨rfl, hb2⟩; obtain ⟨g5, c5, rfl, cc⟩ := zA HF6 w2 hb2; obtain ⟨q1, q2⟩ := zA HK w2 hb2; have HQ1 := zB q1; have HQ2 := zB q2; clear hb2 q1 q2)
        go_roundw
        case rel => exact ⟨k + 1, by go_num, hlt, HQ1, HQ2⟩
        case measure => simp [intOf]; omega
       ·have HX : Hid (zt S c s (k + 1) = zt S c s k ++ [(k + 1, zO S s tx[k])]) := zB (by
         rw [zt, ← zA HG2 k hkx, if_neg he])
        have HA1 : Hid (∀ w2 ob, Below wr.heap.size wr w2 -> (w2.alloc ob).ownsRow ws.heap.size 3 1 u10 (2 * (zt S c s k).length) (encP (zt S c s k)) /\ Below ws.heap.size ws (w2.alloc ob)) := zB (fun w2 ob hb2 => ⟨(zE (zA HL) (fun b hl _ => hb2.block b hl)).alloc _, ((zA HBS).trans (hb2.mono hss)).alloc (by have := hb2.size; omega) _⟩)
        have HLO := zB (yN (zA HL))
        have HX2 : Hid (∀ (w4 : World) (g' cap' : Nat), w4.ownsRow ws.heap.size 3 1 (.slice (some ⟨g', 0, none⟩) (2 * (zt S c s k).length + 1 + 1) cap') (2 * (zt S c s k).length + 1 + 1) (encP (zt S c s k) ++ [.int .i64 ((k : Int) + 1)] ++ [.int .i64 (zO S s tx[k] : Nat)]) -> w4.ownsRow ws.heap.size 3 1 (.slice (some ⟨g', 0, none⟩) (2 * (zt S c s k).length + 1 + 1) cap') (2 * (zt S c s (k + 1)).length) (encP (zt S c s (k + 1)))) := zB (fun w4 g' cap' ho => by
         rw [zA HX, encP_append, List.length_append]
         have e3 : encP [(k + 1, zO S s tx[k])] = [.int .i64 ((k : Int) + 1), .int .i64 (zO S s tx[k] : Nat)] := by simp [encP]
         rw [e3]
         simp only [List.append_assoc, List.cons_append, List.nil_append] at ho
         exact ho)
        have e1 : (((zO S s tx[k] : Nat) : Int) != ((zO S 0 tx[k] : Nat) : Int)) = true := by simp; omega
        clear he HL HX
        generalize zO S 0 tx[k] = n0 at *
        generalize zO S s tx[k] = nx at *
        generalize (zt S c s k).length = ln at *
        generalize encP (zt S c s k) = xs at *
        go_wp2_with (first | (go_at_call 127; refine (zA HN1).mono ?_; rintro e w2 ⟨rfl, hb2⟩; have hs2 := hb2.size; obtain ⟨g5, c5, rfl, cc⟩ := zA HF6 w2 hb2; have HB2 := zB hb2; clear hb2) | (at_builtin; refine wpList_append_lies _ rfl (.tmp 55) (.tmp 58) 24 rfl ws.heap.size 3 i0 (.int .i64 0) 1 8 Tryz.underlying24 hi hz0 hz1 hz2 rfl (by decide) u10 (2 * ln) xs rfl (zA HA1 w2 _ (zA HB2)).1 ⟨w2.heap.size, 0, none⟩ 1 1 [.int .i64 ((k : Int) + 1)] rfl rfl (World.news_of_block (heap_alloc_new w2 _)) (by intro u hu; simp at hu; subst hu; rfl) (by omega) (by unfold maxLen; omega) (by omega) (by simp; omega) (w2.heap.size + 1) (by simp) ?_; intro g3 cap3 w3 ho3 hg3 hat3 hlt3; obtain ⟨bb3, bg3⟩ := y8 (zA HA1 w2 _ (zA HB2)).2 (by simp; omega) (zA HLO) hg3 hat3 (by simp); have hs3 := bb3.size; have HO3 := zB ho3; have HB3 := zB bb3; clear ho3 hg3 hat3 bb3) | (at_builtin; refine wpList_append_lies _ rfl (.tmp 60) (.tmp 62) 24 rfl ws.heap.size 3 i0 (.int .i64 0) 1 8 Tryz.underlying24 hi hz0 hz1 hz2 rfl (by decide) (.slice (some ⟨g3, 0, none⟩) (2 * ln + 1) cap3) (2 * ln + 1) (xs ++ [.int .i64 ((k : Int) + 1)]) rfl ((zA HO3).alloc _) ⟨w3.heap.size, 0, none⟩ 1 1 [.int .i64 nx] rfl rfl (World.news_of_block (heap_alloc_new w3 _)) (by intro u hu; simp at hu; subst hu; rfl) (by omega) (by unfold maxLen; omega) (by omega) (by simp; omega) (w3.heap.size + 1) (by simp) ?_; intro g4 cap4 w4 ho4 hg4 hat4 hlt4; obtain ⟨bb4, bg4⟩ := y8 ((zA HB3).alloc hs3 _) (by simp; omega) (own_slice bg3) hg4 hat4 (by simp); have HO4 := zB (zA HX2 w4 g4 cap4 ho4); have HB4 := zB bb4; clear ho4 hg4 hat4 bb4))
        go_roundw
        case rel => exact ⟨k + 1, by go_num, hlt, HO4, HB4⟩
        case measure => simp [intOf]; omega
      ·obtain rfl : k = c.length := by omega
       have k1 : ¬ (c.length : Int) < (tx.size : Int) := by omega
       have HMO : Hid (∀ (w4 : World) (g' cap' : Nat), w4.ownsRow wf.heap.size 24 1 (.slice (some ⟨g', 0, none⟩) (s + 1) cap') (s + 1) ((List.range s).map rs ++ [u10]) -> (wr.alloc (.cells #[u10] 24)).grownBy w4 u8.ownBlock -> (u8.ownBlock = some g' \/ g' = wr.heap.size + 1) -> Owns w4 wf.heap.size (.slice (some ⟨g', 0, none⟩) (s + 1) cap') (fun i => if i = s then u10 else rs i) (zU S c) (s + 1) /\ Below wf.heap.size wf w4) := zB (fun w4 g' cap' ho hg hat => ⟨(zA HOW).more hsf (zA HBS) (zA HL) ho hg, (y8 (((zA HBF).trans ((zA HBS).mono hsf)).alloc (by omega) _) (by simp; omega) (yN (zA HOW).row) hg hat (by simp)).1⟩)
       have HRW : Hid ((wr.alloc (.cells #[u10] 24)).ownsRow wf.heap.size 24 1 u8 s ((List.range s).map rs)) := zB ((zE (zA HOW).row (fun b hl _ => (zA HBS).block b hl)).alloc _)
       have hcs := (zA HL).2
       clear HL
       rcases hcs with ⟨rfl, _⟩ | ⟨gl, cl, cur, rfl, _⟩
       all_goals
        go_wp2_with (at_builtin; go_loud (refine wpList_append_lies _ rfl (.tmp 64) (.tmp 66) 148 rfl wf.heap.size 24 j0 (.slice none 0 0) 1 24 Tryz.underlying148 hj hy0 hy1 hy2 rfl (by decide) u8 s ((List.range s).map rs) rfl (zA HRW) ⟨wr.heap.size, 0, none⟩ 1 1 [_] rfl rfl (World.news_of_block (heap_alloc_new wr _)) (by intro u hu; simp at hu; subst hu; rfl) (by omega) (by unfold maxLen; omega) (by omega) (by simp; omega) (wr.heap.size + 1) (by simp) ?_); intro g4 cap4 w4 ho4 hg4 hat4 hlt4; obtain ⟨q1, q2⟩ := zA HMO w4 g4 cap4 ho4 hg4 hat4; have HQ1 := zB q1; have HQ2 := zB q2; clear ho4 hg4 hat4 q1 q2)
        go_roundw
        case rel => exact ⟨s + 1, _, by go_num, hsl, HQ1, HQ2⟩
        case measure => simp [intOf]; omega
    ·obtain rfl : s = S.length := by omega
     have j1 : ¬ (S.length : Int) < (S.length : Int) := by omega
     go_wp2
     go_ret
     exact ⟨_, rfl, ⟨rs, owns_lower (zA HOW).row hszr, fun i hi => owns_lower ((zA HOW).each i hi) hszr⟩, zA HBW⟩
end Go.Proofs.YtfpohfifdfbpkaaGreatDoor
