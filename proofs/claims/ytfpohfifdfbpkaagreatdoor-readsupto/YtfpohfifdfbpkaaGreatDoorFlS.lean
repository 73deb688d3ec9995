import Derived.Test.YtfpohfifdfbpkaaGreatDoorFileDef
import Derived.Laws.BitsAllLaws
import Derived.Test.YtfpohfifdfbpkaaGreatDoorFlA
namespace Go.Proofs.YtfpohfifdfbpkaaGreatDoor
open Go.RowKit Scour Go.Lib
def xorI (E M : Nat -> Int) : Nat -> Int := fun p => if M p = 1 then 1 - E p else E p
theorem flip_xor (E M : Nat -> Int) (j : Nat) : flipI (xorI E M) j = xorI (flipI E j) M := by
 funext p
 unfold flipI xorI upd
 by_cases h : p = j
 ·subst h; simp only [if_true]; split <;> rfl
 ·simp only [if_neg h]
theorem upd0_xor (E M : Nat -> Int) (j : Nat) (h : M j = 0) : upd (xorI E M) j 0 = xorI (upd E j 0) M := by
 funext p
 unfold xorI upd
 by_cases e : p = j
 ·subst e; simp only [if_true]; rw [if_neg (by omega)]
 ·simp only [if_neg e]
theorem dv_xor (E M : Nat -> Int) (i : Nat) (h : M i = 0) : dv (xorI E M) i = xorI (dv E i) M := by
 have e : xorI E M i = E i := by unfold xorI; rw [if_neg (by omega)]
 unfold dv
 rw [e]
 split
 ·rw [upd0_xor _ _ _ h, flip_xor, flip_xor, flip_xor, flip_xor]
 ·rfl
theorem dvTo_xor (E M : Nat -> Int) : ∀ i, (∀ j, j < i -> M j = 0) -> dvTo (xorI E M) i = xorI (dvTo E i) M
 | 0, _ => rfl
 | i + 1, h => by
   rw [dvTo, dvTo_xor E M i (fun j hj => h j (by omega)), dv_xor _ _ _ (h i (by omega)), dvTo]
theorem dvTo_far (E : Nat -> Int) : ∀ i p, i + 32 <= p -> dvTo E i p = E p
 | 0, _, _ => rfl
 | i + 1, p, h => by
   have hi := dvTo_far E i p (by omega)
   rw [dvTo, dv]
   split
   ·unfold flipI upd
    simp only [if_neg (show ¬ p = i + 32 by omega), if_neg (show ¬ p = i + 31 by omega), if_neg (show ¬ p = i + 30 by omega), if_neg (show ¬ p = i + 10 by omega), if_neg (show ¬ p = i by omega)]
    exact hi
   ·exact hi
theorem byteI_congr {E E' : Nat -> Int} {o o' : Nat} : ∀ {n : Nat}, (∀ k, k < n -> E (o + k) = E' (o' + k)) -> zd E o n = zd E' o' n
 | 0, _ => rfl
 | n + 1, h => by rw [zd, zd, byteI_congr (fun k hk => h k (by omega)), h n (by omega)]
theorem byteI_front (E : Nat -> Int) (o : Nat) : ∀ n, zd E o (n + 1) = E o * 2 ^ n + zd E (o + 1) n
 | 0 => by simp [zd]
 | n + 1 => by
   rw [zd, byteI_front E o n, zd, Int.pow_succ, show o + (n + 1) = o + 1 + n by omega]
   have : (2 : Int) * (E o * 2 ^ n + zd E (o + 1) n) = E o * (2 ^ n * 2) + 2 * zd E (o + 1) n := by
    rw [Int.mul_add, Int.mul_comm (2 ^ n) 2, Int.mul_left_comm]
   omega
theorem byteI_split (E : Nat -> Int) (o a : Nat) : ∀ b, zd E o (a + b) = zd E o a * 2 ^ b + zd E (o + a) b
 | 0 => by simp [zd]
 | b + 1 => by
   rw [show a + (b + 1) = (a + b) + 1 by omega, zd, byteI_split E o a b, zd, Int.pow_succ, show o + (a + b) = o + a + b by omega]
   have : (2 : Int) * (zd E o a * 2 ^ b + zd E (o + a) b) = zd E o a * (2 ^ b * 2) + 2 * zd E (o + a) b := by
    rw [Int.mul_add, Int.mul_comm (2 ^ b) 2, Int.mul_left_comm]
   omega
def bN (E : Nat -> Int) (o n : Nat) : Nat := (zd E o n).toNat
theorem bN_lt {E : Nat -> Int} (h : Bits E) (o n : Nat) : bN E o n < 2 ^ n := by
 have := byteI_lt h o n
 unfold bN
 have h2 : (2 : Int) ^ n = ((2 ^ n : Nat) : Int) := by simp
 omega
theorem bN_cast {E : Nat -> Int} (h : Bits E) (o n : Nat) : (bN E o n : Int) = zd E o n := by
 have := byteI_lt h o n
 unfold bN
 omega
theorem Bits.xorI {E M : Nat -> Int} (h : Bits E) : Bits (xorI E M) := fun k => by
 have := h k
 unfold Go.Proofs.YtfpohfifdfbpkaaGreatDoor.xorI
 split <;> omega
theorem xor_two (a b x y : Nat) (hx : x < 2) (hy : y < 2) : (2 * a + x) ^^^ (2 * b + y) = 2 * (a ^^^ b) + (x ^^^ y) := by
 apply Nat.eq_of_testBit_eq
 intro i
 have hxy : x ^^^ y < 2 := Nat.xor_lt_two_pow (n := 1) (by omega) (by omega)
 cases i with
 | zero =>
   rw [Nat.testBit_xor]
   simp only [Nat.testBit_zero]
   have : ∀ p q : Nat, (2 * p + q) % 2 = q % 2 := fun p q => by omega
   rw [this, this, this]
   have e1 : x = 0 \/ x = 1 := by omega
   have e2 : y = 0 \/ y = 1 := by omega
   rcases e1 with rfl | rfl <;> rcases e2 with rfl | rfl <;> decide
 | succ i =>
   rw [Nat.testBit_xor]
   simp only [Nat.testBit_succ]
   rw [show (2 * a + x) / 2 = a by omega, show (2 * b + y) / 2 = b by omega, show (2 * (a ^^^ b) + (x ^^^ y)) / 2 = a ^^^ b by omega, Nat.testBit_xor]
theorem bN_xor {E M : Nat -> Int} (h : Bits E) (hM : Bits M) (o : Nat) : ∀ n, bN (xorI E M) o n = bN E o n ^^^ bN M o n
 | 0 => by simp [bN, zd]
 | n + 1 => by
   have e : ∀ F, Bits F -> bN F o (n + 1) = 2 * bN F o n + (F (o + n)).toNat := fun F hF => by
    have a := byteI_lt hF o n
    have b := hF (o + n)
    unfold bN
    rw [zd]; omega
   rw [e _ h.xorI, e _ h, e _ hM, bN_xor h hM o n, xor_two]
   ·have a := h (o + n)
    have b := hM (o + n)
    unfold xorI
    rcases a with a | a <;> rcases b with b | b <;> rw [a, b] <;> rfl
   ·have := h (o + n); omega
   ·have := hM (o + n); omega
def divI (i : Nat) : Nat -> Int := fun p => if p = i + 10 \/ p = i + 30 \/ p = i + 31 \/ p = i + 32 then 1 else 0
theorem bits_divI (i : Nat) : Bits (divI i) := fun k => by unfold divI; split <;> omega
theorem bN_divI (i : Nat) : bN (divI i) (i + 1) 32 = 4194311 := by
 unfold bN
 rw [byteI_congr (E' := divI 0) (o' := 1) (fun k hk => ?_)]
 ·decide
 ·unfold divI
  have : ∀ a b : Prop, (a ↔ b) -> ∀ [Decidable a] [Decidable b], (if a then (1 : Int) else 0) = if b then 1 else 0 := fun a b h _ _ => by
   by_cases ha : a
   ·rw [if_pos ha, if_pos (h.1 ha)]
   ·rw [if_neg ha, if_neg (fun hb => ha (h.2 hb))]
  exact this _ _ (by omega)
theorem reg_step {E : Nat -> Int} (h : Bits E) (i : Nat) (h0 : E (i + 32) = 0) : bN (dv E i) (i + 1) 32 = (2 * bN E i 32 % 4294967296) ^^^ (bN E i 32 / 2147483648 * 4194311 % 4294967296) := by
 have hf : zd E i 32 = E i * 2147483648 + zd E (i + 1) 31 := byteI_front E i 31
 have hf2 : zd E i 33 = E i * 4294967296 + zd E (i + 1) 32 := byteI_front E i 32
 have hl : zd E i 33 = 2 * zd E i 32 + E (i + 32) := rfl
 have hc := bN_cast h i 32
 have hc1 := bN_cast h (i + 1) 32
 have hlt := bN_lt h (i + 1) 32
 have hlt0 := byteI_lt h (i + 1) 31
 have hb := h i
 have e1 : 2 * bN E i 32 % 4294967296 = bN E (i + 1) 32 := by omega
 have e2 : bN E i 32 / 2147483648 = (E i).toNat := by omega
 rw [e1, e2]
 unfold dv
 rcases hb with hb | hb
 ·rw [if_neg (by omega), hb]; simp
 ·rw [if_pos hb, hb]
  have e3 : flipI (flipI (flipI (flipI (upd E i 0) (i + 10)) (i + 30)) (i + 31)) (i + 32) = xorI (upd E i 0) (divI i) := by
   funext p
   unfold flipI xorI divI upd
   by_cases p1 : p = i + 32
   ·subst p1; simp
   ·by_cases p2 : p = i + 31
    ·subst p2; simp
    ·by_cases p3 : p = i + 30
     ·subst p3; simp
     ·by_cases p4 : p = i + 10
      ·subst p4; simp
      ·simp [p1, p2, p3, p4]
  rw [e3, bN_xor (h.upd i 0 (Or.inl rfl)) (bits_divI i), bN_divI]
  have e4 : bN (upd E i 0) (i + 1) 32 = bN E (i + 1) 32 := by
   unfold bN
   rw [byteI_congr (fun k _ => ?_)]
   unfold upd
   rw [if_neg (by omega)]
  rw [e4, show Int.toNat 1 * 4194311 % 4294967296 = 4194311 from rfl]
def byteM (s : Str) (k : Nat) : Nat -> Int := fun p => if 8 * k <= p /\ p < 8 * k + 8 then (bitOf s p : Nat) else 0
theorem bits_byteM (s : Str) (k : Nat) : Bits (byteM s k) := fun p => by
 unfold byteM
 split
 ·have := bits_bitsI s p; exact this
 ·omega
theorem bitsI_take (s : Str) (k : Nat) (hk : k < s.length) : bitsI (s.take (k + 1)) = xorI (bitsI (s.take k)) (byteM s k) := by
 funext p
 unfold xorI byteM bitsI bitOf
 have h1 : (s.take (k + 1)).length = k + 1 := by rw [List.length_take]; omega
 have h2 : (s.take k).length = k := by rw [List.length_take]; omega
 rw [h1, h2]
 by_cases a : p / 8 < k
 ·rw [if_neg (show ¬ (8 * k <= p /\ p < 8 * k + 8) by omega), if_neg (show ¬ k + 1 <= p / 8 by omega), if_neg (show ¬ k <= p / 8 by omega), if_neg (by omega)]
  simp [List.getD, a, show p / 8 < k + 1 by omega]
 ·by_cases b : p / 8 = k
  ·rw [if_pos (show 8 * k <= p /\ p < 8 * k + 8 by omega), if_neg (show ¬ k + 1 <= p / 8 by omega), if_pos (show k <= p / 8 by omega), if_neg (show ¬ s.length <= p / 8 by omega)]
   have e : (s.take (k + 1)).getD (p / 8) 0 = s.getD (p / 8) 0 := by simp [List.getD, show p / 8 < k + 1 by omega]
   rw [e]
   have : (s.getD (p / 8) 0).toNat / 2 ^ (7 - p % 8) % 2 < 2 := Nat.mod_lt _ (by decide)
   generalize (s.getD (p / 8) 0).toNat / 2 ^ (7 - p % 8) % 2 = x at *
   by_cases hx : x = 1
   ·subst hx; rfl
   ·obtain rfl : x = 0 := by omega
    rfl
  ·rw [if_neg (show ¬ (8 * k <= p /\ p < 8 * k + 8) by omega), if_pos (show k + 1 <= p / 8 by omega), if_pos (show k <= p / 8 by omega), if_neg (by omega)]
theorem eight_bits : ∀ c : Fin 256, zd (fun t => ((c.val / 2 ^ (7 - t % 8) % 2 : Nat) : Int)) 0 8 = (c.val : Int) := by decide +kernel
theorem bN_byteM (s : Str) (k : Nat) (hk : k < s.length) : bN (byteM s k) (8 * k) 32 = (s.getD k 0).toNat * 16777216 := by
 have h1 := byteI_split (byteM s k) (8 * k) 8 24
 have h2 : zd (byteM s k) (8 * k + 8) 24 = 0 := by
  rw [byteI_congr (E' := fun _ => 0) (o' := 0) (fun t ht => ?_)]
  ·decide
  ·unfold byteM; rw [if_neg (by omega)]
 have h3 : zd (byteM s k) (8 * k) 8 = ((s.getD k 0).toNat : Int) := by
  have := eight_bits ⟨(s.getD k 0).toNat, UInt8.toNat_lt _⟩
  simp only [] at this
  rw [← this]
  refine byteI_congr (fun t ht => ?_)
  unfold byteM bitOf
  rw [if_pos (by omega), if_neg (by omega), show (8 * k + t) / 8 = k by omega, show (8 * k + t) % 8 = t by omega, Nat.zero_add, show t % 8 = t by omega]
 unfold bN
 rw [h1, h2, h3]
 omega
def regN (s : Str) (k : Nat) : Nat := bN (dvTo (bitsI (s.take k)) (8 * k)) (8 * k) 32
def regB (s : Str) (k j : Nat) : Nat := bN (dvTo (bitsI (s.take (k + 1))) (8 * k + j)) (8 * k + j) 32
theorem regN_lt (s : Str) (k : Nat) : regN s k < 4294967296 := bN_lt ((bits_bitsI _).dvTo _) _ 32
theorem regB_lt (s : Str) (k j : Nat) : regB s k j < 4294967296 := bN_lt ((bits_bitsI _).dvTo _) _ 32
theorem regN_zero (s : Str) : regN s 0 = 0 := by
 unfold regN bN
 rw [byteI_congr (E' := fun _ => 0) (o' := 0) (fun t _ => ?_)]
 ·decide
 ·rfl
theorem regB_zero (s : Str) (k : Nat) (hk : k < s.length) : regB s k 0 = regN s k ^^^ ((s.getD k 0).toNat * 16777216) := by
 show bN (dvTo (bitsI (s.take (k + 1))) (8 * k)) (8 * k) 32 = bN (dvTo (bitsI (s.take k)) (8 * k)) (8 * k) 32 ^^^ _
 rw [bitsI_take s k hk, dvTo_xor _ _ _ (fun j hj => by unfold byteM; rw [if_neg (by omega)]), bN_xor ((bits_bitsI _).dvTo _) (bits_byteM s k), bN_byteM s k hk]
theorem regB_step (s : Str) (k j : Nat) (hk : k < s.length) : regB s k (j + 1) = (2 * regB s k j % 4294967296) ^^^ (regB s k j / 2147483648 * 4194311 % 4294967296) := by
 unfold regB
 rw [show 8 * k + (j + 1) = 8 * k + j + 1 by omega, dvTo]
 refine reg_step ((bits_bitsI _).dvTo _) _ ?_
 rw [dvTo_far _ _ _ (Nat.le_refl _)]
 unfold bitsI bitOf
 rw [if_pos (by rw [List.length_take]; omega)]
 rfl
theorem regB_end (s : Str) (k : Nat) : regB s k 8 = regN s (k + 1) := rfl
theorem sum_reg (s : Str) : yK s = [UInt8.ofNat (regN s s.length / 16777216), UInt8.ofNat (regN s s.length / 65536 % 256), UInt8.ofNat (regN s s.length / 256 % 256), UInt8.ofNat (regN s s.length % 256)] := by
 have hB := (bits_bitsI s).dvTo (8 * s.length)
 unfold yK regN
 rw [List.take_length]
 generalize dvTo (bitsI s) (8 * s.length) = D at *
 generalize 8 * s.length = o
 have h1 : zd D o 32 = zd D o 8 * 16777216 + zd D (o + 8) 24 := byteI_split D o 8 24
 have h2 : zd D (o + 8) 24 = zd D (o + 8) 8 * 65536 + zd D (o + 8 + 8) 16 := byteI_split D (o + 8) 8 16
 have h3 : zd D (o + 8 + 8) 16 = zd D (o + 8 + 8) 8 * 256 + zd D (o + 8 + 8 + 8) 8 := byteI_split D (o + 8 + 8) 8 8
 have hc := bN_cast hB o 32
 have l0 := byteI_lt hB o 8
 have l1 := byteI_lt hB (o + 8) 8
 have l2 := byteI_lt hB (o + 8 + 8) 8
 have l3 := byteI_lt hB (o + 8 + 8 + 8) 8
 simp only [List.range, List.range.loop, List.map_cons, List.map_nil]
 rw [show o + 8 * 0 = o from rfl, show o + 8 * 1 = o + 8 by omega, show o + 8 * 2 = o + 8 + 8 by omega, show o + 8 * 3 = o + 8 + 8 + 8 by omega]
 have e0 : (zd D o 8).toNat = bN D o 32 / 16777216 := by omega
 have e1 : (zd D (o + 8) 8).toNat = bN D o 32 / 65536 % 256 := by omega
 have e2 : (zd D (o + 8 + 8) 8).toNat = bN D o 32 / 256 % 256 := by omega
 have e3 : (zd D (o + 8 + 8 + 8) 8).toNat = bN D o 32 % 256 := by omega
 rw [e0, e1, e2, e3]
end Go.Proofs.YtfpohfifdfbpkaaGreatDoor
namespace Go.Proofs.YtfpohfifdfbpkaaGreatDoor
open Go.RowKit Scour Go.Lib
theorem natx (a b : Nat) (ha : a < 4294967296) (hb : b < 4294967296) : a ^^^ b < 4294967296 := Nat.xor_lt_two_pow (n := 32) ha hb
theorem owns_bytes {w : World} {B : Nat} {v : Value} {s : Str} (h : w.ownsRow B 5 1 v s.length (s.map zT)) : ∃ ao c, v = .slice ao s.length c /\ jD w w.heap.size ao s := by
 rcases zV h with ⟨h1, h2⟩ | ⟨g, cc, h1, _⟩
 ·exact ⟨none, 0, by rw [h1, h2], fun h0 => by omega⟩
 ·subst h1
  refine ⟨_, cc, rfl, fun _ => ⟨g, 0, ?_, rfl, fun j hj => ?_⟩⟩
  ·obtain ⟨cu, hcu⟩ := zK h
   exact (Array.getElem?_eq_some_iff.1 hcu).1
  ·rw [Nat.zero_add, h.cellAt j (by omega)]
   simp [zT, List.getD, hj]
set_option maxHeartbeats 8000000 in
set_option maxRecDepth 100000 in
theorem fsum_any (ao : Option Addr) (cO : Nat) (s : Str) (w : World) (hO : jD w w.heap.size ao s) (hs : s.length <= 9223372036854775807) :
  Calls Tryz.prog 100 #[.slice ao s.length cO] w fun e w' => e = .returned (.int .u32 (regN s s.length : Nat)) /\ w' = w := by
 obtain ⟨n, hn⟩ : ∃ n, s.length = n := ⟨_, rfl⟩
 rw [hn] at hs ⊢
 have HN := zB hn
 have HRL := zB (regN_lt s)
 have HBL := zB (regB_lt s)
 have HR0 := zB (regN_zero s)
 have HB0 : Hid (∀ k, k < n -> regB s k 0 = regN s k ^^^ ((s.getD k 0).toNat * 16777216)) := zB fun k hk => regB_zero s k (by omega)
 have HBS : Hid (∀ k j, k < n -> regB s k (j + 1) = (2 * regB s k j % 4294967296) ^^^ (regB s k j / 2147483648 * 4194311 % 4294967296)) := zB fun k j hk => regB_step s k j (by omega)
 have HBE : Hid (∀ k, regB s k 8 = regN s (k + 1)) := zB (regB_end s)
 have HCL : Hid (∀ k, k < n -> ∃ g o, ao = some ⟨g, o, none⟩ /\ w.cell? ⟨g, o + k, none⟩ = some (.int .u8 (s.getD k 0).toNat)) := zB fun k hk => by
  obtain ⟨g, o, _, e, hc⟩ := hO (by omega)
  exact ⟨g, o, e, hc k (by omega)⟩
 clear hO hn
 go_enter Tryz.func100, Tryz.ntmps100
 go_wp2
 go_loop [3, 8] (fun v3 v8 => ∃ k : Nat, v8 = .int .i64 k /\ k <= n /\ v3 = .int .u32 (regN s k : Nat)) (fun _ v8 => n - (intOf v8).toNat)
 case atStart => exact ⟨0, rfl, Nat.zero_le _, by rw [zA HR0]; rfl⟩
 case round =>
  obtain ⟨k, rfl, hk, rfl⟩ := hrel
  by_cases hkn : k < n
  ·obtain ⟨g, o, rfl, hcell⟩ := zA HCL k hkn
   have h0 := zA HB0 k hkn
   have hst := fun j => zA HBS k j hkn
   have hR := zA HRL k
   have hcb := UInt8.toNat_lt (s.getD k 0)
   generalize (s.getD k 0).toNat = c at *
   have hx : bits .xor .u32 ((regN s k : Nat) : Int) ((c : Int) * 16777216) = ((regB s k 0 : Nat) : Int) := by
    rw [h0, show (c : Int) * 16777216 = ((c * 16777216 : Nat) : Int) by omega, u32_xor_nat _ _ hR (by omega)]
   have HST := zB hst
   clear h0 hst
   go_wp2
   go_loop [3, 17] (fun v3 v17 => ∃ j : Nat, v17 = .int .i64 j /\ j <= 8 /\ v3 = .int .u32 (regB s k j : Nat)) (fun _ v17 => 8 - (intOf v17).toNat)
   case atStart => exact ⟨0, rfl, Nat.zero_le _, by first | rw [hx] | rfl⟩
   case round =>
    obtain ⟨j, rfl, hj, rfl⟩ := hrel
    by_cases hj8 : j < 8
    ·have hL := zA HBL k j
     have hnx := zA HST j
     clear HB0 HBS HRL HR0 HCL HST HBE HBL hx
     obtain ⟨nx, hnn⟩ : ∃ nx, regB s k (j + 1) = nx := ⟨_, rfl⟩
     rw [hnn] at hnx
     have HNN := zB hnn
     clear hnn
     generalize regB s k j = L at *
     by_cases hb : L < 2147483648
     ·have d1 : (L : Int) / 2147483648 = 0 := by omega
      have hx2 : bits .xor .u32 ((L : Int) * 2) 0 = ((nx : Nat) : Int) := by
       rw [hnx, show (L : Int) * 2 = ((2 * L % 4294967296 : Nat) : Int) by omega, show L / 2147483648 = 0 by omega, show (0 : Int) = ((0 : Nat) : Int) from rfl, u32_xor_nat _ _ (by omega) (by omega)]
      clear hnx
      set_option maxHeartbeats 1000000 in go_wp2
      go_round
      case rel => exact ⟨j + 1, by go_num, hj8, by rw [zA HNN]⟩
      case measure => simp [intOf]; omega
     ·have d1 : (L : Int) / 2147483648 = 1 := by omega
      obtain ⟨q, hq⟩ : ∃ q, q = 2 * L % 4294967296 := ⟨_, rfl⟩
      have hq2 : (q : Int) = (L : Int) * 2 % 4294967296 := by omega
      have hqb : q < 4294967296 := by omega
      have hw : IntKind.u32.wrap ((L : Int) * 2) = (q : Int) := by rw [IntKind.wrap_u32']; omega
      have hx2 : bits .xor .u32 (q : Int) 4194311 = ((nx : Nat) : Int) := by
       rw [hnx, show L / 2147483648 = 1 by omega, ← hq, show (4194311 : Int) = ((4194311 : Nat) : Int) from rfl, u32_xor_nat _ _ hqb (by omega)]
      have hm := hq2.symm
      clear hnx hq hq2
      set_option maxHeartbeats 1000000 in go_wp2
      go_round
      case rel => exact ⟨j + 1, by go_num, hj8, by rw [zA HNN]⟩
      case measure => simp [intOf]; omega
    ·obtain rfl : j = 8 := by omega
     go_wp2
     go_round
     case rel => exact ⟨k + 1, by go_num, hkn, by rw [zA HBE]⟩
     case measure => simp [intOf]; omega
  ·obtain rfl : k = n := by omega
   go_wp2
   go_ret
   exact ⟨rfl, rfl⟩
end Go.Proofs.YtfpohfifdfbpkaaGreatDoor
namespace Go.Proofs.YtfpohfifdfbpkaaGreatDoor
open Go.RowKit Scour Go.Lib
theorem owns_of_new (w : World) (l : List Value) (t : TypeId) (hl : l.length <= maxLen) : (w.alloc (.cells l.toArray t)).ownsRow w.heap.size t 1 (.slice (some ⟨w.heap.size, 0, none⟩) l.length l.length) l.length l := by
 refine ⟨by omega, Or.inr ⟨w.heap.size, l.length, _, rfl, Nat.le_refl _, heap_alloc_new w _, Nat.le_refl _, hl, by simp, ?_⟩⟩
 simp
theorem one_cells (s : Str) : ∀ u ∈ s.map zT, u.oneCell' = true := fun u hu => by
 obtain ⟨x, _, rfl⟩ := List.mem_map.1 hu; rfl
set_option maxHeartbeats 8000000 in
set_option maxRecDepth 100000 in
theorem fseal_any (ao : Option Addr) (cO : Nat) (xs : Str) (w : World) (hO : jD w w.heap.size ao xs) (hx : xs.length <= 9223372036854775807) :
  Calls Tryz.prog 60 #[.slice ao xs.length cO] w fun e w' => e = .returned (.slice (some ⟨w.heap.size, 0, none⟩) 4 4) /\ w'.ownsRow w.heap.size 5 1 (.slice (some ⟨w.heap.size, 0, none⟩) 4 4) 4 ((yK xs).map zT) /\ Below w.heap.size w w' := by
 have HS := zB (fsum_any ao cO xs w hO (by omega))
 have hR := regN_lt xs xs.length
 have hsum := sum_reg xs
 obtain ⟨m, hm⟩ : ∃ m, xs.length = m := ⟨_, rfl⟩
 have hmb : m <= 9223372036854775807 := by omega
 generalize regN xs xs.length = R at *
 obtain ⟨b0, hb0⟩ : ∃ b, b = UInt8.ofNat (R / 16777216) := ⟨_, rfl⟩
 obtain ⟨b1, hb1⟩ : ∃ b, b = UInt8.ofNat (R / 65536 % 256) := ⟨_, rfl⟩
 obtain ⟨b2, hb2⟩ : ∃ b, b = UInt8.ofNat (R / 256 % 256) := ⟨_, rfl⟩
 obtain ⟨b3, hb3⟩ : ∃ b, b = UInt8.ofNat (R % 256) := ⟨_, rfl⟩
 rw [← hb0, ← hb1, ← hb2, ← hb3] at hsum
 have t0 : b0.toNat = R / 16777216 := by rw [hb0, UInt8.toNat_ofNat', Nat.mod_eq_of_lt (by omega)]
 have t1 : b1.toNat = R / 65536 % 256 := by rw [hb1, UInt8.toNat_ofNat', Nat.mod_eq_of_lt (by omega)]
 have t2 : b2.toNat = R / 256 % 256 := by rw [hb2, UInt8.toNat_ofNat', Nat.mod_eq_of_lt (by omega)]
 have t3 : b3.toNat = R % 256 := by rw [hb3, UInt8.toNat_ofNat', Nat.mod_eq_of_lt (by omega)]
 have w0 : IntKind.u8.wrap ((R : Int) / 16777216) = (b0.toNat : Int) := by rw [IntKind.wrap_u8', t0]; omega
 have w1 : IntKind.u8.wrap ((R : Int) / 65536) = (b1.toNat : Int) := by rw [IntKind.wrap_u8', t1]; omega
 have w2 : IntKind.u8.wrap ((R : Int) / 256) = (b2.toNat : Int) := by rw [IntKind.wrap_u8', t2]; omega
 have w3 : IntKind.u8.wrap (R : Int) = (b3.toNat : Int) := by rw [IntKind.wrap_u8', t3]; omega
 have n0 : (R : Int) / 16777216 = (b0.toNat : Int) := by rw [t0]; omega
 have n1 : (R : Int) / 65536 % 256 = (b1.toNat : Int) := by rw [t1]; omega
 have n2 : (R : Int) / 256 % 256 = (b2.toNat : Int) := by rw [t2]; omega
 have n3 : (R : Int) % 256 = (b3.toNat : Int) := by rw [t3]; omega
 have HK : Hid ((w.alloc (.cells #[.int .u8 (b0.toNat : Int), .int .u8 (b1.toNat : Int), .int .u8 (b2.toNat : Int), .int .u8 (b3.toNat : Int)] 5)).ownsRow w.heap.size 5 1 (.slice (some ⟨w.heap.size, 0, none⟩) 4 4) 4 ((yK xs).map zT)) := zB (by
  rw [hsum]
  exact owns_of_new w [.int .u8 (b0.toNat : Int), .int .u8 (b1.toNat : Int), .int .u8 (b2.toNat : Int), .int .u8 (b3.toNat : Int)] _ (by unfold maxLen; simp))
 have HBW : Hid (Below w.heap.size w (w.alloc (.cells #[.int .u8 (b0.toNat : Int), .int .u8 (b1.toNat : Int), .int .u8 (b2.toNat : Int), .int .u8 (b3.toNat : Int)] 5))) := zB ((Below.refl _ _).alloc (Nat.le_refl _) _)
 rw [hm] at HS ⊢
 clear hsum hm hx hb0 hb1 hb2 hb3 t0 t1 t2 t3 hO
 generalize b0.toNat = d0 at *
 generalize b1.toNat = d1 at *
 generalize b2.toNat = d2 at *
 generalize b3.toNat = d3 at *
 go_enter Tryz.func60, Tryz.ntmps60
 go_wp2_with (first | (go_at_call 100; refine (zA HS).mono ?_; rintro e w' ⟨rfl, hw'⟩; obtain rfl := hw'.symm))
 go_ret
 exact ⟨rfl, zA HK, zA HBW⟩
end Go.Proofs.YtfpohfifdfbpkaaGreatDoor
