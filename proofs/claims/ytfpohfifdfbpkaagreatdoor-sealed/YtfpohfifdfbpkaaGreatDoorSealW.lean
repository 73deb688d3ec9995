import Derived.Test.YtfpohfifdfbpkaaGreatDoorFlS
import Derived.Test.YtfpohfifdfbpkaaGreatDoorBoth
import Derived.Deep.QuietTactic
import Derived.Deep.RegionWith
namespace Go.Proofs.YtfpohfifdfbpkaaGreatDoor.Crc
open Scour
theorem xlc (a b c : BitVec 32) : a ^^^ (b ^^^ c) = b ^^^ (a ^^^ c) := by rw [← BitVec.xor_assoc, BitVec.xor_comm a b, BitVec.xor_assoc]
theorem xss (a b : BitVec 32) : a ^^^ (a ^^^ b) = b := by rw [← BitVec.xor_assoc, BitVec.xor_self, BitVec.zero_xor]
def fb (v : BitVec 32) : BitVec 32 := (v <<< 1) ^^^ (if v.msb then 4194311#32 else 0#32)
theorem fb_xor (a b : BitVec 32) : fb (a ^^^ b) = fb a ^^^ fb b := by
 unfold fb
 rw [BitVec.msb_xor, BitVec.shiftLeft_xor_distrib]
 cases a.msb <;> cases b.msb <;> simp [BitVec.xor_assoc, BitVec.xor_comm, xlc]
theorem fb_zero : fb 0#32 = 0#32 := by decide
def fd (r : BitVec 32) (b : Bool) : BitVec 32 := fb (r ^^^ (if b then 2147483648#32 else 0#32))
def feed (r : BitVec 32) (bs : List Bool) : BitVec 32 := bs.foldl fd r
theorem fd_xor (r r' : BitVec 32) (b b' : Bool) : fd (r ^^^ r') (b ^^ b') = fd r b ^^^ fd r' b' := by
 unfold fd
 rw [← fb_xor]
 cases b <;> cases b' <;> simp [BitVec.xor_assoc, BitVec.xor_comm, xlc]
theorem feed_xor : ∀ (bs bs' : List Bool) (r r' : BitVec 32), bs.length = bs'.length -> feed (r ^^^ r') (List.zipWith (· ^^ ·) bs bs') = feed r bs ^^^ feed r' bs'
 | [], [], _, _, _ => rfl
 | b :: bs, b' :: bs', r, r', h => by
   show feed (fd (r ^^^ r') (b ^^ b')) _ = feed (fd r b) bs ^^^ feed (fd r' b') bs'
   rw [fd_xor]
   exact feed_xor bs bs' _ _ (by simpa using h)
def top : List Bool -> BitVec 32
 | [] => 0#32
 | b :: bs => (if b then 2147483648#32 else 0#32) ^^^ (top bs >>> 1)
theorem msb_top (b : Bool) (bs : List Bool) : (top (b :: bs)).msb = b := by
 simp only [top]
 rw [BitVec.msb_xor]
 have h : (top bs >>> 1).msb = false := by rw [BitVec.msb_ushiftRight]; simp
 rw [h]; cases b <;> decide
theorem top_low : ∀ (bs : List Bool) (k : Nat), k + bs.length < 32 -> (top bs).getLsbD k = false
 | [], k, _ => by simp [top]
 | b :: bs, k, h => by
   simp only [List.length_cons] at h
   simp only [top, BitVec.getLsbD_xor, BitVec.getLsbD_ushiftRight]
   rw [top_low bs (1 + k) (by omega)]
   cases b
   ·simp
   ·have h31 : ∀ k, k < 31 -> (2147483648#32).getLsbD k = false := by decide
    simp [h31 k (by omega)]
theorem top_zero : ∀ (bs : List Bool), bs.length <= 32 -> top bs = 0#32 -> ∀ b ∈ bs, b = false
 | [], _, _ => by simp
 | b :: bs, h, h0 => by
   have hb : b = false := by have := msb_top b bs; rw [h0] at this; simpa using this.symm
   subst hb
   simp only [top, List.length_cons] at h0 h
   have h1 : top bs = 0#32 := by
    have hl := top_low bs 0 (by omega)
    apply BitVec.eq_of_getLsbD_eq
    intro i hi
    cases i with
    | zero => simpa using hl
    | succ i =>
      have := congrArg (fun v => BitVec.getLsbD v i) h0
      simp [BitVec.getLsbD_ushiftRight] at this
      rw [Nat.add_comm 1 i] at this
      simpa using this
   intro x hx
   rcases List.mem_cons.1 hx with rfl | hx
   ·rfl
   ·exact top_zero bs (by omega) h1 x hx
theorem fb_low (v : BitVec 32) : (fb v).getLsbD 0 = v.msb := by
 unfold fb
 cases h : v.msb <;> simp
theorem fb_inv {v t : BitVec 32} (ht : t.getLsbD 0 = false) : fb v = t ↔ v = t >>> 1 := by
 constructor
 ·intro h
  have hm : v.msb = false := by rw [← fb_low, h, ht]
  have h2 : v <<< 1 = t := by rw [← h]; unfold fb; rw [hm]; simp
  rw [← h2]
  apply BitVec.eq_of_getLsbD_eq
  intro i hi
  simp only [BitVec.getLsbD_ushiftRight, BitVec.getLsbD_shiftLeft]
  by_cases h31 : i = 31
  ·subst h31
   rw [BitVec.msb_eq_getLsbD_last] at hm
   simpa using hm
  ·have e : 1 + i - 1 = i := by omega
   have e2 : 1 + i < 32 := by omega
   simp [e, e2]
 ·intro h
  subst h
  have hm : (t >>> 1).msb = false := by rw [BitVec.msb_ushiftRight]; simp
  unfold fb
  rw [hm]
  apply BitVec.eq_of_getLsbD_eq
  intro i hi
  cases i with
  | zero => simpa using ht.symm
  | succ i => simp [Nat.add_comm 1 i, hi]
theorem feed_top : ∀ (bs : List Bool) (r : BitVec 32), bs.length <= 32 -> (feed r bs = 0#32 ↔ r = top bs)
 | [], r, _ => Iff.rfl
 | b :: bs, r, h => by
   simp only [List.length_cons] at h
   show feed (fd r b) bs = 0#32 ↔ _
   rw [feed_top bs _ (by omega)]
   unfold fd
   rw [fb_inv (top_low bs 0 (by omega))]
   simp only [top]
   generalize (if b = true then 2147483648#32 else 0#32) = m
   generalize top bs >>> 1 = t
   constructor
   ·intro e; rw [← e, BitVec.xor_comm m, BitVec.xor_assoc, BitVec.xor_self, BitVec.xor_zero]
   ·intro e; rw [e, BitVec.xor_comm m, BitVec.xor_assoc, BitVec.xor_self, BitVec.xor_zero]
theorem feed_noughts : ∀ (n : Nat) (r : BitVec 32), feed r (List.replicate n false) = 0#32 -> r = 0#32
 | 0, r, h => h
 | n + 1, r, h => by
   have h1 : feed (fd r false) (List.replicate n false) = 0#32 := h
   have h2 := feed_noughts n _ h1
   unfold fd at h2
   have h3 := (fb_inv (v := r ^^^ _) (t := 0#32) (by simp)).1 h2
   simpa using h3
theorem feed_still : ∀ (n : Nat), feed 0#32 (List.replicate n false) = 0#32
 | 0 => rfl
 | n + 1 => by
   show feed (fd 0#32 false) (List.replicate n false) = 0#32
   rw [show fd 0#32 false = 0#32 by decide]
   exact feed_still n
theorem feed_append (r : BitVec 32) (a b : List Bool) : feed r (a ++ b) = feed (feed r a) b := List.foldl_append
theorem burst (i j : Nat) (bs : List Bool) (hl : bs.length <= 32) (h : feed 0#32 (List.replicate i false ++ bs ++ List.replicate j false) = 0#32) : ∀ b ∈ bs, b = false := by
 rw [feed_append, feed_append, feed_still] at h
 exact top_zero bs hl ((feed_top bs _ hl).1 (feed_noughts j _ h)).symm
theorem fb_nat (v : BitVec 32) : (fb v).toNat = (2 * v.toNat % 4294967296) ^^^ (v.toNat / 2147483648 * 4194311 % 4294967296) := by
 have hv := v.isLt
 unfold fb
 rw [BitVec.toNat_xor, BitVec.toNat_shiftLeft, BitVec.msb_eq_decide]
 have h1 : v.toNat <<< 1 % 2 ^ 32 = 2 * v.toNat % 4294967296 := by rw [Nat.shiftLeft_eq]; omega
 rw [h1]
 by_cases h : 2 ^ (32 - 1) <= v.toNat
 ·have : v.toNat / 2147483648 = 1 := by omega
  rw [this, decide_eq_true h]; rfl
 ·have : v.toNat / 2147483648 = 0 := by omega
  rw [this, decide_eq_false h]; rfl
def bits8 (c : Nat) : List Bool := [c.testBit 7, c.testBit 6, c.testBit 5, c.testBit 4, c.testBit 3, c.testBit 2, c.testBit 1, c.testBit 0]
def fb8 (v : BitVec 32) : BitVec 32 := fb (fb (fb (fb (fb (fb (fb (fb v)))))))
theorem fb8_xor (a b : BitVec 32) : fb8 (a ^^^ b) = fb8 a ^^^ fb8 b := by simp only [fb8, fb_xor]
theorem feed8 : ∀ c : Fin 256, feed 0#32 (bits8 c.val) = fb8 (BitVec.ofNat 32 (c.val * 16777216)) := by decide +kernel
theorem feed_false8 (r : BitVec 32) : feed r (List.replicate 8 false) = fb8 r := by
 simp [feed, fb8, fd, List.replicate]
theorem feed_byte (r : BitVec 32) (c : Nat) (hc : c < 256) : feed r (bits8 c) = fb8 (r ^^^ BitVec.ofNat 32 (c * 16777216)) := by
 have h := feed_xor (List.replicate 8 false) (bits8 c) r 0#32 (by simp [bits8])
 rw [feed_false8, feed8 ⟨c, hc⟩, ← fb8_xor] at h
 rw [← h]
 simp [bits8, List.replicate]
theorem top_get : ∀ (bs : List Bool) (k : Nat), k < 32 -> (top bs).getLsbD k = bs.getD (31 - k) false
 | [], k, _ => by simp [top]
 | b :: bs, k, h => by
   simp only [top, BitVec.getLsbD_xor, BitVec.getLsbD_ushiftRight]
   by_cases h31 : k = 31
   ·subst h31
    cases b <;> simp <;> decide
   ·have e : 31 - k = (31 - (1 + k)) + 1 := by omega
    rw [top_get bs (1 + k) (by omega), e]
    have hz : ∀ k, k < 31 -> (2147483648#32).getLsbD k = false := by decide
    cases b <;> simp [hz k (by omega)]
theorem top_bytes (n : Nat) : top (bits8 (n / 16777216) ++ (bits8 (n / 65536 % 256) ++ (bits8 (n / 256 % 256) ++ bits8 (n % 256)))) = BitVec.ofNat 32 n := by
 apply BitVec.eq_of_getLsbD_eq
 intro i hi
 rw [top_get _ _ hi, BitVec.getLsbD_ofNat]
 have e24 : ∀ k, (n / 16777216).testBit k = n.testBit (k + 24) := fun k => by rw [show n / 16777216 = n / 2 ^ 24 by rfl, Nat.testBit_div_two_pow]
 have e16 : ∀ k, k < 8 -> (n / 65536 % 256).testBit k = n.testBit (k + 16) := fun k h => by rw [show 256 = 2 ^ 8 by rfl, Nat.testBit_mod_two_pow, show 65536 = 2 ^ 16 by rfl, Nat.testBit_div_two_pow]; simp [h]
 have e8 : ∀ k, k < 8 -> (n / 256 % 256).testBit k = n.testBit (k + 8) := fun k h => by rw [show n / 256 % 256 = n / 2 ^ 8 % 2 ^ 8 by rfl, Nat.testBit_mod_two_pow, Nat.testBit_div_two_pow]; simp [h]
 have e0 : ∀ k, k < 8 -> (n % 256).testBit k = n.testBit k := fun k h => by rw [show n % 256 = n % 2 ^ 8 by rfl, Nat.testBit_mod_two_pow]; simp [h]
 simp only [bits8, e24, e16, e8, e0, List.cons_append, List.nil_append, Nat.reduceLT, Nat.reduceAdd]
 have : i = 0 \/ i = 1 \/ i = 2 \/ i = 3 \/ i = 4 \/ i = 5 \/ i = 6 \/ i = 7 \/ i = 8 \/ i = 9 \/ i = 10 \/ i = 11 \/ i = 12 \/ i = 13 \/ i = 14 \/ i = 15 \/ i = 16 \/ i = 17 \/ i = 18 \/ i = 19 \/ i = 20 \/ i = 21 \/ i = 22 \/ i = 23 \/ i = 24 \/ i = 25 \/ i = 26 \/ i = 27 \/ i = 28 \/ i = 29 \/ i = 30 \/ i = 31 := by omega
 rcases this with rfl | rfl | rfl | rfl | rfl | rfl | rfl | rfl | rfl | rfl | rfl | rfl | rfl | rfl | rfl | rfl | rfl | rfl | rfl | rfl | rfl | rfl | rfl | rfl | rfl | rfl | rfl | rfl | rfl | rfl | rfl | rfl <;> simp
def bitsL (s : Str) : List Bool := s.flatMap fun c => bits8 c.toNat
theorem bitsL_append (a b : Str) : bitsL (a ++ b) = bitsL a ++ bitsL b := List.flatMap_append
theorem feed_reg (s : Str) : ∀ k, k <= s.length -> (feed 0#32 (bitsL (s.take k))).toNat = regN s k
 | 0, _ => by rw [regN_zero]; rfl
 | k + 1, h => by
   have hk : k < s.length := by omega
   have ih := feed_reg s k (by omega)
   have e : s.take (k + 1) = s.take k ++ [s.getD k 0] := by rw [List.take_add_one]; simp [List.getD, hk]
   have hc : (s.getD k 0).toNat < 256 := (s.getD k 0).toNat_lt
   have zb := regB_zero s k hk
   rw [e, bitsL_append, feed_append]
   generalize s.getD k 0 = c at *
   rw [show bitsL [c] = bits8 c.toNat by simp [bitsL], feed_byte _ _ hc]
   rw [← regB_end]
   have z : (feed 0#32 (bitsL (s.take k)) ^^^ BitVec.ofNat 32 (c.toNat * 16777216)).toNat = regB s k 0 := by
    rw [zb, BitVec.toNat_xor, ih, BitVec.toNat_ofNat, Nat.mod_eq_of_lt (by omega)]
   simp only [fb8, fb_nat, z, ← regB_step s k _ hk, Nat.zero_add, Nat.reduceAdd]
theorem bits8_len (c : Nat) : (bits8 c).length = 8 := rfl
theorem feed_file (t : Str) : feed 0#32 (bitsL (t ++ yK t)) = 0#32 := by
 have hr := feed_reg t t.length (Nat.le_refl _)
 have hn := regN_lt t t.length
 rw [List.take_length] at hr
 rw [bitsL_append, feed_append, sum_reg]
 generalize regN t t.length = n at *
 have e1 : n / 16777216 % 256 = n / 16777216 := by omega
 have e : bitsL [UInt8.ofNat (n / 16777216), UInt8.ofNat (n / 65536 % 256), UInt8.ofNat (n / 256 % 256), UInt8.ofNat (n % 256)] = bits8 (n / 16777216) ++ (bits8 (n / 65536 % 256) ++ (bits8 (n / 256 % 256) ++ bits8 (n % 256))) := by
  simp [bitsL, e1]
 rw [e, feed_top _ _ (by simp [bits8_len]), top_bytes, ← hr, BitVec.ofNat_toNat, BitVec.setWidth_eq]
def bitB (s : Str) (k : Nat) : Bool := (s.getD (k / 8) 0).toNat.testBit (7 - k % 8)
theorem bitsL_range : ∀ s : Str, bitsL s = (List.range (8 * s.length)).map (bitB s)
 | [] => rfl
 | c :: s => by
   have e : bitsL (c :: s) = bits8 c.toNat ++ bitsL s := by simp [bitsL]
   rw [e, bitsL_range s, List.length_cons, show 8 * (s.length + 1) = 8 + 8 * s.length by omega, List.range_add, List.map_append, List.map_map]
   congr 1
   apply List.map_congr_left
   intro k _
   show bitB s k = bitB (c :: s) (8 + k)
   unfold bitB
   rw [show (8 + k) / 8 = k / 8 + 1 by omega, show (8 + k) % 8 = k % 8 by omega]
   rfl
theorem eq_of_bits {x y : Str} (hl : x.length = y.length) (h : ∀ k, k < 8 * x.length -> bitB x k = bitB y k) : x = y := by
 apply List.ext_getElem hl
 intro i h1 h2
 apply UInt8.toNat_inj.1
 apply Nat.eq_of_testBit_eq
 intro j
 have hx := (x[i]).toNat_lt
 have hy := (y[i]).toNat_lt
 by_cases hj : j < 8
 ·have := h (8 * i + (7 - j)) (by omega)
  unfold bitB at this
  rw [show (8 * i + (7 - j)) / 8 = i by omega, show 7 - (8 * i + (7 - j)) % 8 = j by omega] at this
  simpa [List.getD, h1, h2] using this
 ·have hp : 256 <= 2 ^ j := Nat.pow_le_pow_right (n := 2) (by omega) (show 8 <= j by omega)
  rw [Nat.testBit_lt_two_pow (by omega), Nat.testBit_lt_two_pow (by omega)]
theorem burst_files (t t' : Str) (f : Nat) (hl : (t ++ yK t).length = (t' ++ yK t').length) (hf : f + 32 <= 8 * (t ++ yK t).length)
  (h : ∀ k, k < 8 * (t ++ yK t).length -> (k < f \/ f + 32 <= k) -> bitB (t ++ yK t) k = bitB (t' ++ yK t') k) : t ++ yK t = t' ++ yK t' := by
 have a := feed_file t
 have b := feed_file t'
 generalize t ++ yK t = x at *
 generalize t' ++ yK t' = y at *
 have ll : (bitsL x).length = (bitsL y).length := by rw [bitsL_range, bitsL_range]; simp [hl]
 have hx := feed_xor (bitsL x) (bitsL y) 0#32 0#32 ll
 rw [a, b, BitVec.xor_self, bitsL_range, bitsL_range, ← hl, List.zipWith_map, List.zipWith_self] at hx
 obtain ⟨j, hj⟩ : ∃ j, 8 * x.length = f + 32 + j := ⟨8 * x.length - (f + 32), by omega⟩
 rw [hj, List.range_add, List.range_add, List.map_append, List.map_append, List.map_map, List.map_map] at hx
 have e1 : (List.range f).map (fun k => bitB x k ^^ bitB y k) = List.replicate f false := by
  apply List.eq_replicate_iff.2
  refine ⟨by simp, fun v hv => ?_⟩
  obtain ⟨k, hk, rfl⟩ := List.mem_map.1 hv
  have hk := List.mem_range.1 hk
  rw [h k (by omega) (Or.inl hk), Bool.xor_self]
 have e2 : (List.range j).map ((fun k => bitB x k ^^ bitB y k) ∘ fun k => f + 32 + k) = List.replicate j false := by
  apply List.eq_replicate_iff.2
  refine ⟨by simp, fun v hv => ?_⟩
  obtain ⟨k, hk, rfl⟩ := List.mem_map.1 hv
  have hk := List.mem_range.1 hk
  show (bitB x (f + 32 + k) ^^ bitB y (f + 32 + k)) = false
  rw [h (f + 32 + k) (by omega) (Or.inr (by omega)), Bool.xor_self]
 rw [e1, e2] at hx
 have hb := burst f j _ (by simp) hx
 refine eq_of_bits hl fun k hk => ?_
 by_cases hin : k < f \/ f + 32 <= k
 ·exact h k hk hin
 ·have := hb (bitB x k ^^ bitB y k) (List.mem_map.2 ⟨k - f, List.mem_range.2 (by omega), by show (bitB x (f + (k - f)) ^^ bitB y (f + (k - f))) = _; rw [show f + (k - f) = k by omega]⟩)
  simpa using this
def flipB (s : Str) (p : Nat) : Str := s.set (p / 8) (UInt8.ofNat ((s.getD (p / 8) 0).toNat ^^^ 2 ^ (7 - p % 8)))
theorem flipB_len (s : Str) (p : Nat) : (flipB s p).length = s.length := by simp [flipB]
theorem pow7 (p : Nat) : 2 ^ (7 - p % 8) < 256 := by
 have h : ∀ r : Fin 8, 2 ^ (7 - r.val) < 256 := by decide
 exact h ⟨p % 8, Nat.mod_lt _ (by omega)⟩
theorem flip_lt (s : Str) (p : Nat) : (s.getD (p / 8) 0).toNat ^^^ 2 ^ (7 - p % 8) < 256 := Nat.xor_lt_two_pow (n := 8) (s.getD (p / 8) 0).toNat_lt (pow7 p)
theorem flipB_get (s : Str) (p j : Nat) (hp : p / 8 < s.length) : ((flipB s p).getD j 0).toNat = if j = p / 8 then (s.getD j 0).toNat ^^^ 2 ^ (7 - p % 8) else (s.getD j 0).toNat := by
 unfold flipB
 rw [List.getD_eq_getElem?_getD, List.getElem?_set]
 by_cases h : j = p / 8
 ·subst h
  have := flip_lt s p
  rw [if_pos rfl, if_pos rfl, if_pos hp]
  simp only [Option.getD_some, UInt8.toNat_ofNat']
  exact Nat.mod_eq_of_lt this
 ·rw [if_neg (fun e => h e.symm), if_neg h, List.getD_eq_getElem?_getD]
theorem bitB_flip (s : Str) (p k : Nat) (hp : p < 8 * s.length) : bitB (flipB s p) k = (bitB s k ^^ decide (k = p)) := by
 unfold bitB
 rw [flipB_get s p (k / 8) (by omega)]
 by_cases h : k / 8 = p / 8
 ·rw [if_pos h, Nat.testBit_xor, Nat.testBit_two_pow]
  congr 1
  by_cases e : k = p
  ·subst e; simp
  ·rw [decide_eq_false e, decide_eq_false (by omega)]
 ·rw [if_neg h, decide_eq_false (fun e => h (by rw [e])), Bool.xor_false]
end Go.Proofs.YtfpohfifdfbpkaaGreatDoor.Crc
namespace Go.Proofs.YtfpohfifdfbpkaaGreatDoor
open Go.RowKit Scour Go.Lib Crc
theorem conv_bytes3 (T : ByteArray) (hT : T.size <= maxLen) : ∃ (capf : World -> Nat) (objf : World -> Obj), (∀ W : World, (convert 9 27 (.string T)).run Tryz.prog W = .ok (.slice (some ⟨W.heap.size, 0, none⟩) T.size (capf W)) (W.alloc (objf W)).drew) /\
  ∀ W : World, (∀ j, j < T.size -> (W.alloc (objf W)).drew.cell? ⟨W.heap.size, j, none⟩ = some (.int .u8 (T.data.toList.getD j 0).toNat) /\ (W.alloc (objf W)).drew.frozen? ⟨W.heap.size, j, none⟩ = false) /\ T.size <= capf W /\ capf W <= 9223372036854775807 := by
 refine ⟨fun W => grownCap W T.size 0 5, fun W => .cells (bytesRow T (grownCap W T.size 0 5)) 5 ((bytesRow T (grownCap W T.size 0 5)).size, (bytesRow T (grownCap W T.size 0 5)).size + 1), fun W => run_bytes_of_string W 9 27 5 T Tryz.underlying9 Tryz.underlying27 Tryz.underlying5, fun W => ⟨fun j hj => ?_, grownCap_ge W T.size 0 5, ?_⟩⟩
 ·have hj' : j < T.data.size := hj
  have hr := bytesRow_at T (grownCap W T.size 0 5) j hj'
  have hn := heap_alloc_new W (.cells (bytesRow T (grownCap W T.size 0 5)) 5 ((bytesRow T (grownCap W T.size 0 5)).size, (bytesRow T (grownCap W T.size 0 5)).size + 1))
  have hlt : j < (bytesRow T (grownCap W T.size 0 5)).size := (Array.getElem?_eq_some_iff.1 hr).1
  have hd : T.data.toList.getD j 0 = T.data[j] := by rw [List.getD_eq_getElem?_getD, Array.getElem?_toList, Array.getElem?_eq_getElem hj']; rfl
  refine ⟨?_, ?_⟩
  ·rw [hd]
   exact (zC hn j).trans hr
  ·show World.frozen? (W.alloc _) _ = false
   unfold World.frozen?
   simp only [hn]
   simp
   omega
 ·have := grownCap_le_maxLen W T.size 0 5 hT
  unfold maxLen at this
  omega
def SInv (T : ByteArray) (B f : Nat) (w0 wr : World) (k : Nat) (a : Bool) (y : Str) : Prop :=
 y.length = T.size /\ (∀ j, j < T.size -> wr.cell? ⟨B, j, none⟩ = some (.int .u8 (y.getD j 0).toNat) /\ wr.frozen? ⟨B, j, none⟩ = false) /\ Below w0.heap.size w0 wr /\ w0.heap.size <= B /\ B < wr.heap.size
  /\ (∀ p, (p < f \/ f + k <= p) -> bitB y p = bitB T.data.toList p) /\ ((a = false /\ y = T.data.toList) \/ (a = true /\ ∃ p, f <= p /\ p < f + k /\ bitB y p ≠ bitB T.data.toList p))
theorem SInv.same {T : ByteArray} {B f : Nat} {w0 wr : World} {k : Nat} {a : Bool} {y : Str} (h : SInv T B f w0 wr k a y) : SInv T B f w0 wr (k + 1) a y := by
 obtain ⟨h1, h2, h3, h4, h5, h6, h7⟩ := h
 refine ⟨h1, h2, h3, h4, h5, fun p hp => h6 p (by omega), ?_⟩
 rcases h7 with h7 | ⟨h7, p, p1, p2, p3⟩
 ·exact Or.inl h7
 ·exact Or.inr ⟨h7, p, p1, by omega, p3⟩
theorem SInv.turn {T : ByteArray} {B f : Nat} {w0 wr : World} {k : Nat} {a : Bool} {y : Str} (h : SInv T B f w0 wr k a y) (hp : f + k < 8 * T.size) (v : Int) (hv : v = (((y.getD ((f + k) / 8) 0).toNat ^^^ 2 ^ (7 - (f + k) % 8) : Nat) : Int)) :
  SInv T B f w0 (wr.setCell ⟨B, (f + k) / 8, none⟩ (.int .u8 v)) (k + 1) true (flipB y (f + k)) := by
 obtain ⟨h1, h2, h3, h4, h5, h6, h7⟩ := h
 subst hv
 have hq : (f + k) / 8 < T.size := by omega
 refine ⟨by rw [flipB_len]; exact h1, fun j hj => ⟨?_, (World.frozen?_setCell _ _ _ _).trans (h2 j hj).2⟩, h3.setCell h4 _, h4, by simpa [World.setCell] using h5, fun p hp' => ?_, Or.inr ⟨rfl, f + k, by omega, by omega, ?_⟩⟩
 ·rw [flipB_get y (f + k) j (by omega)]
  by_cases e : j = (f + k) / 8
  ·subst e
   rw [if_pos rfl]
   exact World.cell?_setCell_same _ _ _ (h2 _ hq).1
  ·rw [if_neg e]
   exact (World.cell?_setCell_other _ _ _ _ (fun e2 => e (by cases e2; rfl))).trans (h2 j hj).1
 ·rw [bitB_flip y (f + k) p (by omega), decide_eq_false (by omega), Bool.xor_false]
  exact h6 p (by omega)
 ·rw [bitB_flip y (f + k) (f + k) (by omega), h6 (f + k) (by omega)]
  simp
theorem SInv.drewN {T : ByteArray} {B f : Nat} {w0 wr : World} {k : Nat} {a : Bool} {y : Str} (h : SInv T B f w0 wr k a y) (n : Nat) : SInv T B f w0 (wr.drewN n) k a y := by
 obtain ⟨h1, h2, h3, h4, h5, h6⟩ := h
 have hb : Below wr.heap.size wr (wr.drewN n) := ⟨rfl, rfl, rfl, Nat.le_refl _, fun _ _ => rfl⟩
 exact ⟨h1, fun j hj => ⟨(hb.cell (p := ⟨B, j, none⟩) h5).trans (h2 j hj).1, (hb.frozen (p := ⟨B, j, none⟩) h5).trans (h2 j hj).2⟩, h3.trans (hb.mono h3.size), h4, Nat.lt_of_lt_of_le h5 hb.size, h6⟩
def LdCells (W : World) (b : Nat) (y : Str) : Prop := b < W.heap.size /\ ∀ j, j < y.length -> W.cell? ⟨b, j, none⟩ = some (.int .u8 (y.getD j 0).toNat)
def LdSaid (P : Str -> Prop) (y : Str) (W : World) (e : Ending) (W' : World) : Prop :=
 (∃ b, e = .returned (.tuple #[.pointer (some ⟨b, 0, none⟩), .int .i64 0]) /\ P y /\ Below W.heap.size W W') \/ (∃ er : Int, e = .returned (.tuple #[.pointer none, .int .i64 er]) /\ (er != 0) = true /\ ¬ P y /\ Below W.heap.size W W')
structure TOK (P : Str -> Prop) (T : ByteArray) : Prop where
 low : 8 <= T.size
 high : T.size < 100000000
 is : P T.data.toList
 cut : ∀ n, n < T.size -> ¬ P (T.data.toList.take n)
 more : ∀ u, ¬ P (T.data.toList ++ [u])
 burst : ∀ y f, y.length = T.size -> f + 32 <= 8 * T.size -> (∀ p, (p < f \/ f + 32 <= p) -> bitB y p = bitB T.data.toList p) -> P y -> y = T.data.toList
theorem conv_m (W : World) (m : UInt8) : (convert 27 9 (.slice (some ⟨W.heap.size, 0, none⟩) 1 1)).run Tryz.prog (W.alloc (.cells #[.int .u8 m.toNat] 5)) = .ok (.string ⟨#[m]⟩) (W.alloc (.cells #[.int .u8 m.toNat] 5)) :=
 run_convert_bytes_back _ 27 9 5 ⟨W.heap.size, 0, none⟩ 1 [m] Tryz.underlying27 Tryz.underlying5 Tryz.underlying9 (fun j hj => by
  have : j = 0 := by simp at hj; exact hj
  subst this
  rw [zg, zC (w := W.alloc (.cells #[.int .u8 m.toNat] 5)) (heap_alloc_new W _) (0 + 0)]
  rfl)
theorem load_refused {w : World} (P : Str -> Prop) (X : ByteArray) (hX : X.size <= maxLen)
  (HLD : Hid (∀ g cp y n W, LdCells W g y -> y.length = n -> n <= cp -> cp <= 9223372036854775807 -> Below w.heap.size w W -> Calls Tryz.prog 16 #[.slice (some ⟨g, 0, none⟩) n cp] W (LdSaid P y W))) (hP : ¬ P X.data.toList) :
  ∃ (capf : World -> Nat) (objf : World -> Obj), (∀ W : World, (convert 9 27 (.string X)).run Tryz.prog W = .ok (.slice (some ⟨W.heap.size, 0, none⟩) X.size (capf W)) (W.alloc (objf W)).drew) /\
    ∀ W : World, Below w.heap.size w W -> Calls Tryz.prog 16 #[.slice (some ⟨W.heap.size, 0, none⟩) X.size (capf W)] (W.alloc (objf W)).drew fun e W' => ∃ er : Int, e = .returned (.tuple #[.pointer none, .int .i64 er]) /\ (er != 0) = true /\ Hid (Below w.heap.size w W') := by
 obtain ⟨capf, objf, hcv, hbb⟩ := conv_bytes3 X hX
 refine ⟨capf, objf, hcv, fun W hW => ?_⟩
 have hb1 : Below w.heap.size w (W.alloc (objf W)).drew := (hW.alloc hW.size _).drew
 refine (zA HLD W.heap.size (capf W) X.data.toList X.size _ ⟨by simp, fun j hj => ((hbb W).1 j (by simpa using hj)).1⟩ (by simp) (hbb W).2.1 (hbb W).2.2 hb1).mono ?_
 rintro e W' (⟨b, rfl, h, _⟩ | ⟨er, rfl, hne, _, hb⟩)
 ·exact absurd h hP
 ·exact ⟨er, rfl, hne, zB (hb1.trans (hb.mono hb1.size))⟩
set_option maxHeartbeats 8000000 in
set_option maxRecDepth 100000 in
theorem sealed_walk (ap : Option Addr) (len cap : Nat) (a b c : Int) (m : UInt8) (w : World) (K1 : Option Addr -> Nat -> Nat -> World -> Prop) (K2 : Nat -> ByteArray -> World -> Prop) (P : Str -> Prop)
  (ha : -9223372036854775808 <= a /\ a <= 9223372036854775807) (hb : -9223372036854775808 <= b /\ b <= 9223372036854775807) (hc : -9223372036854775808 <= c /\ c <= 9223372036854775807)
  (HPT : Hid (Calls Tryz.prog 14 #[.slice ap len cap] w fun e w1 => ∃ ap' n' cap', e = .returned (.slice ap' n' cap') /\ Hid (K1 ap' n' cap' w1)))
  (HMD : Hid (∀ ap' n' cap' w1, Hid (K1 ap' n' cap' w1) -> Calls Tryz.prog 13 #[.slice ap' n' cap'] w1 fun e w2 => ∃ bm T, e = .returned (.pointer (some ⟨bm, 0, none⟩)) /\ Hid (K2 bm T w2)))
  (HTO : Hid (∀ bm T w2, Hid (K2 bm T w2) -> TOK P T))
  (HSV : Hid (∀ bm T w2, Hid (K2 bm T w2) -> Calls Tryz.prog 15 #[.pointer (some ⟨bm, 0, none⟩)] w2 fun e w3 => ∃ fb fc, e = .returned (.slice (some ⟨fb, 0, none⟩) T.size fc) /\ (convert 27 9 (.slice (some ⟨fb, 0, none⟩) T.size fc)).run Tryz.prog w3 = .ok (.string T) w3 /\ Hid (Below w.heap.size w w3)))
  (HLD : Hid (∀ g cp y n W, LdCells W g y -> y.length = n -> n <= cp -> cp <= 9223372036854775807 -> Below w.heap.size w W -> Calls Tryz.prog 16 #[.slice (some ⟨g, 0, none⟩) n cp] W (LdSaid P y W)))
  (HPK : Hid (∀ (x n : Int) W, 0 < n -> n <= 9223372036854775807 -> (-9223372036854775808 <= x /\ x <= 9223372036854775807) -> Calls Tryz.prog 19 #[.int .i64 x, .int .i64 n] W fun e w' => ∃ q : Nat, e = .returned (.int .i64 q) /\ (q : Int) < n /\ w' = W)) :
  Calls Tryz.prog 7 #[.slice ap len cap, .int .i64 a, .int .i64 b, .int .i64 c, .int .u8 m.toNat] w fun e w' => e = .returned (.bool true) /\ Below w.heap.size w w' := by
 go_enter Tryz.func7, Tryz.ntmps7
 go_wp2_with (first
  | (go_at_call 14; refine (zA HPT).mono ?_; rintro e w1 ⟨ap', n', cap', rfl, HK1⟩)
  | (go_at_call 13; refine (zA HMD _ _ _ _ HK1).mono ?_; rintro e w2 ⟨bm, T, rfl, HK2⟩))
 obtain ⟨hT8, hTl, hX, hCU, hMO, hBU⟩ := zA HTO _ _ _ HK2
 have HX := zB hX
 have HCU := zB hCU
 have HMO := zB hMO
 have HBU := zB hBU
 obtain ⟨capf, objf, hcv, hbb⟩ := conv_bytes3 T (by unfold maxLen; omega)
 have HBB := zB hbb
 clear hbb hX hCU hMO hBU
 refine (zA HSV _ _ _ HK2).mono ?_
 rintro e w3 ⟨fb, fc, rfl, hcs, HB3⟩
 have hT63 : (T.size : Int) <= 9223372036854775807 := by omega
 have hb1 : Below w.heap.size w (w3.alloc (objf w3)).drew := ((zA HB3).alloc (zA HB3).size _).drew
 have HL1 := zB (zA HLD w3.heap.size (capf w3) T.data.toList T.size _ ⟨by simp, fun j hj => ((zA HBB w3).1 j (by simpa using hj)).1⟩ (by simp) (zA HBB w3).2.1 (zA HBB w3).2.2 hb1)
 have HB1 := zB hb1
 clear hb1
 go_wp2_with fail
 refine (zA HL1).mono ?_
 rintro e w4 (⟨bn, rfl, _, hb4⟩ | ⟨er, rfl, _, hn, _⟩)
 ·have HB4 := zB ((zA HB1).trans (hb4.mono (zA HB1).size))
  clear hb4 HL1
  have t8 : ¬ (T.size : Int) < 8 := by omega
  go_wp2_with fail
  refine (zA HPK a _ _ (by omega) (by omega) ha).mono ?_
  rintro e w' ⟨f, rfl, hf, hw⟩
  obtain rfl := hw.symm
  clear hw
  have hf32 : f + 32 <= 8 * T.size := by omega
  have HI0 : Hid (SInv T w4.heap.size f w (w4.alloc (objf w4)).drew 0 false T.data.toList) := zB ⟨by simp, (zA HBB w4).1, ((zA HB4).alloc (zA HB4).size _).drew, (zA HB4).size, by simp, fun p _ => rfl, Or.inl ⟨rfl, rfl⟩⟩
  have hcp := (zA HBB w4).2
  obtain ⟨wb, hwb⟩ : ∃ wb, wb = (w4.alloc (objf w4)).drew := ⟨_, rfl⟩
  rw [← hwb] at HI0 ⊢
  have HWB := zB hwb
  clear hwb
  generalize capf w4 = cp at *
  generalize w4.heap.size = B at *
  go_wp2_with fail
  go_loopw [2, 17, 18] (fun v2 v17 v18 wr => ∃ (k : Nat) (v : Int) (aa : Bool) (y : Str), v18 = .int .i64 k /\ k <= 32 /\ v2 = .int .i64 v /\ (-9223372036854775808 <= v /\ v <= 9223372036854775807) /\ v17 = .bool aa /\ Hid (SInv T B f w wr k aa y)) (fun _ _ v18 _ => 32 - (intOf v18).toNat)
  case atStart => exact ⟨0, b, false, T.data.toList, rfl, by omega, rfl, hb, rfl, HI0⟩
  case round =>
   obtain ⟨k, v, aa, y, rfl, hk, rfl, hv, rfl, HI⟩ := hrel
   by_cases hk32 : k < 32
   ·have i1 : (k : Int) < 32 := by omega
    cases hbit : (bits .and .i64 v 1 == 1) with
    | false =>
      go_wp2_with fail
      go_roundw
      case rel => exact ⟨k + 1, v / 2, aa, y, by go_num, hk32, by go_num, by omega, rfl, zB (zA HI).same⟩
      case measure => simp [intOf]; omega
    | true =>
      obtain ⟨q, r, hqr, hr⟩ : ∃ q r : Nat, f + k = 8 * q + r /\ r < 8 := ⟨(f + k) / 8, (f + k) % 8, by omega, by omega⟩
      have hq : q < T.size := by omega
      obtain ⟨y1, y2⟩ := (zA HI).2.1 q hq
      have HTU : Hid (∀ z : Int, z = (((y.getD q 0).toNat ^^^ 2 ^ (7 - r) : Nat) : Int) -> SInv T B f w (wr.setCell ⟨B, q, none⟩ (.int .u8 z)).drew (k + 1) true (flipB y (f + k))) := zB (fun z hz => by
       have h := ((zA HI).turn (by omega) z (by rw [show (f + k) / 8 = q by omega, show (f + k) % 8 = r by omega]; exact hz)).drewN 1
       rw [show (f + k) / 8 = q by omega] at h
       exact h)
      have hc := (y.getD q 0).toNat_lt
      have hx := u8_xor_nat (y.getD q 0).toNat (2 ^ (7 - r)) hc (by have := pow7 r; rwa [Nat.mod_eq_of_lt hr] at this)
      generalize (y.getD q 0).toNat = c0 at *
      have d1 : ((f : Int) + (k : Int)) / 8 = (q : Int) := by omega
      have d2 : ((f : Int) + (k : Int)).tdiv 8 = (q : Int) := by rw [Int.tdiv_eq_ediv_of_nonneg (by omega)]; exact d1
      have m1 : ((f : Int) + (k : Int)) % 8 = (r : Int) := by omega
      have m2 : ((f : Int) + (k : Int)).tmod 8 = (r : Int) := by rw [Int.tmod_eq_emod_of_nonneg (by omega)]; exact m1
      have q1 : (0 : Int) <= (q : Int) := by omega
      have q2 : (q : Int) < (T.size : Int) := by omega
      clear HI
      have hr8 : r = 0 \/ r = 1 \/ r = 2 \/ r = 3 \/ r = 4 \/ r = 5 \/ r = 6 \/ r = 7 := by omega
      have HQR := zB hqr
      clear hqr
      go_wp2_with fail
      rcases hr8 with rfl | rfl | rfl | rfl | rfl | rfl | rfl | rfl
      all_goals go_region
      all_goals go_wp2_with fail
      all_goals go_roundw
      all_goals first
       | exact ⟨k + 1, v / 2, true, flipB y (f + k), by go_num, hk32, by go_num, by omega, rfl, zB (zA HTU _ hx)⟩
       | (simp [intOf]; omega)
   ·obtain rfl : k = 32 := by omega
    have HI := HI
    obtain ⟨s1, s2, s3, s4, s5, s6, s7⟩ := zA HI
    have HBr := zB s3
    have HS7 : Hid ((aa = false /\ P y) \/ (aa = true /\ ¬ P y)) := zB (by
     rcases s7 with ⟨e1, e2⟩ | ⟨e1, p, _, _, e2⟩
     ·exact Or.inl ⟨e1, by rw [e2]; exact zA HX⟩
     ·exact Or.inr ⟨e1, fun hP => e2 (by rw [zA HBU y f s1 hf32 s6 hP])⟩)
    have HL2 := zB (zA HLD B cp y T.size wr ⟨s5, fun j hj => (s2 j (by omega)).1⟩ s1 hcp.1 hcp.2 s3)
    clear s1 s2 s3 s4 s5 s6 s7 HI HI0
    go_wp2_with fail
    have HE5 : Hid (Calls Tryz.prog 16 #[.slice (some ⟨B, 0, none⟩) T.size cp] wr fun e W' => ∃ (p5 : Option Addr) (e5 : Int), e = .returned (.tuple #[.pointer p5, .int .i64 e5]) /\ (e5 != 0) = aa /\ Hid (Below w.heap.size w W')) := zB ((zA HL2).mono (by
     rintro e W' (⟨b5, rfl, hP, hb5⟩ | ⟨er, rfl, hne, hP, hb5⟩)
     ·refine ⟨_, 0, rfl, ?_, zB ((zA HBr).trans (hb5.mono (zA HBr).size))⟩
      rcases zA HS7 with ⟨h, _⟩ | ⟨_, h⟩
      ·rw [h]; rfl
      ·exact absurd hP h
     ·refine ⟨_, er, rfl, ?_, zB ((zA HBr).trans (hb5.mono (zA HBr).size))⟩
      rcases zA HS7 with ⟨_, h⟩ | ⟨h, _⟩
      ·exact absurd h hP
      ·rw [h]; exact hne))
    refine (zA HE5).mono ?_
    rintro e w5 ⟨p5, e5, rfl, he5, HB5⟩
    clear HE5 HL2 HS7
    go_wp2_with fail
    refine (zA HPK c _ _ (by omega) (by omega) hc).mono ?_
    rintro e w' ⟨n2, rfl, hn2, hw⟩
    obtain rfl := hw.symm
    clear hw
    have j1 : (0 : Int) <= (n2 : Int) := by omega
    have j2 : (n2 : Int) <= (T.size : Int) := by omega
    have hn2' : n2 < T.size := by omega
    obtain ⟨X2, hX2⟩ : ∃ X, T.extract 0 n2 = X := ⟨_, rfl⟩
    have HL3 := zB (load_refused (w := w) P X2 (by rw [← hX2]; unfold maxLen; simp; omega) HLD (by
     rw [← hX2, show (T.extract 0 n2).data.toList = T.data.toList.take n2 by simp]
     exact zA HCU n2 hn2'))
    obtain ⟨capf2, objf2, hcv2, hL3⟩ := zA HL3
    have HQ3 := zB hL3
    clear hL3 HL3 hn2'
    go_wp2_with fail
    refine (zA HQ3 _ (zA HB5)).mono ?_
    rintro e w6 ⟨e6, rfl, he6, HB6⟩
    obtain ⟨tm, htm⟩ : ∃ tm : ByteArray, tm = ⟨#[m]⟩ := ⟨_, rfl⟩
    have htz : tm.size = 1 := by rw [htm]; rfl
    have hcm : (convert 27 9 (.slice (some ⟨w6.heap.size, 0, none⟩) 1 1)).run Tryz.prog (w6.alloc (.cells #[.int .u8 m.toNat] 5)) = .ok (.string tm) (w6.alloc (.cells #[.int .u8 m.toNat] 5)) := by rw [htm]; exact conv_m w6 m
    obtain ⟨X3, hX3⟩ : ∃ X, T ++ tm = X := ⟨_, rfl⟩
    have hx3 : X3.size <= maxLen := by rw [← hX3]; unfold maxLen; simp; omega
    have hx3l : X3.data.toList = T.data.toList ++ [m] := by rw [← hX3, htm]; simp
    obtain ⟨capf3, objf3, hcv3, hL4⟩ := load_refused (w := w) P X3 hx3 HLD (by rw [hx3l]; exact zA HMO m)
    have HB7 : Hid (Below w.heap.size w (w6.alloc (.cells #[.int .u8 m.toNat] 5))) := zB ((zA HB6).alloc (zA HB6).size _)
    have hq4 := hL4 _ (zA HB7)
    have e7 : (w6.alloc (.cells #[.int .u8 m.toNat] 5)).heap.size = w6.heap.size + 1 := by simp
    rw [e7] at hq4
    have HQ4 := zB hq4
    have hcv4 := hcv3 (w6.alloc (.cells #[.int .u8 m.toNat] 5))
    have hts : ¬ 9223372036854775807 < T.size + tm.size := by omega
    clear hL4 hq4 e7 hcv3 HQ3 htm HLD hcv2 hcv hX2 hx3 hx3l HB1 HB3 HB4 HB5 HBr HWB HBB HPT HMD HSV HPK HX HCU HMO HBU
    go_wp2_with fail
    refine (zA HQ4).mono ?_
    rintro e w8 ⟨e8, rfl, he8, HB8⟩
    clear HQ4 hcv4 hcm hX3 hts htz
    subst he5
    go_wp2_with fail
    go_ret
    exact ⟨rfl, zA HB8⟩
 ·exact absurd (zA HX) hn
end Go.Proofs.YtfpohfifdfbpkaaGreatDoor
