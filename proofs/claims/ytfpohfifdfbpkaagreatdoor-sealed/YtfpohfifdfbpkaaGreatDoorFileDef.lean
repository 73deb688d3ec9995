import Derived.Test.YtfpohfifdfbpkaaGreatDoorBoth
import Derived.Test.YtfpohfifdfbpkaaGreatDoorPackDef
import Derived.Laws.AppendOwnNone
namespace Go.Proofs.YtfpohfifdfbpkaaGreatDoor
open Go.RowKit Scour Go.Lib
def zN (n : Nat) : Str := if h : n < 128 then [UInt8.ofNat n] else UInt8.ofNat (n % 128 + 128) :: zN (n / 128)
termination_by n
decreasing_by omega
theorem yH {n : Nat} (h : n < 128) : zN n = [UInt8.ofNat n] := by rw [zN, dif_pos h]
theorem numS_big {n : Nat} (h : ¬ n < 128) : zN n = UInt8.ofNat (n % 128 + 128) :: zN (n / 128) := by rw [zN, dif_neg h]
theorem numS_len : ∀ n : Nat, n < 2097152 -> (zN n).length <= 3 := by
 intro n hn
 by_cases h0 : n < 128
 ·rw [yH h0]; simp
 ·rw [numS_big h0]
  by_cases h1 : n / 128 < 128
  ·rw [yH h1]; simp
  ·rw [numS_big h1, yH (by omega)]; simp
def bitOf (s : Str) (i : Nat) : Nat := if s.length <= i / 8 then 0 else (s.getD (i / 8) 0).toNat / 2 ^ (7 - i % 8) % 2
def flipI (E : Nat -> Int) (j : Nat) : Nat -> Int := upd E j (1 - E j)
def dv (E : Nat -> Int) (i : Nat) : Nat -> Int := if E i = 1 then flipI (flipI (flipI (flipI (upd E i 0) (i + 10)) (i + 30)) (i + 31)) (i + 32) else E
def dvTo (E : Nat -> Int) : Nat -> Nat -> Int
 | 0 => E
 | i + 1 => dv (dvTo E i) i
def bitsI (s : Str) : Nat -> Int := fun i => (bitOf s i : Nat)
def zd (E : Nat -> Int) (o : Nat) : Nat -> Int
 | 0 => 0
 | k + 1 => 2 * zd E o k + E (o + k)
def yK (s : Str) : Str := (List.range 4).map fun i => UInt8.ofNat (zd (dvTo (bitsI s) (8 * s.length)) (8 * s.length + 8 * i) 8).toNat
def Bits (E : Nat -> Int) : Prop := ∀ k, E k = 0 \/ E k = 1
theorem bits_bitsI (s : Str) : Bits (bitsI s) := fun k => by
 unfold bitsI bitOf
 split
 ·left; rfl
 ·omega
theorem Bits.upd {E : Nat -> Int} (h : Bits E) (i : Nat) (x : Int) (hx : x = 0 \/ x = 1) : Bits (upd E i x) := fun k => by
 unfold Go.Proofs.YtfpohfifdfbpkaaGreatDoor.upd; split
 ·exact hx
 ·exact h k
theorem Bits.flip {E : Nat -> Int} (h : Bits E) (i : Nat) : Bits (flipI E i) := h.upd i _ (by have := h i; omega)
theorem Bits.dv {E : Nat -> Int} (h : Bits E) (i : Nat) : Bits (dv E i) := by
 unfold Go.Proofs.YtfpohfifdfbpkaaGreatDoor.dv; split
 ·exact ((((h.upd i 0 (Or.inl rfl)).flip _).flip _).flip _).flip _
 ·exact h
theorem Bits.dvTo {E : Nat -> Int} (h : Bits E) : ∀ i, Bits (dvTo E i)
 | 0 => h
 | i + 1 => (h.dvTo i).dv i
theorem byteI_lt {E : Nat -> Int} (h : Bits E) (o : Nat) : ∀ k, 0 <= zd E o k /\ zd E o k < 2 ^ k
 | 0 => by simp [zd]
 | k + 1 => by
   have := byteI_lt h o k
   have := h (o + k)
   rw [zd, Int.pow_succ]
   omega
theorem sumS_len (s : Str) : (yK s).length = 4 := by simp [yK]
theorem intsF_congr {E E' : Nat -> Int} {m : Nat} (h : ∀ i, i < m -> E i = E' i) : zZ E m = zZ E' m := by
 unfold zZ
 refine List.map_congr_left (fun i hi => ?_)
 rw [h i (by simpa using hi)]
theorem zj : ∀ n : Nat, n < 268435456 -> (zN n).length <= 4 := by
 intro n hn
 by_cases h0 : n < 128
 ·rw [yH h0]; simp
 ·rw [numS_big h0]
  have := numS_len (n / 128) (by omega)
  simp; omega
structure POK (B : Nat) (p : PSt) : Prop where
 o : ∀ i, 0 <= p.o i /\ p.o i <= B
 cl : ∀ q, q ∈ p.cl -> -1 <= q.1 /\ q.1 < 10000 /\ 0 <= q.2 /\ q.2 < 10000
 len : p.cl.length <= B
theorem lay_ok {s a : Nat} (hs : s < 10000) : ∀ (l : List (Nat × Nat)) (cl : List (Int × Int)), (∀ p, p ∈ l -> p.2 < 10000) -> (∀ q, q ∈ cl -> -1 <= q.1 /\ q.1 < 10000 /\ 0 <= q.2 /\ q.2 < 10000) -> ∀ q, q ∈ lay cl s l a -> -1 <= q.1 /\ q.1 < 10000 /\ 0 <= q.2 /\ q.2 < 10000
 | [], cl, _, h => h
 | p :: l, cl, hl, h => by
   have e : lay cl s (p :: l) a = lay (layOne s a cl p) s l a := rfl
   rw [e]
   refine lay_ok hs l _ (fun x hx => hl x (List.mem_cons_of_mem _ hx)) (fun q hq => ?_)
   have hp := hl p List.mem_cons_self
   unfold layOne at hq
   rcases List.mem_or_eq_of_mem_set hq with hq | rfl
   ·unfold padC at hq
    rcases List.mem_append.1 hq with hq | hq
    ·exact h q hq
    ·obtain ⟨_, rfl⟩ := List.mem_replicate.1 hq
     simp
   ·simp only []; omega
theorem offOf_le (cl : List (Int × Int)) (l : List (Nat × Nat)) : offOf cl l <= cl.length := by
 unfold offOf
 cases h : (List.range (cl.length + 1)).find? (yo cl l) with
 | none => simp
 | some a =>
   have := List.mem_of_find?_eq_some h
   have := List.mem_range.1 this
   simp; omega
theorem packTo_ok {L : Nat -> List (Nat × Nat)} {n : Nat} (hn : n < 10000) (hL : ∀ s p, p ∈ L s -> p.1 < 1000 /\ p.2 < 10000) : ∀ k, POK (1000 * k) (zP L n k)
 | 0 => ⟨fun i => ⟨Int.le_refl _, Int.le_refl _⟩, (fun q hq => by cases hq), Nat.le_refl _⟩
 | k + 1 => by
   have h := packTo_ok hn hL k
   have hl := h.len
   show POK (1000 * (k + 1)) (yA L n (zP L n k))
   unfold yA
   split
   ·refine ⟨fun i => ?_, h.cl, by omega⟩
    have := h.o i; omega
   ·rename_i hb
    obtain ⟨b, hb1, hb2, _, _⟩ : ∃ b : Nat, b < n /\ za L (zP L n k).d n = b /\ (zP L n k).d b = false /\ 0 < (L b).length := by
     rcases jB L (zP L n k).d n with h | h
     ·rw [h] at hb; omega
     ·exact h
    rw [hb2, Int.toNat_natCast]
    have ho := offOf_le (zP L n k).cl (L b)
    refine ⟨fun i => ?_, lay_ok (by omega) _ _ (fun p hp => (hL b p hp).2) h.cl, ?_⟩
    ·simp only []
     unfold upd
     split
     ·omega
     ·have := h.o i; omega
    ·have := lay_le (s := b) (fun p hp => (hL b p hp).1) ho
     simp only []; omega
def stS (S : List Str) (i : Nat) : Str := zN (S.idxOf ((at' S i).take ((at' S i).length - 1))) ++ (at' S i).drop ((at' S i).length - 1) ++ zN (S.idxOf (yI S ((at' S i).drop 1)))
def jQ (S : List Str) : Nat -> Str
 | 0 => []
 | k + 1 => jQ S k ++ if k = 0 then [] else stS S k
def jS (ps S : List Str) : Nat -> Str
 | 0 => []
 | k + 1 => jS ps S k ++ zN (S.idxOf (pat ps k))
def offsTo (o : Nat -> Int) : Nat -> Str
 | 0 => []
 | k + 1 => offsTo o k ++ zN (o k).toNat
def celS (q : Int × Int) : Str := zN (q.1 + 1).toNat ++ if 0 <= q.1 then zN q.2.toNat else []
def zq (cl : List (Int × Int)) : Nat -> Str
 | 0 => []
 | k + 1 => zq cl k ++ celS (cl.getD k (0, 0))
def headS (ps S : List Str) : Str := [83, 67, 82] ++ zN 1 ++ zN (zL ps).length ++ zL ps ++ zN S.length
def yS (ps S : List Str) : Str :=
 headS ps S ++ jQ S S.length ++ zN ps.length ++ jS ps S ps.length ++ offsTo (zI (zU S (zL ps)) S.length).o S.length ++ zN (zI (zU S (zL ps)) S.length).cl.length ++ zq (zI (zU S (zL ps)) S.length).cl (zI (zU S (zL ps)) S.length).cl.length
def zS (ps S : List Str) : Str := yS ps S ++ yK (yS ps S)
theorem stS_len {S : List Str} {i : Nat} (hS : S.length < 10000) : (stS S i).length <= 9 := by
 have h1 := zj (S.idxOf ((at' S i).take ((at' S i).length - 1))) (by have := List.idxOf_le_length (a := (at' S i).take ((at' S i).length - 1)) (l := S); omega)
 have h2 := zj (S.idxOf (yI S ((at' S i).drop 1))) (by have := List.idxOf_le_length (a := yI S ((at' S i).drop 1)) (l := S); omega)
 unfold stS
 simp only [List.length_append, List.length_drop]
 omega
theorem stsTo_len {S : List Str} (hS : S.length < 10000) : ∀ k, (jQ S k).length <= 9 * k
 | 0 => Nat.le_refl _
 | k + 1 => by
   have := stsTo_len hS k
   have := stS_len (i := k) hS
   rw [jQ, List.length_append]
   split <;> simp <;> omega
theorem patsTo_len {ps S : List Str} (hS : S.length < 10000) : ∀ k, (jS ps S k).length <= 4 * k
 | 0 => Nat.le_refl _
 | k + 1 => by
   have := patsTo_len (ps := ps) hS k
   have := zj (S.idxOf (pat ps k)) (by have := List.idxOf_le_length (a := pat ps k) (l := S); omega)
   rw [jS, List.length_append]; omega
theorem offsTo_len {o : Nat -> Int} (ho : ∀ i, 0 <= o i /\ o i <= 10000000) : ∀ k, (offsTo o k).length <= 4 * k
 | 0 => Nat.le_refl _
 | k + 1 => by
   have := offsTo_len ho k
   have := zj (o k).toNat (by have := ho k; omega)
   rw [offsTo, List.length_append]; omega
theorem celsTo_len {cl : List (Int × Int)} (h : ∀ q, q ∈ cl -> -1 <= q.1 /\ q.1 < 10000 /\ 0 <= q.2 /\ q.2 < 10000) : ∀ k, k <= cl.length -> (zq cl k).length <= 6 * k
 | 0, _ => Nat.le_refl _
 | k + 1, hk => by
   have h1 := celsTo_len h k (by omega)
   have hq : cl.getD k (0, 0) ∈ cl := by
    rw [List.getD_eq_getElem?_getD, List.getElem?_eq_getElem (by omega)]
    exact List.getElem_mem _
   have h2 := h _ hq
   have h3 := numS_len ((cl.getD k (0, 0)).1 + 1).toNat (by omega)
   have h4 := numS_len (cl.getD k (0, 0)).2.toNat (by omega)
   rw [zq, List.length_append]
   generalize cl.getD k (0, 0) = q at *
   unfold celS
   rw [List.length_append]
   split
   ·omega
   ·rw [List.length_nil]; omega
theorem headS_len {ps S : List Str} (hS : S.length < 10000) : (headS ps S).length <= 300 := by
 have h1 := zj 1 (by omega)
 have h2 := clsTo_len ps 256
 have h3 := zj (zL ps).length (by unfold zL; omega)
 have h4 := zj S.length (by omega)
 unfold headS
 simp only [List.length_append, List.length_cons, List.length_nil]
 unfold zL at *
 omega
def SaveOK : Prop := ∀ (W : World) (bm bt be : Nat) (g : List Nat) (ps S : List Str), yV W bm bt be g ps S -> (chk ps).1 = 0 -> Calls Tryz.prog 15 #[.pointer (some ⟨bm, 0, none⟩)] W fun e w' => ∃ b c, e = .returned (.slice (some ⟨b, 0, none⟩) (zS ps S).length c) /\ w'.ownsRow W.heap.size 5 1 (.slice (some ⟨b, 0, none⟩) (zS ps S).length c) (zS ps S).length ((zS ps S).map zT) /\ Below W.heap.size W w'
theorem fileS_len {ps S : List Str} (hSl : S.length < 10000) (hps : ps.length <= 64) (hn : ∀ k b, zO S k b < 10000) : (zS ps S).length < 100000000 := by
 have hcl := clsTo_len ps 256
 have hpk : POK (1000 * S.length) (zI (zU S (zL ps)) S.length) := packTo_ok hSl (fun s p hp => by
  have h := excTo_mem (S := S) (c := zL ps) (s := s) hn (zL ps).length p hp
  unfold zL at h
  omega) S.length
 have h1 := headS_len (ps := ps) hSl
 have h2 := stsTo_len hSl S.length
 have h3 := patsTo_len (ps := ps) hSl ps.length
 have h4 := offsTo_len (o := (zI (zU S (zL ps)) S.length).o) (fun i => by have := hpk.o i; omega) S.length
 have h5 := celsTo_len hpk.cl _ (Nat.le_refl _)
 have h6 := hpk.len
 have h7 := zj ps.length (by omega)
 have h8 := zj (zI (zU S (zL ps)) S.length).cl.length (by omega)
 unfold zS yS
 simp only [List.length_append, sumS_len]
 omega
theorem mach_pats {w : World} {bm bt be : Nat} {g : List Nat} {ps S : List Str} (hM : yV w bm bt be g ps S) (hc : (chk ps).1 = 0) : ∀ i, i < ps.length -> pat ps i ∈ S := by
 obtain ⟨_, cap, par, lst, E, hT, hS, _⟩ := hM.ex
 obtain ⟨_, hlen, _⟩ := yr hc
 intro i hi
 exact (hS.mem _).2 (Or.inr ⟨i, hi, (hlen i hi).1, Nat.le_refl _, by rw [List.take_length]⟩)
theorem yz {P : Program} {w : World} {ops : Array Oper} {rest : List Oper} {o : Oper} {a : Act} {Q : Exit -> Act -> World -> Prop} (hgd : o.guard = none) (s x : Operand) (t : TypeId)
  (ho : o.op = .call { callee := .builtin .append, args := #[s, x], argTypes := #[t, t] })
  (base : Nat) (e : TypeId) (i : TypeInfo) (z : Value) (size bytes : Nat) (ht : P.underlying t = some (.slice e)) (hi : P.info? e = some i) (hz : i.zero = some z)
  (hsize : i.size = size) (hby : i.bytes = bytes) (hzs : z.cells.size = size) (hsz : 0 < size)
  (v : Value) (n : Nat) (xs : List Value) (hs : a.eval s = v) (hown : w.ownsRow base e size v n xs)
  (ap : Option Addr) (m c : Nat) (news : List Value) (hx : a.eval x = .slice ap m c) (hnil : ap = none -> c = 0 /\ news = []) (hl : news.length = m * size) (hnews : ∀ ad, ap = some ad -> ∀ j u, news[j]? = some u -> w.cell? (ad.add j) = some u) (h1 : ∀ u ∈ news, u.oneCell' = true)
  (h63 : n + m <= maxLen) (hbytes : (n + m) * bytes <= 140737488355328) (hbase : base <= w.heap.size)
  (h : ∀ v' w', w'.ownsRow base e size v' (n + m) (xs ++ news) -> w.grownBy w' v.ownBlock -> wpList P ops Q rest (a.put o.dst v') w') : wpList P ops Q (o :: rest) a w := by
 cases ap with
 | none =>
   obtain ⟨rfl, rfl⟩ := hnil rfl
   have hm : m = 0 := by
    rcases Nat.eq_zero_or_pos m with e | e
    ·exact e
    ·have := Nat.mul_pos e hsz
     simp at hl; omega
   subst hm
   refine wpList_append_own_none hgd s x t ho base e i size ht hi v n xs hs hown hx ?_
   refine h v w ?_ ⟨rfl, rfl, rfl, Nat.le_refl _, fun _ _ _ => rfl⟩
   simpa using hown
 | some ad => exact wpList_append_own w hgd s x t ho base e i z size bytes ht hi hz hsize hby hzs hsz v n xs hs hown ad m c news hx hl (hnews ad rfl) h1 h63 hbytes hbase (fun v' w' a b _ => h v' w' a b)
end Go.Proofs.YtfpohfifdfbpkaaGreatDoor
