import Derived.Test.YtfpohfifdfbpkaaGreatDoorLevelMath
namespace Go.Proofs.YtfpohfifdfbpkaaGreatDoor
open Go.RowKit Scour
def zr : List Str -> Nat -> Nat -> Int × Int
 | [], _, t => if 512 < t then (5, 0) else (0, 0)
 | p :: r, i, t => if p.length = 0 then (3, i) else if 64 < p.length then (4, i) else zr r (i + 1) (t + p.length)
def chk (ps : List Str) : Int × Int := if 64 < ps.length then (2, 0) else zr ps 0 0
theorem drop_pat {ps : List Str} {k : Nat} (h : k < ps.length) : ps.drop k = pat ps k :: ps.drop (k + 1) := by
 rw [List.drop_eq_getElem_cons h]; simp [pat, List.getD, h]
set_option maxHeartbeats 1000000 in
theorem check_any (ap : Option Addr) (cp base : Nat) (ps : List Str) (w : World) (hP : yO w base ap ps) (hbig : ps.length <= 9000000000000000000) (hl : ∀ i, i < ps.length -> (pat ps i).length <= 9000000000000000000) :
 Calls Tryz.prog 44 #[.slice ap ps.length cp] w fun e w' => e = .returned (.tuple #[.int .i64 (chk ps).1, .int .i64 (chk ps).2]) /\ w' = w := by
 by_cases hm : 64 < ps.length
 ·have HC : Hid (chk ps = (2, 0)) := zB (by unfold chk; rw [if_pos hm])
  go_enter Tryz.func44, Tryz.ntmps44
  go_wp2
  go_ret2
  rw [zA HC]
  exact ⟨rfl, rfl⟩
 ·have HC : Hid (chk ps = zr ps 0 0) := zB (by unfold chk; rw [if_neg hm])
  have HP := zB hP
  have HL := zB hl
  clear hP hl
  go_enter Tryz.func44, Tryz.ntmps44
  go_wp2
  go_loop [4, 12] (fun v4 v12 => ∃ k t : Nat, v4 = .int .i64 t /\ v12 = .int .i64 k /\ k <= ps.length /\ t <= 64 * k /\ Hid (chk ps = zr (ps.drop k) k t)) (fun _ v12 => ps.length - (intOf v12).toNat)
  case atStart => exact ⟨0, 0, rfl, rfl, Nat.zero_le _, by omega, zB (by rw [zA HC]; rfl)⟩
  case round =>
   obtain ⟨k, t, rfl, rfl, hk, ht, HR⟩ := hrel
   by_cases hlt : k < ps.length
   ·obtain ⟨bp, op, hbp, rfl, hpat⟩ := zA HP (by omega)
    obtain ⟨ao, c, h4, _⟩ := hpat k hlt
    have hlk := zA HL k hlt
    have hd := drop_pat hlt
    have i1 : (k : Int) < (ps.length : Int) := by omega
    have HR2 : Hid (chk ps = if (pat ps k).length = 0 then (3, (k : Int)) else if 64 < (pat ps k).length then (4, (k : Int)) else zr (ps.drop (k + 1)) (k + 1) (t + (pat ps k).length)) := zB (by rw [zA HR, hd, zr])
    clear hd hpat HR
    generalize (pat ps k).length = n at *
    by_cases h0 : n = 0
    ·subst h0
     have HR3 : Hid (chk ps = (3, (k : Int))) := zB (by rw [zA HR2]; simp)
     go_wp2
     go_ret2
     rw [zA HR3]
     exact ⟨rfl, rfl⟩
    ·have h0b : ((n : Int) == 0) = false := by simp [h0]
     by_cases h64 : 64 < n
     ·have HR3 : Hid (chk ps = (4, (k : Int))) := zB (by rw [zA HR2, if_neg h0, if_pos h64])
      go_wp2
      go_ret2
      rw [zA HR3]
      exact ⟨rfl, rfl⟩
     ·have HR3 := zB ((zA HR2).trans (by rw [if_neg h0, if_neg h64]))
      go_wp2
      go_round
      case rel => exact ⟨k + 1, t + n, by go_num, by go_num, hlt, by omega, HR3⟩
      case measure => simp [intOf]; omega
   ·obtain rfl : k = ps.length := by omega
    have HR2 : Hid (chk ps = if 512 < t then (5, 0) else (0, 0)) := zB (by rw [zA HR, List.drop_length, zr])
    clear HR
    by_cases h5 : 512 < t
    ·have HR3 : Hid (chk ps = (5, 0)) := zB (by rw [zA HR2, if_pos h5])
     go_wp2
     go_ret2
     rw [zA HR3]
     exact ⟨rfl, rfl⟩
    ·have HR3 : Hid (chk ps = (0, 0)) := zB (by rw [zA HR2, if_neg h5])
     go_wp2
     go_ret2
     rw [zA HR3]
     exact ⟨rfl, rfl⟩
end Go.Proofs.YtfpohfifdfbpkaaGreatDoor
namespace Go.Proofs.YtfpohfifdfbpkaaGreatDoor
open Go.RowKit Scour Go.Shelf Go.Lib Go.Sort
def zT (c : UInt8) : Value := .int .u8 c.toNat
theorem Tryz.infoB : (Tryz.prog.info? 5).map (fun i => (i.zero, i.size, i.bytes)) = some (some (.int .u8 0), 1, 1) := by kernel_rfl
theorem yN {w : World} {base e s : Nat} {v : Value} {n : Nat} {xs : List Value} (h : w.ownsRow base e s v n xs) : ∀ k, v.ownBlock = some k -> base <= k := by
 intro k hk
 rcases h.2 with ⟨rfl, _⟩ | ⟨g, cap, cur, rfl, hb, _⟩
 ·cases hk
 ·simp [Value.ownBlock] at hk; omega
theorem reverse_any (w : World) (base gb cap : Nat) (zs : Str) (h : w.ownsRow base 5 1 (.slice (some ⟨gb, 0, none⟩) zs.length cap) zs.length (zs.map zT)) (hl : zs.length < 100000) :
 Calls Tryz.prog 109 #[.slice (some ⟨gb, 0, none⟩) zs.length cap] w fun e w' => e = .returned (.tuple #[]) /\ w'.ownsRow base 5 1 (.slice (some ⟨gb, 0, none⟩) zs.length cap) zs.length (zs.reverse.map zT) /\ w.grownBy w' (some gb) := by
 have hH : Holds zT w gb 0 zs.toArray := by
  intro j hj
  simp only [List.size_toArray] at hj
  rw [Nat.zero_add]
  refine ⟨?_, h.frozenAt j⟩
  rw [h.cellAt j (by omega), getElem!_pos _ j (by simpa using hj)]
  simp [hj]
 have hS := AnyE.slices_Reverse Tryz.revL zT (fun _ => rfl) gb 0 cap zs w hH (by omega)
 change Calls Tryz.prog 109 _ _ _ at hS
 refine hS.mono ?_
 rintro e w' ⟨rfl, n, rfl⟩
 rw [← grow_empty (putRow _ _ _ _ _)]
 refine ⟨rfl, ?_, grown_put zT _⟩
 rcases h.2 with ⟨hv, _⟩ | ⟨g', cap', cur, hv, h2, h3, h4, h5, h6, h7⟩
 ·cases hv
 ·simp only [Value.slice.injEq, Option.some.injEq, Addr.mk.injEq, and_true, true_and] at hv
  obtain ⟨rfl, rfl⟩ := hv
  refine ⟨by simp, Or.inr ⟨gb, cap, _, rfl, h2, heap_put zT _ h3, h4, h5, by rw [putCells_size]; exact h6, ?_⟩⟩
  apply List.ext_getElem?
  intro j
  by_cases hj : j < zs.length
  ·rw [List.getElem?_take_of_lt (by omega), Array.getElem?_toList, putCells_get _ _ _ _ (by simpa using hj) (by simp; omega), getElem!_pos _ j (by simpa using hj)]
   simp [hj]
  ·rw [List.getElem?_eq_none (by simp; omega), List.getElem?_eq_none (by simp; omega)]
set_option maxHeartbeats 2000000 in
theorem spell_any (bt g cap : Nat) (S : List Str) (par lst fl : Nat -> Int) (p : Nat) (w : World) (hR : Rep S par lst) (hp : p < S.length) (hp0 : 0 < p) (hbt : bt < w.heap.size) (hg : g < w.heap.size)
 (hl : (at' S p).length < 1000) (ht : w.cell? ⟨bt, 0, none⟩ = some (.slice (some ⟨g, 0, none⟩) S.length cap)) (hs : Sts w g S.length par lst fl) :
 Calls Tryz.prog 67 #[.pointer (some ⟨bt, 0, none⟩), .int .i64 p] w fun e w' => ∃ gb cb, e = .returned (.slice (some ⟨gb, 0, none⟩) (at' S p).length cb) /\ w'.ownsRow w.heap.size 5 1 (.slice (some ⟨gb, 0, none⟩) (at' S p).length cb) (at' S p).length ((at' S p).map zT) /\ Below w.heap.size w w' := by
 obtain ⟨i0, hi, hz0, hz1, hz2⟩ := info_parts Tryz.infoB
 have HT := zB ht
 have HS := zB hs
 clear ht hs
 go_enter Tryz.func67, Tryz.ntmps67
 go_wp2
 go_loopw [1, 5] (fun v1 v5 wr => ∃ (q : Nat) (cs : Str), v1 = .int .i64 q /\ q < S.length /\ Hid (at' S p = at' S q ++ cs.reverse) /\ Hid (wr.ownsRow w.heap.size 5 1 v5 cs.length (cs.map zT)) /\ Hid (Below w.heap.size w wr)) (fun v1 _ _ => (intOf v1).toNat)
 case atStart => exact ⟨p, [], rfl, hp, zB (by simp), zB (World.ownsRow_nil _ _ _ _), zB (Below.refl _ _)⟩
 case round =>
  obtain ⟨q, cs, rfl, hq, HE, HO, HB⟩ := hrel
  have hsz := (zA HB).size
  have hcl : cs.length < 1000 := by have := congrArg List.length (zA HE); simp at this; omega
  by_cases h0 : q = 0
  ·subst h0
   have hcs : at' S p = cs.reverse := by rw [zA HE, hR.head]; rfl
   have hpos : 0 < cs.length := by
    obtain ⟨q', c, _, _, _, e3⟩ := hR.kids p hp0 hp
    have := congrArg List.length (hcs.symm.trans e3)
    simp at this
    omega
   obtain ⟨gb, cb, hv, hgb, hgl⟩ := (zA HO).form hpos
   subst hv
   have HC := zB (reverse_any wr w.heap.size gb cb cs (zA HO) (by omega))
   have HCS := zB hcs
   clear hcs
   go_wp2_with (go_at_call 109; refine (zA HC).mono ?_; rintro e w2 ⟨rfl, ho2, hg2⟩; have HO2 := zB ho2; have HG2 := zB hg2; clear ho2 hg2)
   go_ret
   have hcs := zA HCS
   have hlen : (at' S p).length = cs.length := by rw [hcs]; simp
   rw [hlen, hcs]
   exact ⟨gb, cb, rfl, zA HO2, (zA HB).trans (zG (zA HG2) hsz (fun x e => by cases e; omega))⟩
  ·obtain ⟨q', c, e1, hq', e2, e3⟩ := hR.kids q (by omega) hq
   obtain ⟨s0, s1, s2⟩ := (zA HS).below (zA HB) hg q hq
   rw [e1] at s0
   rw [e2] at s1
   have ct := ((zA HB).cell (p := ⟨bt, 0, none⟩) hbt).trans (zA HT)
   have hqb : ((q : Int) != 0) = true := by simp [h0]
   have i1 : (q : Int) < (S.length : Int) := by omega
   have i2 : (0 : Int) <= (q : Int) := by omega
   have HE' : Hid (at' S p = at' S q' ++ (cs ++ [c]).reverse) := zB (by rw [zA HE, e3]; simp)
   have HK : Hid (∀ w1 g' cap', w1.ownsRow w.heap.size 5 1 (.slice (some ⟨g', 0, none⟩) (cs.length + 1) cap') (cs.length + 1) (cs.map zT ++ [.int .u8 c.toNat]) -> (wr.alloc (.cells #[.int .u8 c.toNat] 5)).grownBy w1 u5.ownBlock -> w1.ownsRow w.heap.size 5 1 (.slice (some ⟨g', 0, none⟩) (cs.length + 1) cap') (cs ++ [c]).length ((cs ++ [c]).map zT) /\ Below w.heap.size w w1 /\ w1.cell? ⟨bt, 0, none⟩ = some (.slice (some ⟨g, 0, none⟩) S.length cap) /\ w1.cell? ⟨g, q * 3, none⟩ = some (.int .i64 q')) := zB (by
    intro w1 g' cap' ho hgr
    have hb1 : Below w.heap.size w w1 := ((zA HB).alloc hsz _).trans (zG hgr (by simp; omega) (yN (zA HO)))
    refine ⟨by simpa [zT] using ho, hb1, (hb1.cell (p := ⟨bt, 0, none⟩) hbt).trans (zA HT), ?_⟩
    have := ((zA HS).below hb1 hg q hq).1
    rw [e1] at this
    exact this)
   have HOa := zB ((zA HO).alloc (.cells #[.int .u8 c.toNat] 5))
   clear e1 e2 e3 s2
   go_wp2_with (first | (at_builtin; refine wpList_append_lies _ rfl (.tmp 16) (.tmp 25) 27 rfl w.heap.size 5 i0 (.int .u8 0) 1 1 Tryz.underlying27 hi hz0 hz1 hz2 rfl (by decide) _ cs.length (cs.map zT) rfl (zA HOa) ⟨wr.heap.size, 0, none⟩ 1 1 [.int .u8 c.toNat] rfl rfl (cell_one_new _ _ _) (by intro u hu; simp at hu; subst hu; rfl) (by omega) (by unfold maxLen; omega) (by omega) (by simp; omega) _ rfl ?_; intro g' cap' w1 hown' hgrow hat hlt'; obtain ⟨k1, k2, k3, k4⟩ := zA HK w1 g' cap' hown' hgrow; have HK1 := zB k1; have HK2 := zB k2; clear hown' hgrow hat k1 k2))
   go_roundw
   case rel => exact ⟨q', cs ++ [c], rfl, by omega, HE', HK1, HK2⟩
   case measure => simp [intOf]; omega
end Go.Proofs.YtfpohfifdfbpkaaGreatDoor
