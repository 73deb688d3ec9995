import Derived.Test.YtfpohfifdfbpkaaGreatDoorPkF
import Derived.Test.YtfpohfifdfbpkaaGreatDoorMath
import Derived.Test.YtfpohfifdfbpkaaGreatDoorPkA
import Derived.Test.YtfpohfifdfbpkaaGreatDoorShelf
import Derived.Test.YtfpohfifdfbpkaaGreatDoorPkN
import Derived.Test.YtfpohfifdfbpkaaGreatDoorCheck
namespace Go.Proofs.YtfpohfifdfbpkaaGreatDoor
open Go.RowKit Scour Go.Lib
theorem Tryz.infoLI : (Tryz.prog.info? 24).map (fun i => (i.zero, i.size, i.bytes)) = some (some (.slice none 0 0), 1, 24) := by kernel_rfl
def zz (E : Nat -> Int) (k s : Nat) : List Nat := (List.range k).filter fun i => decide (E i = (s : Int))
theorem patK_succ (E : Nat -> Int) (k s : Nat) : zz E (k + 1) s = zz E k s ++ if E k = (s : Int) then [k] else [] := by
 unfold zz
 rw [List.range_succ, List.filter_append]
 congr 1
 by_cases h : E k = (s : Int)
 ·rw [if_pos h, List.filter_cons, if_pos (decide_eq_true h)]; rfl
 ·rw [if_neg h, List.filter_cons, decide_eq_false h]; rfl
theorem patK_len (E : Nat -> Int) (k s : Nat) : (zz E k s).length <= k := by
 unfold zz
 exact Nat.le_trans (List.length_filter_le _ _) (by simp)
def natsV (l : List Nat) : List Value := l.map fun i => .int .i64 (i : Nat)
theorem natsV_len (l : List Nat) : (natsV l).length = l.length := by simp [natsV]
theorem natsV_get (l : List Nat) (i : Nat) (h : i < l.length) : (natsV l)[i]? = some (.int .i64 (l.getD i 0 : Nat)) := by simp [natsV, h, List.getD]
def lgF (P : Nat -> List Nat) (f : Nat -> Int) (x : Nat) : Int := if (P x).length = 0 then f x else (x : Int)
def shF (S : List Str) (P : Nat -> List Nat) : Nat -> Nat -> Int
 | 0 => fun _ => 0
 | k + 1 => upd (shF S P k) (k + 1) (lgF P (shF S P k) (zc S (k + 1)))
theorem shF_zero (S : List Str) (P : Nat -> List Nat) : ∀ k, shF S P k 0 = 0
 | 0 => rfl
 | k + 1 => by rw [shF]; unfold upd; rw [if_neg (by omega)]; exact shF_zero S P k
theorem shF_keep (S : List Str) (P : Nat -> List Nat) (s : Nat) : ∀ k, s <= k -> shF S P k s = shF S P s s
 | 0, h => by obtain rfl : s = 0 := by omega
              rfl
 | k + 1, h => by
   by_cases e : s = k + 1
   ·rw [e]
   ·rw [shF]; unfold upd; rw [if_neg e]; exact shF_keep S P s k (by omega)
theorem shF_eq {S : List Str} {par lst : Nat -> Int} (hR : Rep S par lst) (P : Nat -> List Nat) {k s : Nat} (h0 : 0 < s) (hs : s <= k) (hk : k < S.length) : shF S P k s = lgF P (shF S P k) (zc S s) := by
 have hf := hR.fail_lt h0 (by omega)
 rw [shF_keep S P s k hs]
 obtain ⟨j, rfl⟩ : ∃ j, s = j + 1 := ⟨s - 1, by omega⟩
 rw [shF]
 unfold upd
 rw [if_pos rfl]
 unfold lgF
 rw [shF_keep S P _ j (by omega), shF_keep S P _ k (by omega)]
def fullN (ps S : List Str) (s : Nat) : List Nat := jJ ps (at' S s)
theorem full_zero {ps S : List Str} (h0 : at' S 0 = []) : fullN ps S 0 = [] := by unfold fullN; rw [h0, endsAll_nil]
theorem full_fail {ps S : List Str} {par lst E : Nat -> Int} (hR : Rep S par lst) (hS : zm ps S E) (hl : ∀ i, i < ps.length -> (pat ps i).length <= 64) {s : Nat} (h0 : 0 < s) (hs : s < S.length) : fullN ps S s = isPat ps (at' S s) ++ fullN ps S (zc S s) := by
 have hne : at' S s ≠ [] := fun e => by
  have := at_inj hR.sorted hs hR.pos (e.trans hR.head.symm); omega
 have hmem : ∀ i, i < ps.length -> ps.getD i [] ∈ S := fun i hi => by
  obtain ⟨p, hp, _, e⟩ := hS.ends i hi
  have e' : at' S p = ps.getD i [] := e
  rw [← e']; exact jO hp
 have hlen : (at' S s).length <= 64 := by
  rcases (hS.mem _).1 (jO hs) with e | ⟨i, h1, h2, h3, h4⟩
  ·exact absurd e hne
  ·have := hl i h1; omega
 unfold fullN
 rw [endsAll_step hmem hne hlen]
 congr 2
 unfold zc
 rw [jV (lsuf_mem S hR.nil_mem _)]
theorem pat_is {ps S : List Str} {par lst E : Nat -> Int} (hR : Rep S par lst) (hS : zm ps S E) {s : Nat} (hs : s < S.length) : zz E ps.length s = isPat ps (at' S s) := by
 unfold zz isPat
 apply List.filter_congr
 intro i hi
 have hi' : i < ps.length := by simpa using hi
 obtain ⟨p, hp, e1, e2⟩ := hS.ends i hi'
 have e2' : at' S p = ps.getD i [] := e2
 rw [decide_eq_decide, e1, ← e2']
 constructor
 ·intro h
  obtain rfl : p = s := by omega
  rfl
 ·intro h
  rw [at_inj hR.sorted hp hs h]
theorem sh_step {ps S : List Str} {par lst E : Nat -> Int} (hR : Rep S par lst) (hS : zm ps S E) (hl : ∀ i, i < ps.length -> (pat ps i).length <= 64) : ∀ s, 0 < s -> s < S.length -> ∃ q : Nat, shF S (zz E ps.length) (S.length - 1) s = (q : Int) /\ q < s /\ fullN ps S (zc S s) = fullN ps S q := by
 intro s
 induction s using Nat.strongRecOn with
 | ind s ih =>
   intro h0 hs
   have hf := hR.fail_lt h0 hs
   rw [shF_eq hR _ h0 (by omega) (by omega)]
   unfold lgF
   by_cases hp : (zz E ps.length (zc S s)).length = 0
   ·rw [if_pos hp]
    by_cases hz : zc S s = 0
    ·rw [hz]
     exact ⟨0, by rw [shF_zero]; rfl, h0, rfl⟩
    ·obtain ⟨q, e1, e2, e3⟩ := ih (zc S s) hf (by omega) (by omega)
     refine ⟨q, e1, by omega, ?_⟩
     rw [full_fail hR hS hl (s := zc S s) (by omega) (by omega), ← pat_is hR hS (by omega), List.eq_nil_of_length_eq_zero hp, List.nil_append]
     exact e3
   ·rw [if_neg hp]
    exact ⟨_, rfl, hf, rfl⟩
theorem grown_drew {w w' : World} {r : Option Nat} (h : w.drew.grownBy w' r) : w.grownBy w' r := by
 have hd : Below w.heap.size w (w.drewN 1) := below_drewN (Below.refl _ _) 1
 exact ⟨h.os.trans hd.os, h.tape.trans hd.tape, h.output.trans hd.output, h.size, fun k hk hr => (h.block k hk hr).trans (hd.block k hk)⟩
structure EndT (w : World) (bq : Nat) (vP vH : Value) (es : Nat -> Value) (n : Nat) (P : Nat -> List Nat) (f : Nat -> Int) : Prop where
 blk : w.heap[bq]? = some (.cells #[vP, vH] 150 (0, 0))
 prow : w.ownsRow 0 24 1 vP n ((List.range n).map es)
 hrow : w.ownsRow 0 3 1 vH n (zZ f n)
 pes : ∀ s, s < n -> w.ownsRow 0 3 1 (es s) (P s).length (natsV (P s))
theorem EndT.same {w w' : World} {bq : Nat} {vP vH : Value} {es : Nat -> Value} {n : Nat} {P : Nat -> List Nat} {f : Nat -> Int} (h : EndT w bq vP vH es n P f) (hb : ∀ k, k < w.heap.size -> (k = bq \/ vP.ownBlock = some k \/ vH.ownBlock = some k \/ ∃ s, s < n /\ (es s).ownBlock = some k) -> w'.heap[k]? = w.heap[k]?) : EndT w' bq vP vH es n P f :=
 ⟨(hb bq (Array.getElem?_eq_some_iff.1 h.blk).1 (Or.inl rfl)).trans h.blk, zE h.prow (fun b hl hv => hb b hl (Or.inr (Or.inl hv))), zE h.hrow (fun b hl hv => hb b hl (Or.inr (Or.inr (Or.inl hv)))), fun s hs => zE (h.pes s hs) (fun b hl hv => hb b hl (Or.inr (Or.inr (Or.inr ⟨s, hs, hv⟩))))⟩
theorem EndT.below {w w' : World} {bq : Nat} {vP vH : Value} {es : Nat -> Value} {n : Nat} {P : Nat -> List Nat} {f : Nat -> Int} (h : EndT w bq vP vH es n P f) (hb : Below w.heap.size w w') : EndT w' bq vP vH es n P f := h.same (fun k hk _ => hb.block k hk)
theorem EndT.reads {w : World} {bq : Nat} {vP vH : Value} {es : Nat -> Value} {n : Nat} {P : Nat -> List Nat} {f : Nat -> Int} (h : EndT w bq vP vH es n P f) {s : Nat} (hs : s < n) :
  ∃ gP cP gH cH a c, vP = .slice (some ⟨gP, 0, none⟩) n cP /\ vH = .slice (some ⟨gH, 0, none⟩) n cH /\ w.cell? ⟨bq, 0, none⟩ = some vP /\ w.cell? ⟨bq, 1, none⟩ = some vH /\ w.cell? ⟨gP, s, none⟩ = some (es s) /\ w.cell? ⟨gH, s, none⟩ = some (.int .i64 (f s)) /\ es s = .slice a (P s).length c /\ ∀ j, j < (P s).length -> ∃ g, a = some ⟨g, 0, none⟩ /\ w.cell? ⟨g, j, none⟩ = some (.int .i64 ((P s).getD j 0 : Nat)) := by
 have hp := h.prow
 have hh := h.hrow
 have he := h.pes s hs
 rcases hp.2 with ⟨_, hn⟩ | ⟨gP, cP, cur, rfl, _⟩
 ·omega
 rcases hh.2 with ⟨_, hn⟩ | ⟨gH, cH, cur2, rfl, _⟩
 ·omega
 have e5 : w.cell? ⟨gP, s, none⟩ = some (es s) := by rw [hp.cellAt s (by omega)]; simp [hs]
 have e6 : w.cell? ⟨gH, s, none⟩ = some (.int .i64 (f s)) := by rw [hh.cellAt s (by omega), zW _ _ _ hs]
 rcases he.2 with ⟨h1, h2⟩ | ⟨g, cc, cur3, h1, _⟩
 ·exact ⟨gP, cP, gH, cH, none, 0, rfl, rfl, by rw [zC h.blk]; rfl, by rw [zC h.blk]; rfl, e5, e6, by rw [h1, h2], fun j hj => by omega⟩
 ·refine ⟨gP, cP, gH, cH, _, cc, rfl, rfl, by rw [zC h.blk]; rfl, by rw [zC h.blk]; rfl, e5, e6, h1, fun j hj => ⟨g, rfl, ?_⟩⟩
  rw [h1] at he
  rw [he.cellAt j (by omega), natsV_get _ _ hj]
set_option maxHeartbeats 2000000 in
theorem longest_any (bq n : Nat) (vP vH : Value) (es : Nat -> Value) (P : Nat -> List Nat) (f : Nat -> Int) (w : World) (h : EndT w bq vP vH es n P f) (s : Nat) (hs : s < n) :
  Calls Tryz.prog 83 #[.pointer (some ⟨bq, 0, none⟩), .int .i64 s] w fun e w' => e = .returned (.int .i64 (lgF P f s)) /\ w' = w := by
 obtain ⟨gP, cP, gH, cH, a, c, rfl, rfl, c0, c1, c2, c3, he, _⟩ := h.reads hs
 rw [he] at c2
 have k1 : (s : Int) < (n : Int) := by omega
 have k0 : (0 : Int) <= (s : Int) := by omega
 clear h he
 by_cases hp : (P s).length = 0
 ·have HR : Hid (lgF P f s = f s) := zB (by unfold lgF; rw [if_pos hp])
  rw [hp] at c2
  clear hp
  go_enter Tryz.func83, Tryz.ntmps83
  go_wp2
  go_ret
  rw [zA HR]
  exact ⟨rfl, rfl⟩
 ·have HR : Hid (lgF P f s = (s : Int)) := zB (by unfold lgF; rw [if_neg hp])
  obtain ⟨m, hm⟩ : ∃ m, (P s).length = m := ⟨_, rfl⟩
  rw [hm] at c2 hp
  have k2 : (0 : Int) < (m : Int) := by omega
  clear hm hp
  go_enter Tryz.func83, Tryz.ntmps83
  go_wp2
  go_ret
  rw [zA HR]
  exact ⟨rfl, rfl⟩
end Go.Proofs.YtfpohfifdfbpkaaGreatDoor
namespace Go.Proofs.YtfpohfifdfbpkaaGreatDoor
open Go.RowKit Scour Go.Lib
set_option maxHeartbeats 2000000 in
set_option maxRecDepth 100000 in
theorem tends_any (bt be g : Nat) (ps S : List Str) (w : World) (h : jC w bt be g ps S) (hl : ps.length < 100000) :
  Calls Tryz.prog 57 #[.pointer (some ⟨bt, 0, none⟩)] w fun e w' => ∃ v E, e = .returned v /\ Hid (zm ps S E) /\ Hid (w'.ownsRow w.heap.size 3 1 v ps.length (zZ E ps.length)) /\ Hid (Below w.heap.size w w') := by
 obtain ⟨i0, hi, hz0, hz1, hz2⟩ := info_parts Tryz.infoI
 obtain ⟨cap, par, lst, E, hT, hS⟩ := h.ex
 have c1 : w.cell? ⟨bt, 1, none⟩ = some (.slice (some ⟨be, 0, none⟩) ps.length ps.length) := by rw [zC hT.blk]; rfl
 have hie : (zZ E ps.length).length = ps.length := by simp [zZ]
 have HC := zB (AnyE.slices_Clone Tryz.cloneL i0 (.int .i64 0) 1 8 hi hz0 hz1 hz2 rfl (by decide) (fun w => by kernel_rfl) be 0 ps.length ps.length (zZ E ps.length) w (by rw [hie, Nat.mul_one]) (by unfold maxLen; omega) (by omega) (fun j u hu => by
  have hj : j < ps.length := by have := (List.getElem?_eq_some_iff.1 hu).1; omega
  rw [Nat.zero_add, hT.ends.cellAt j (by omega), hu]) (fun u hu => by
  unfold zZ at hu
  obtain ⟨x, _, rfl⟩ := List.mem_map.1 hu; rfl))
 have HS := zB hS
 clear hT hS h
 go_enter Tryz.func57, Tryz.ntmps57
 go_wp2_with (go_at_call 99; refine (zA HC).mono ?_; rintro e w1 ⟨v, rfl, ho, _, hb⟩; have HO := zB ho; have HB := zB hb; clear ho hb)
 go_ret
 exact ⟨v, E, rfl, HS, HO, HB⟩
end Go.Proofs.YtfpohfifdfbpkaaGreatDoor
namespace Go.Proofs.YtfpohfifdfbpkaaGreatDoor
open Go.RowKit Scour Go.Lib
structure EndI (w wr : World) (bq gP gH : Nat) (es : Nat -> Value) (n : Nat) (P : Nat -> List Nat) (f : Nat -> Int) (vE : Value) : Prop where
 t : EndT wr bq (.slice (some ⟨gP, 0, none⟩) n n) (.slice (some ⟨gH, 0, none⟩) n n) es n P f
 ge : w.heap.size <= bq /\ w.heap.size <= gP /\ w.heap.size <= gH
 geE : ∀ s b, s < n -> (es s).ownBlock = some b -> w.heap.size <= b /\ b ≠ gH /\ vE.ownBlock ≠ some b
 inj : ∀ s s' b, s < n -> s' < n -> (es s).ownBlock = some b -> (es s').ownBlock = some b -> s = s'
 below : Below w.heap.size w wr
theorem EndI.lt {w wr : World} {bq gP gH n : Nat} {es : Nat -> Value} {P : Nat -> List Nat} {f : Nat -> Int} {vE : Value} (h : EndI w wr bq gP gH es n P f vE) : bq < wr.heap.size /\ gP < wr.heap.size /\ gH < wr.heap.size /\ gP ≠ gH /\ bq ≠ gP /\ bq ≠ gH := by
 obtain ⟨c1, h1⟩ := zK h.t.prow
 obtain ⟨c2, h2⟩ := zK h.t.hrow
 exact ⟨(Array.getElem?_eq_some_iff.1 h.t.blk).1, (Array.getElem?_eq_some_iff.1 h1).1, (Array.getElem?_eq_some_iff.1 h2).1, zH h1 h2 (by decide), zH h.t.blk h1 (by decide), zH h.t.blk h2 (by decide)⟩
theorem row_block {w : World} {g n e : Nat} {l : List Value} (h : w.ownsRow 0 e 1 (.slice (some ⟨g, 0, none⟩) n n) n l) : w.heap[g]? = some (.cells l.toArray e (0, 0)) := by
 rcases h.2 with ⟨hv, _⟩ | ⟨g', cap, cur, hv, _, hg, h1, h2, h3, h4⟩
 ·cases hv
 ·simp only [Value.slice.injEq, Option.some.injEq, Addr.mk.injEq, and_true, true_and] at hv
  obtain ⟨rfl, rfl⟩ := hv
  rw [hg]
  congr 2
  apply Array.ext'
  rw [List.toList_toArray, ← h4, List.take_of_length_le (by simp only [Array.length_toList]; omega)]
theorem row_set {w : World} {g n e : Nat} {l : List Value} (hg : w.heap[g]? = some (.cells l.toArray e (0, 0))) (hl : l.length = n) (hn : n < 10000) : w.ownsRow 0 e 1 (.slice (some ⟨g, 0, none⟩) n n) n l := by
 refine ⟨by omega, Or.inr ⟨g, n, _, rfl, Nat.zero_le _, hg, Nat.le_refl _, by unfold maxLen; omega, by simp [hl], ?_⟩⟩
 rw [List.toList_toArray, List.take_of_length_le (by omega)]
theorem EndI.more {w wr w5 : World} {bq gP gH n s i : Nat} {es : Nat -> Value} {P : Nat -> List Nat} {f : Nat -> Int} {vE v' : Value} (h : EndI w wr bq gP gH es n P f vE) (hs : s < n) (hn : n < 10000)
  (hr : zw wr w5 gP s ((List.range n).map es).toArray 24 3 1 (es s) v' ((P s).length + 1) (natsV (P s) ++ [.int .i64 (i : Nat)])) (hE : ∀ b, vE.ownBlock = some b -> b < wr.heap.size) :
  EndI w w5 bq gP gH (fun x => if x = s then v' else es x) n (fun x => if x = s then P x ++ [i] else P x) f vE := by
 obtain ⟨l1, l2, l3, n1, n2, n3⟩ := h.lt
 have hty : ∀ b, (es s).ownBlock = some b -> ∃ c, wr.heap[b]? = some (.cells c 3 (0, 0)) := fun b hb => zD (h.t.pes s hs) hb
 have hlen : ((List.range n).map es).length = n := by simp
 refine ⟨⟨?_, ?_, ?_, fun x hx => ?_⟩, h.ge, fun x b hx hb => ?_, fun x x' b hx hx' hb hb' => ?_, ?_⟩
 ·rw [hr.frame bq l1 n2 (fun e => by obtain ⟨c, hc⟩ := hty bq e; exact zH h.t.blk hc (by decide) rfl)]
  exact h.t.blk
 ·have hb := hr.blk
  rw [List.setIfInBounds_toArray] at hb
  have he : ((List.range n).map es).set s v' = (List.range n).map (fun x => if x = s then v' else es x) := by
   apply List.ext_getElem?
   intro j
   rw [List.getElem?_set]
   by_cases hj : j < n
   ·by_cases e : s = j
    ·subst e; simp [hs]
    ·rw [if_neg e]; simp [hj]; intro e2; omega
   ·rw [List.getElem?_eq_none (by simp; omega), List.getElem?_eq_none (by simp; omega)]
    split
    ·rw [if_neg (by simp; omega)]
    ·rfl
  rw [he] at hb
  exact row_set hb (by simp) hn
 ·exact zE h.t.hrow (fun b hl hv => by
   have : gH = b := by simpa [Value.ownBlock] using hv
   subst this
   exact hr.frame gH l3 n1.symm (fun e => (h.geE s gH hs e).2.1 rfl))
 ·by_cases e : x = s
  ·subst e
   simp only [if_true]
   rw [List.length_append]
   have := hr.row
   unfold natsV at this ⊢
   rw [List.map_append]
   exact this
  ·simp only [if_neg e]
   refine zE (h.t.pes x hx) (fun b hl hv => hr.frame b hl (fun e1 => ?_) (fun e1 => e (h.inj x s b hx hs hv e1)))
   obtain ⟨c1, hc1⟩ := zD (h.t.pes x hx) hv
   obtain ⟨c2, hc2⟩ := zK h.t.prow
   exact zH hc1 hc2 (by decide) e1
 ·by_cases e : x = s
  ·subst e
   simp only [if_true] at hb
   rcases hr.lies with e1 | e1
   ·exact h.geE x b hx (by rw [← e1]; exact hb)
   ·have := e1 b hb
    have := h.below.size
    exact ⟨by omega, by omega, fun e2 => by have := hE b e2; omega⟩
  ·simp only [if_neg e] at hb
   exact h.geE x b hx hb
 ·have old : ∀ y, y < n -> (es y).ownBlock = some b -> b < wr.heap.size := fun y hy hb => by
   obtain ⟨c, hc⟩ := zD (h.t.pes y hy) hb
   exact (Array.getElem?_eq_some_iff.1 hc).1
  by_cases e : x = s
  ·by_cases e' : x' = s
   ·rw [e, e']
   ·simp only [if_pos e] at hb
    simp only [if_neg e'] at hb'
    rcases hr.lies with e1 | e1
    ·rw [e]; exact h.inj s x' b hs hx' (by rw [← e1]; exact hb) hb'
    ·have := e1 b hb
     have := old x' hx' hb'
     omega
  ·by_cases e' : x' = s
   ·simp only [if_neg e] at hb
    simp only [if_pos e'] at hb'
    rcases hr.lies with e1 | e1
    ·rw [e']; exact h.inj x s b hx hs hb (by rw [← e1]; exact hb')
    ·have := e1 b hb'
     have := old x hx hb
     omega
   ·simp only [if_neg e] at hb
    simp only [if_neg e'] at hb'
    exact h.inj x x' b hx hx' hb hb'
 ·have hsz := h.below.size
  refine h.below.trans ⟨hr.os, hr.tape, hr.output, hr.size, fun k hk => hr.frame k (by omega) (fun e => ?_) (fun e => ?_)⟩
  ·have := h.ge.2.1; omega
  ·have := (h.geE s k hs e).1; omega
structure EndNew (w w' : World) (bq : Nat) (vP vH : Value) (es : Nat -> Value) (ps S : List Str) (E : Nat -> Int) : Prop where
 t : EndT w' bq vP vH es S.length (zz E ps.length) (shF S (zz E ps.length) (S.length - 1))
 of : zm ps S E
 ge : w.heap.size <= bq
 geP : ∀ b, vP.ownBlock = some b -> w.heap.size <= b
 geH : ∀ b, vH.ownBlock = some b -> w.heap.size <= b
 geE : ∀ s b, s < S.length -> (es s).ownBlock = some b -> w.heap.size <= b
 below : Below w.heap.size w w'
theorem EndI.sh {w wr : World} {bq gP gH n s : Nat} {es : Nat -> Value} {P : Nat -> List Nat} {f : Nat -> Int} {vE : Value} (h : EndI w wr bq gP gH es n P f vE) (x : Int) : EndI w (wr.setCell ⟨gH, s, none⟩ (.int .i64 x)) bq gP gH es n P (upd f s x) vE := by
 obtain ⟨l1, l2, l3, n1, n2, n3⟩ := h.lt
 have hk : ∀ k, k ≠ gH -> (wr.setCell ⟨gH, s, none⟩ (.int .i64 x)).heap[k]? = wr.heap[k]? := fun k hk => Below.heap_setCell wr _ _ k hk
 refine ⟨⟨(hk bq n3).trans h.t.blk, zE h.t.prow (fun b _ hv => hk b (fun e => ?_)), ?_, fun x hx => zE (h.t.pes x hx) (fun b _ hv => hk b (h.geE x b hx hv).2.1)⟩, h.ge, h.geE, h.inj, ?_⟩
 ·have : gP = b := by simpa [Value.ownBlock] using hv
  omega
 ·have := (h.t.hrow.stored s (.int .i64 x)).1
  rw [yq] at this
  exact this
 ·refine h.below.trans ⟨rfl, rfl, rfl, by simp [World.setCell], fun k hk2 => hk k (fun e => ?_)⟩
  have := h.ge.2.2; omega
theorem EndI.on {w wr w2 : World} {bq gP gH n : Nat} {es : Nat -> Value} {P : Nat -> List Nat} {f : Nat -> Int} {vE : Value} (h : EndI w wr bq gP gH es n P f vE) (hb : Below wr.heap.size wr w2) : EndI w w2 bq gP gH es n P f vE :=
 ⟨h.t.below hb, h.ge, h.geE, h.inj, h.below.trans (hb.mono h.below.size)⟩
theorem nils_made (n : Nat) : madeCells #[Value.slice none 0 0] n = ((List.range n).map fun _ => Value.slice none 0 0).toArray := by
 apply Array.ext'
 rw [toList_madeCells_one, List.toList_toArray]
 symm
 rw [List.eq_replicate_iff]
 exact ⟨by simp, fun b hb => by obtain ⟨_, _, rfl⟩ := List.mem_map.1 hb; rfl⟩
theorem end_init {w W : World} {n gP gH bq : Nat} (vE : Value) (h1 : W.heap[gP]? = some (.cells (madeCells #[Value.slice none 0 0] n) 24 (0, 0))) (h2 : W.heap[gH]? = some (.cells (madeCells #[Value.int .i64 0] n) 3 (0, 0))) (h3 : W.heap[bq]? = some (.cells #[.slice (some ⟨gP, 0, none⟩) n n, .slice (some ⟨gH, 0, none⟩) n n] 150 (0, 0))) (hb : Below w.heap.size w W) (hg : w.heap.size <= bq /\ w.heap.size <= gP /\ w.heap.size <= gH) (hn : n < 10000) : EndI w W bq gP gH (fun _ => .slice none 0 0) n (zz (fun _ => 0) 0) (fun _ => 0) vE := by
 refine ⟨⟨h3, row_set (by rw [h1, nils_made]) (by simp) hn, row_set (by
  rw [h2]
  congr 2
  apply Array.ext'
  rw [zeros_ints]) (zi _ _) hn, fun s _ => World.ownsRow_nil _ _ _ _⟩, hg, fun s b _ h => (by cases h), fun s s' b _ _ h => (by cases h), hb⟩
theorem fld_fail (a b c : Value) (w : World) : (Instr.field 154 (.agg #[a, b, c]) 2).run Tryz.prog w = .ok c w := by kernel_rfl
theorem alloc3 (w : World) (A B C : Obj) : (((w.alloc A).alloc B).alloc C).drew.heap[w.heap.size]? = some A /\ (((w.alloc A).alloc B).alloc C).drew.heap[w.heap.size + 1]? = some B /\ (((w.alloc A).alloc B).alloc C).drew.heap[w.heap.size + 1 + 1]? = some C /\ Below w.heap.size w (((w.alloc A).alloc B).alloc C).drew := by
 have h1 : (w.alloc A).heap.size = w.heap.size + 1 := by simp
 have h2 : ((w.alloc A).alloc B).heap.size = w.heap.size + 1 + 1 := by simp
 refine ⟨?_, ?_, ?_, ((((Below.refl _ _).alloc (Nat.le_refl _) _).alloc (by simp) _).alloc (by simp; omega) _).drew⟩
 ·show (((w.alloc A).alloc B).alloc C).heap[w.heap.size]? = _
  rw [Below.heap_alloc _ _ _ (by omega), Below.heap_alloc _ _ _ (by omega)]
  exact heap_alloc_new w A
 ·show (((w.alloc A).alloc B).alloc C).heap[w.heap.size + 1]? = _
  rw [Below.heap_alloc _ _ _ (by omega), ← h1]
  exact heap_alloc_new _ B
 ·show (((w.alloc A).alloc B).alloc C).heap[w.heap.size + 1 + 1]? = _
  rw [← h2]
  exact heap_alloc_new _ C
set_option maxHeartbeats 8000000 in
set_option maxRecDepth 100000 in
theorem enew_any (bt be g : Nat) (ps S : List Str) (w : World) (hM : jC w bt be g ps S) (hps : ps.length <= 64) :
  Calls Tryz.prog 47 #[.pointer (some ⟨bt, 0, none⟩)] w fun e w' => ∃ bq vP vH es E, e = .returned (.pointer (some ⟨bq, 0, none⟩)) /\ Hid (EndNew w w' bq vP vH es ps S E) := by
 obtain ⟨i0, hi, hz0, hz1, hz2⟩ := info_parts Tryz.infoI
 have hl := hM.len
 have HLN : Hid (∀ W, Below w.heap.size w W -> Calls Tryz.prog 38 #[.pointer (some ⟨bt, 0, none⟩)] W fun e w' => e = .returned (.int .i64 S.length) /\ w' = W) := zB fun W hb => tlen_any bt be g ps S W (hM.below hb)
 have hmi := fun W => run_make_row' (P := Tryz.prog) 24 3 (.int .i64 0) 8 Tryz.underlying24 Tryz.infoI rfl .i64 .i64 S.length (by omega) (by omega) W
 have hml := fun W => run_make_row' (P := Tryz.prog) 148 24 (.slice none 0 0) 24 Tryz.underlying148 Tryz.infoLI rfl .i64 .i64 S.length (by omega) (by omega) W
 have HEN : Hid (∀ W, Below w.heap.size w W -> Calls Tryz.prog 57 #[.pointer (some ⟨bt, 0, none⟩)] W fun e w' => ∃ v E, e = .returned v /\ Hid (zm ps S E) /\ Hid (w'.ownsRow W.heap.size 3 1 v ps.length (zZ E ps.length)) /\ Hid (Below W.heap.size W w')) := zB fun W hb => tends_any bt be g ps S W (hM.below hb) (by omega)
 have HAT : Hid (∀ W i, Below w.heap.size w W -> 0 < i -> i < S.length -> Calls Tryz.prog 84 #[.pointer (some ⟨bt, 0, none⟩), .int .i64 (i : Nat)] W fun e w' => e = .returned (.agg #[.int .i64 (parN S i : Nat), .int .u8 (lastB S i).toNat, .int .i64 (zc S i : Nat)]) /\ Below W.heap.size W w') := zB fun W i hb h0 hi => tat_any bt be g ps S W (hM.below hb) i h0 hi
 have HFL : Hid (∀ i, 0 < i -> i < S.length -> zc S i < i) := zB (fun i h0 hi => by
  obtain ⟨cap, par, lst, E, hT, _⟩ := hM.ex
  exact hT.rep.fail_lt h0 hi)
 clear hM
 go_enter Tryz.func47, Tryz.ntmps47
 go_wp2_with fail
 go_cut [3] (fun v wx => ∃ bq gP gH, v = .pointer (some ⟨bq, 0, none⟩) /\ Hid (∀ vE, EndI w wx bq gP gH (fun _ => .slice none 0 0) S.length (zz (fun _ => 0) 0) (fun _ => 0) vE))
 case first =>
  go_region_with (go_at_call 38; refine (zA HLN _ (by first | exact Below.refl _ _ | exact (Below.refl _ _).alloc (Nat.le_refl _) _ | exact (Below.refl _ _).drew | exact ((Below.refl _ _).alloc (Nat.le_refl _) _).drew | exact ((Below.refl _ _).drew).alloc (Nat.le_refl _) _)).mono ?_; rintro e w' ⟨rfl, hw'⟩; obtain rfl := hw'.symm)
  all_goals go_wp2_with fail
  all_goals go_meet
  all_goals
   first
   | (obtain ⟨a1, a2, a3, a4⟩ := alloc3 w (.cells (madeCells #[Value.slice none 0 0] S.length) 24) (.cells (madeCells #[Value.int .i64 0] S.length) 3) (.cells #[.slice (some ⟨w.heap.size, 0, none⟩) S.length S.length, .slice (some ⟨w.heap.size + 1, 0, none⟩) S.length S.length] 150)
      exact ⟨_, _, _, rfl, zB (fun vE => end_init vE a1 a2 a3 a4 ⟨by omega, by omega, by omega⟩ (by omega))⟩)
   | (obtain ⟨a1, a2, a3, a4⟩ := alloc3 w (.cells (madeCells #[Value.int .i64 0] S.length) 3) (.cells (madeCells #[Value.slice none 0 0] S.length) 24) (.cells #[.slice (some ⟨w.heap.size + 1, 0, none⟩) S.length S.length, .slice (some ⟨w.heap.size, 0, none⟩) S.length S.length] 150)
      exact ⟨_, _, _, rfl, zB (fun vE => end_init vE a2 a1 a3 a4 ⟨by omega, by omega, by omega⟩ (by omega))⟩)
 case rest =>
  obtain ⟨bq, gP, gH, rfl, HI⟩ := hcut
  clear hmi hml
  go_wp2_with fail
  refine (zA HEN _ (zA HI (.slice none 0 0)).below).mono ?_
  rintro e w2 ⟨vE, E, rfl, HS, HO, HB⟩
  have HI2 : Hid (EndI w w2 bq gP gH (fun _ => .slice none 0 0) S.length (zz E 0) (fun _ => 0) vE) := zB ((zA HI vE).on (zA HB))
  have HO2 : Hid (w2.ownsRow 0 3 1 vE ps.length (zZ E ps.length)) := zB (zu (zA HO))
  obtain ⟨aE, cE, rfl⟩ : ∃ aE cE, vE = .slice aE ps.length cE := by
   rcases zV (zA HO2) with ⟨h1, h2⟩ | ⟨gc, cc, h1, _⟩
   ·exact ⟨none, 0, by rw [h1, h2]⟩
   ·exact ⟨_, cc, h1⟩
  clear HI HO HB HEN
  go_wp2_with fail
  go_loopw [18] (fun v wr => ∃ (k : Nat) (es : Nat -> Value), v = .int .i64 k /\ k <= ps.length /\ Hid (EndI w wr bq gP gH es S.length (zz E k) (fun _ => 0) (.slice aE ps.length cE)) /\ Hid (wr.ownsRow 0 3 1 (.slice aE ps.length cE) ps.length (zZ E ps.length))) (fun v _ => ps.length - (intOf v).toNat)
  case atStart => exact ⟨0, _, rfl, Nat.zero_le _, HI2, HO2⟩
  case round =>
   clear HI2 HO2
   obtain ⟨k, es, rfl, hk, HI, HO⟩ := hrel
   by_cases hkp : k < ps.length
   ·obtain ⟨p, hp, hEk, _⟩ := (zA HS).ends k hkp
    obtain ⟨gE, rfl⟩ : ∃ gE, aE = some ⟨gE, 0, none⟩ := by
     rcases zV (zA HO) with ⟨h1, h2⟩ | ⟨gc, cc, h1, _⟩
     ·omega
     ·exact ⟨gc, by simpa using (by simpa using h1 : aE = some ⟨gc, 0, none⟩ /\ cE = cc).1⟩
    have e0 : wr.cell? ⟨gE, k, none⟩ = some (.int .i64 (p : Nat)) := by rw [(zA HO).cellAt k (by omega), zW _ _ _ hkp, hEk]
    obtain ⟨gP', cP, gH', cH, a, c, h1, h2, e1, e2, e3, e4, e5, _⟩ := (zA HI).t.reads hp
    obtain ⟨rfl, rfl⟩ : gP = gP' /\ S.length = cP := by simpa using h1
    obtain ⟨rfl, rfl⟩ : gH = gH' /\ S.length = cH := by simpa using h2
    have hmlen := patK_len E k p
    have HR4 : Hid (zw wr wr gP p ((List.range S.length).map es).toArray 24 3 1 (es p) (es p) (zz E k p).length (natsV (zz E k p))) := zB (zw.start (row_block (zA HI).t.prow) (by simp [hp]) ((zA HI).t.pes p hp))
    have HMO : Hid (∀ w5 v', zw wr w5 gP p ((List.range S.length).map es).toArray 24 3 1 (es p) v' ((zz E k p).length + 1) (natsV (zz E k p) ++ [.int .i64 (k : Nat)]) -> EndI w w5 bq gP gH (fun x => if x = p then v' else es x) S.length (zz E (k + 1)) (fun _ => 0) (.slice (some ⟨gE, 0, none⟩) ps.length cE) /\ w5.ownsRow 0 3 1 (.slice (some ⟨gE, 0, none⟩) ps.length cE) ps.length (zZ E ps.length)) := zB (fun w5 v' hr => by
     have hm := (zA HI).more hp (by omega) hr (fun b hb => by
      obtain ⟨cu, hcu⟩ := zD (zA HO) hb
      exact (Array.getElem?_eq_some_iff.1 hcu).1)
     have hPe : (fun x => if x = p then zz E k x ++ [k] else zz E k x) = zz E (k + 1) := by
      funext x
      rw [patK_succ, hEk]
      by_cases ex : x = p
      ·rw [if_pos ex, if_pos (by rw [ex])]
      ·rw [if_neg ex, if_neg (by omega), List.append_nil]
     rw [hPe] at hm
     refine ⟨hm, zE (zA HO) (fun b hl hb => hr.frame b hl (fun e => ?_) (fun e => ((zA HI).geE p b hp e).2.2 hb))⟩
     obtain ⟨c1, hc1⟩ := zD (zA HO) hb
     obtain ⟨c2, hc2⟩ := zK (zA HI).t.prow
     exact zH hc1 hc2 (by decide) e)
    rw [e5] at e3 HR4 HMO
    have hbq : bq < wr.heap.size := (zA HI).lt.1
    have hgl : gP < wr.heap.size := (zA HI).lt.2.1
    have HBQ : Hid (∀ w5, (wr.alloc (.cells #[.int .i64 (k : Nat)] 3)).grownBy w5 (Value.slice a (zz E k p).length c).ownBlock -> w5.cell? ⟨bq, 0, none⟩ = some (.slice (some ⟨gP, 0, none⟩) S.length S.length)) := zB (fun w5 hg => by
     have hne : (Value.slice a (zz E k p).length c).ownBlock ≠ some bq := fun e => by
      rw [← e5] at e
      obtain ⟨c1, hc1⟩ := zD ((zA HI).t.pes p hp) e
      exact zH hc1 (zA HI).t.blk (by decide) rfl
     rw [World.cell?_of_block (a := ⟨bq, 0, none⟩) ((hg.block bq (by simp; omega) (fun e => hne e.symm)).trans (Below.heap_alloc wr _ bq hbq))]
     exact e1)
    have i1 : (k : Int) < (ps.length : Int) := by omega
    have i0' : (0 : Int) <= (k : Int) := by omega
    have i2 : (p : Int) < (S.length : Int) := by omega
    have i3 : (0 : Int) <= (p : Int) := by omega
    clear e2 e4 e5 h1 h2 hEk HI HO HS
    generalize natsV (zz E k p) = xs at *
    generalize (zz E k p).length = m at *
    have HRD := zB ((zA HR4).ready #[.int .i64 (k : Nat)] wr.heap.size rfl)
    go_wp2_with fail
    go_region_law (refine step_append_lies _ rfl (.tmp 34) (.tmp 36) 24 rfl 0 3 i0 (.int .i64 0) 1 8 Tryz.underlying24 hi hz0 hz1 hz2 rfl (by decide) _ m xs (by simp [Act.eval]) (zA HRD).1 ⟨wr.heap.size, 0, none⟩ 1 1 [.int .i64 (k : Nat)] (by simp [Act.eval]) rfl (zA HRD).2 (by intro u hu; simp at hu; subst hu; rfl) (by omega) (by unfold maxLen; omega) (by omega) (Nat.zero_le _) (wr.heap.size + 1) (by simp) ?_; intro g5 cg5 w5 ho5 hg5 hat5 hl5; obtain ⟨c5, f5⟩ := (zA HR4).behind (by decide) (by simp; omega) _ (grown_drew hg5); have b5 := zA HBQ w5 (grown_drew hg5); have HR5 := zB ((zA HR4).step (by decide) #[.int .i64 (k : Nat)] wr.heap.size rfl ho5 (grown_drew hg5) hat5); clear ho5 hg5 hat5 hl5)
    all_goals go_wp2_with fail
    all_goals go_roundw
    all_goals first
     | exact ⟨k + 1, _, by go_num, hkp, zB (zA HMO _ _ (zA HR5)).1, zB (zA HMO _ _ (zA HR5)).2⟩
     | (simp [intOf]; omega)
   ·obtain rfl : k = ps.length := by omega
    have i1 : ¬ (ps.length : Int) < (ps.length : Int) := by omega
    go_wp2_with fail
    have HP : Hid (EndI w wr bq gP gH es S.length (zz E ps.length) (shF S (zz E ps.length) 0) (.slice aE ps.length cE)) := HI
    clear HI HO
    go_loopw [6] (fun v wz => ∃ k : Nat, v = .int .i64 ((k : Int) + 1) /\ k + 1 <= S.length /\ Hid (EndI w wz bq gP gH es S.length (zz E ps.length) (shF S (zz E ps.length) k) (.slice aE ps.length cE))) (fun v _ => S.length - (intOf v).toNat)
    case atStart => exact ⟨0, rfl, hl.1, HP⟩
    case round =>
     clear HP
     obtain ⟨k, rfl, hk, HI⟩ := hrel
     have HL1 := zB (zA HLN _ (zA HI).below)
     by_cases hkn : k + 1 < S.length
     ·have i2 : (k : Int) + 1 < (S.length : Int) := by omega
      have i3 : (0 : Int) <= (k : Int) + 1 := by omega
      have i4 : ((k : Int) + 1).toNat = k + 1 := by omega
      have hfl := zA HFL (k + 1) (by omega) hkn
      obtain ⟨gP', cP, gH', cH, a, c, h1, h2, e1, e2, _, e4, _, _⟩ := (zA HI).t.reads hkn
      obtain ⟨rfl, rfl⟩ : gH = gH' /\ S.length = cH := by simpa using h2
      have HAT2 : Hid (∀ q, Calls Tryz.prog 84 #[.pointer (some ⟨bt, 0, none⟩), .int .i64 ((k : Int) + 1)] (wr.drewN q) fun e w' => e = .returned (.agg #[.int .i64 (parN S (k + 1) : Nat), .int .u8 (lastB S (k + 1)).toNat, .int .i64 (zc S (k + 1) : Nat)]) /\ Hid (EndI w w' bq gP gH es S.length (zz E ps.length) (shF S (zz E ps.length) k) (.slice aE ps.length cE)) /\ w'.cell? ⟨bq, 1, none⟩ = some (.slice (some ⟨gH, 0, none⟩) S.length S.length)) := zB (fun q => by
       have hq : Below wr.heap.size wr (wr.drewN q) := below_drewN (Below.refl _ _) q
       have h3 := (zA HI).on hq
       have := zA HAT (wr.drewN q) (k + 1) h3.below (by omega) hkn
       refine this.mono ?_
       rintro e w' ⟨rfl, hb⟩
       have h4 := h3.on hb
       exact ⟨rfl, zB h4, by rw [zC h4.t.blk]; rfl⟩)
      have HLO : Hid (∀ W, EndI w W bq gP gH es S.length (zz E ps.length) (shF S (zz E ps.length) k) (.slice aE ps.length cE) -> Calls Tryz.prog 83 #[.pointer (some ⟨bq, 0, none⟩), .int .i64 (zc S (k + 1) : Nat)] W fun e w' => e = .returned (.int .i64 (lgF (zz E ps.length) (shF S (zz E ps.length) k) (zc S (k + 1)))) /\ Hid (EndI w w' bq gP gH es S.length (zz E ps.length) (shF S (zz E ps.length) k) (.slice aE ps.length cE)) /\ w'.cell? ⟨bq, 1, none⟩ = some (.slice (some ⟨gH, 0, none⟩) S.length S.length) /\ w'.cell? ⟨gH, k + 1, none⟩ = some (.int .i64 (shF S (zz E ps.length) k (k + 1))) /\ w'.frozen? ⟨gH, k + 1, none⟩ = false) := zB (fun W h => by
       refine (longest_any bq S.length _ _ es _ _ W h.t (zc S (k + 1)) (by omega)).mono ?_
       rintro e w' ⟨rfl, rfl⟩
       exact ⟨rfl, zB h, by rw [zC h.t.blk]; rfl, by rw [h.t.hrow.cellAt (k + 1) (by omega), zW _ _ _ hkn], h.t.hrow.frozenAt _⟩)
      have HSH : Hid (∀ W, EndI w W bq gP gH es S.length (zz E ps.length) (shF S (zz E ps.length) k) (.slice aE ps.length cE) -> EndI w (W.setCell ⟨gH, k + 1, none⟩ (.int .i64 (lgF (zz E ps.length) (shF S (zz E ps.length) k) (zc S (k + 1))))) bq gP gH es S.length (zz E ps.length) (shF S (zz E ps.length) (k + 1)) (.slice aE ps.length cE)) := zB (fun W h => h.sh _)
      have k8 : IntKind.i64.wrap ((k : Int) + 1) = (k : Int) + 1 := by rw [IntKind.wrap_i64]; omega
      have hff := fld_fail
      have n5 : bq ≠ gH := (zA HI).lt.2.2.2.2.2
      have n6 : gH ≠ bq := n5.symm
      clear h1 h2 e1 e4 hfl
      generalize lgF (zz E ps.length) (shF S (zz E ps.length) k) (zc S (k + 1)) = lg at *
      generalize shF S (zz E ps.length) k (k + 1) = old at *
      generalize parN S (k + 1) = pa at *
      generalize lastB S (k + 1) = la at *
      generalize zc S (k + 1) = fa at *
      go_wp2_with (go_at_call 38; refine (zA HL1).mono ?_; rintro e w' ⟨rfl, hw'⟩; obtain rfl := hw'.symm)
      go_region_held3 (fun w' => w'.cell? ⟨bq, 1, none⟩ = some (.slice (some ⟨gH, 0, none⟩) S.length S.length)) (go_keep)
       (first | (go_at_call 84; refine (zA HAT2 1).mono ?_; rintro e w3 ⟨rfl, H3, z3⟩) | (go_at_call 83; refine (zA HLO _ (zA H3)).mono ?_; rintro e w4 ⟨rfl, H4, z4, z5, z6⟩))
      go_wp2_with fail
      go_roundw
      case rel => exact ⟨k + 1, by go_num, by omega, zB (zA HSH _ (zA H4))⟩
      case measure => simp [intOf]; omega
     ·obtain ⟨n1, hn1⟩ : ∃ n1, n1 = S.length := ⟨_, rfl⟩
      have i2 : ¬ (k : Int) + 1 < (S.length : Int) := by omega
      have HK : Hid (k = S.length - 1) := zB (by omega)
      clear hn1
      go_wp2_with (go_at_call 38; refine (zA HL1).mono ?_; rintro e w' ⟨rfl, hw'⟩; obtain rfl := hw'.symm)
      go_ret
      have hI := zA HI
      rw [zA HK] at hI
      refine ⟨bq, _, _, es, E, rfl, zB ⟨hI.t, zA HS, hI.ge.1, fun b hb => ?_, fun b hb => ?_, fun s b hs hb => (hI.geE s b hs hb).1, hI.below⟩⟩
      ·have : gP = b := by simpa [Value.ownBlock] using hb
       rw [← this]; exact hI.ge.2.1
      ·have : gH = b := by simpa [Value.ownBlock] using hb
       rw [← this]; exact hI.ge.2.2
end Go.Proofs.YtfpohfifdfbpkaaGreatDoor
namespace Go.Proofs.YtfpohfifdfbpkaaGreatDoor
open Go.RowKit Scour
theorem chkFrom_ok : ∀ (r : List Str) (i t : Nat), (zr r i t).1 = 0 -> (∀ p ∈ r, 0 < p.length /\ p.length <= 64) /\ (zr r i t).2 = 0
 | [], i, t, h => by
   unfold zr at h ⊢
   split at h
   ·cases h
   ·rename_i h'; rw [if_neg h']; exact ⟨fun p hp => absurd hp List.not_mem_nil, rfl⟩
 | p :: r, i, t, h => by
   unfold zr at h ⊢
   split at h
   ·cases h
   ·rename_i h0
    split at h
    ·cases h
    ·rename_i h1
     rw [if_neg h0, if_neg h1]
     obtain ⟨a, b⟩ := chkFrom_ok r (i + 1) (t + p.length) h
     refine ⟨fun q hq => ?_, b⟩
     rcases List.mem_cons.1 hq with rfl | hq
     ·omega
     ·exact a q hq
theorem yr {ps : List Str} (h : (chk ps).1 = 0) : ps.length <= 64 /\ (∀ i, i < ps.length -> 0 < (pat ps i).length /\ (pat ps i).length <= 64) /\ chk ps = (0, 0) := by
 unfold chk at h ⊢
 split at h
 ·cases h
 ·rename_i h'
  rw [if_neg h']
  obtain ⟨a, b⟩ := chkFrom_ok ps 0 0 h
  refine ⟨by omega, fun i hi => a _ (by simp [pat, List.getD, hi]), ?_⟩
  exact Prod.ext h b
def Look (w : World) (bp bq : Nat) (g : List Nat) (ps S : List Str) : Prop := ∃ vC vO vX vF vP vH es E, TabF w bp vC vO vX vF ps S /\ EndT w bq vP vH es S.length (zz E ps.length) (shF S (zz E ps.length) (S.length - 1)) /\ zm ps S E /\
 ∀ k, k = bp \/ vC.ownBlock = some k \/ vO.ownBlock = some k \/ vX.ownBlock = some k \/ vF.ownBlock = some k \/ k = bq \/ vP.ownBlock = some k \/ vH.ownBlock = some k \/ (∃ s, s < S.length /\ (es s).ownBlock = some k) -> k ∈ g
theorem Look.same {w w' : World} {bp bq : Nat} {g : List Nat} {ps S : List Str} (h : Look w bp bq g ps S) (hb : ∀ k, k < w.heap.size -> k ∈ g -> w'.heap[k]? = w.heap[k]?) : Look w' bp bq g ps S := by
 obtain ⟨vC, vO, vX, vF, vP, vH, es, E, h1, h2, h3, h4⟩ := h
 refine ⟨vC, vO, vX, vF, vP, vH, es, E, h1.same (fun k hk e => hb k hk (h4 k ?_)), h2.same (fun k hk e => hb k hk (h4 k ?_)), h3, h4⟩
 ·rcases e with e | e | e | e | e <;> simp [e]
 ·rcases e with e | e | e | e <;> simp [e]
structure yV (w : World) (bm bt be : Nat) (g : List Nat) (ps S : List Str) : Prop where
 tr : ∃ g0, g0 ∈ g /\ jC w bt be g0 ps S
 tb : ∃ bp bq, w.heap[bm]? = some (.cells #[.pointer (some ⟨bt, 0, none⟩), .pointer (some ⟨bp, 0, none⟩), .pointer (some ⟨bq, 0, none⟩)] 79 (0, 0)) /\ Look w bp bq g ps S
 gl : ∀ k, k ∈ g -> k < w.heap.size
theorem yV.c0 {w : World} {bm bt be : Nat} {g : List Nat} {ps S : List Str} (h : yV w bm bt be g ps S) : w.cell? ⟨bm, 0, none⟩ = some (.pointer (some ⟨bt, 0, none⟩)) := by
 obtain ⟨bp, bq, hb, _⟩ := h.tb
 rw [zC hb]; rfl
theorem yV.ex {w : World} {bm bt be : Nat} {g : List Nat} {ps S : List Str} (h : yV w bm bt be g ps S) : ∃ g0 cap par lst E, Trie w 0 bt be ps.length g0 cap S par lst (fun k => (zc S k : Nat)) E /\ zm ps S E /\ g0 < w.heap.size := by
 obtain ⟨g0, _, h0⟩ := h.tr
 obtain ⟨cap, par, lst, E, hT, hS⟩ := h0.ex
 exact ⟨g0, cap, par, lst, E, hT, hS, h0.lts.2.2⟩
theorem yV.same {w w' : World} {bm bt be : Nat} {g : List Nat} {ps S : List Str} (h : yV w bm bt be g ps S) (hs : w.heap.size <= w'.heap.size) (hb : ∀ k, k = bm \/ k = bt \/ k = be \/ k ∈ g -> w'.heap[k]? = w.heap[k]?) : yV w' bm bt be g ps S := by
 obtain ⟨g0, hg0, h0⟩ := h.tr
 obtain ⟨bp, bq, h1, h2⟩ := h.tb
 refine ⟨⟨g0, hg0, h0.same hs (fun k hk => hb k ?_)⟩, ⟨bp, bq, (hb bm (Or.inl rfl)).trans h1, h2.same (fun k _ hk => hb k (Or.inr (Or.inr (Or.inr hk))))⟩, fun k hk => Nat.lt_of_lt_of_le (h.gl k hk) hs⟩
 rcases hk with e | e | e
 ·exact Or.inr (Or.inl e)
 ·exact Or.inr (Or.inr (Or.inl e))
 ·exact Or.inr (Or.inr (Or.inr (e ▸ hg0)))
theorem yV.lts {w : World} {bm bt be : Nat} {g : List Nat} {ps S : List Str} (h : yV w bm bt be g ps S) : bm < w.heap.size /\ bt < w.heap.size /\ be < w.heap.size /\ ∀ k, k ∈ g -> k < w.heap.size := by
 obtain ⟨g0, hg0, h0⟩ := h.tr
 obtain ⟨bp, bq, h1, _⟩ := h.tb
 exact ⟨(Array.getElem?_eq_some_iff.1 h1).1, h0.lts.1, h0.lts.2.1, h.gl⟩
theorem yV.below {w w' : World} {bm bt be : Nat} {g : List Nat} {ps S : List Str} (h : yV w bm bt be g ps S) (hb : Below w.heap.size w w') : yV w' bm bt be g ps S := by
 obtain ⟨l1, l2, l3, l4⟩ := h.lts
 exact h.same hb.size (fun k hk => hb.block k (by rcases hk with e | e | e | e; omega; omega; omega; exact l4 k e))
def lookB (bp bq n : Nat) (vC vO vX vF vP vH : Value) (es : Nat -> Value) : List Nat := [bp, bq] ++ vC.ownBlock.toList ++ vO.ownBlock.toList ++ vX.ownBlock.toList ++ vF.ownBlock.toList ++ vP.ownBlock.toList ++ vH.ownBlock.toList ++ (List.range n).flatMap fun s => (es s).ownBlock.toList
theorem mem_lookB {bp bq n k : Nat} {vC vO vX vF vP vH : Value} {es : Nat -> Value} : k ∈ lookB bp bq n vC vO vX vF vP vH es ↔ k = bp \/ vC.ownBlock = some k \/ vO.ownBlock = some k \/ vX.ownBlock = some k \/ vF.ownBlock = some k \/ k = bq \/ vP.ownBlock = some k \/ vH.ownBlock = some k \/ (∃ s, s < n /\ (es s).ownBlock = some k) := by
 simp only [lookB, List.mem_append, List.mem_cons, List.not_mem_nil, or_false, Option.mem_toList, List.mem_flatMap, List.mem_range]
 constructor
 ·rintro ((((((((e | e) | e) | e) | e) | e) | e) | e) | e) <;> simp [e]
 ·rintro (e | e | e | e | e | e | e | e | e) <;> simp [e]
set_option maxHeartbeats 2000000 in
theorem compile_ok (ap : Option Addr) (cp : Nat) (ps : List Str) (w : World) (hP : yO w w.heap.size ap ps) (hc : (chk ps).1 = 0) :
  Calls Tryz.prog 28 #[.slice ap ps.length cp] w fun e w' => ∃ (bm bt be : Nat) (g : List Nat) (S : List Str), e = .returned (.tuple #[.pointer (some ⟨bm, 0, none⟩), .int .i64 0, .int .i64 0]) /\ yV w' bm bt be g ps S /\ (w.heap.size <= bm /\ w.heap.size <= bt /\ w.heap.size <= be /\ ∀ k, k ∈ g -> w.heap.size <= k) /\ Below w.heap.size w w' := by
 obtain ⟨h64, hlen, hch⟩ := yr hc
 have hck := check_any ap cp w.heap.size ps w hP (by omega) (fun i hi => by have := hlen i hi; omega)
 rw [hch] at hck
 have HK := zB hck
 have HN := zB (new_any ap cp ps w hP (fun i hi => (hlen i hi).1) h64 (fun i hi => (hlen i hi).2))
 clear hP hc hlen hch hck
 go_enter Tryz.func28, Tryz.ntmps28
 go_wp2_with (go_at_call 44; refine (zA HK).mono ?_; rintro e w' ⟨rfl, hw'⟩; obtain rfl := hw'.symm)
 refine (zA HN).mono ?_
 rintro e w2 ⟨bt, be, g0, cap, par, lst, E, S, rfl, hT, hS, hlt, hbtw, hbl⟩
 have HGE : Hid (w.heap.size <= be /\ w.heap.size <= g0) := zB ⟨yQ hT.ends, (jI hT.row hT.rep.pos).1⟩
 have HTM : Hid (jC w2 bt be g0 ps S) := zB ⟨⟨cap, par, lst, E, hT.zero, hS⟩, by omega⟩
 have HB := zB hbl
 have HPN := zB (pnew_any bt be g0 ps S w2 (zA HTM))
 clear hT hS hbl
 go_wp2_with fail
 refine (zA HPN).mono ?_
 rintro e w3 ⟨bp, vC, vO, vX, vF, rfl, HTN⟩
 have HEN := zB (enew_any bt be g0 ps S w3 ((zA HTM).below (zA HTN).below) h64)
 go_wp2_with fail
 refine (zA HEN).mono ?_
 rintro e w4 ⟨bq, vP, vH, es, E2, rfl, HE4⟩
 go_wp2_with fail
 go_ret3
 have hbl := zA HB
 have hsz := hbl.size
 have hb3 := (zA HTN).below
 have hs3 := hb3.size
 have hb4 := (zA HE4).below
 have hs4 := hb4.size
 have h5 : Below w4.heap.size w4 (w4.alloc (.cells #[.pointer (some ⟨bt, 0, none⟩), .pointer (some ⟨bp, 0, none⟩), .pointer (some ⟨bq, 0, none⟩)] 79)) := (Below.refl _ _).alloc (Nat.le_refl _) _
 have ht4 := ((zA HTM).below hb3).below hb4
 have hge := zA HGE
 have hT4 : TabF w4 bp vC vO vX vF ps S := (zA HTN).tab.same (fun k hk _ => hb4.block k hk)
 have hrow : ∀ {v : Value} {e s n : Nat} {xs : List Value}, w4.ownsRow 0 e s v n xs -> ∀ b, v.ownBlock = some b -> b < w4.heap.size := by
  intro v e s n xs ho b hb
  obtain ⟨cu, hcu⟩ := zD ho hb
  exact (Array.getElem?_eq_some_iff.1 hcu).1
 have hall : ∀ k, k ∈ g0 :: lookB bp bq S.length vC vO vX vF vP vH es -> w.heap.size <= k /\ k < w4.heap.size := by
  intro k hk
  rcases List.mem_cons.1 hk with e | e
  ·rw [e]; exact ⟨hge.2, ht4.lts.2.2⟩
  ·rcases mem_lookB.1 e with e | e | e | e | e | e | e | e | ⟨s, hs, e⟩
   ·rw [e]; exact ⟨Nat.le_trans hsz (zA HTN).ge, (Array.getElem?_eq_some_iff.1 hT4.tab.blk).1⟩
   ·exact ⟨Nat.le_trans hsz ((zA HTN).geC k e), hrow hT4.tab.cls k e⟩
   ·exact ⟨Nat.le_trans hsz ((zA HTN).geO k e), hrow hT4.tab.off k e⟩
   ·exact ⟨Nat.le_trans hsz ((zA HTN).geX k e), hrow hT4.tab.cel k e⟩
   ·exact ⟨Nat.le_trans hsz ((zA HTN).geF k e), hrow hT4.fst k e⟩
   ·rw [e]; exact ⟨by have := (zA HE4).ge; omega, (Array.getElem?_eq_some_iff.1 (zA HE4).t.blk).1⟩
   ·exact ⟨by have := (zA HE4).geP k e; omega, hrow (zA HE4).t.prow k e⟩
   ·exact ⟨by have := (zA HE4).geH k e; omega, hrow (zA HE4).t.hrow k e⟩
   ·exact ⟨by have := (zA HE4).geE s k hs e; omega, hrow ((zA HE4).t.pes s hs) k e⟩
 have hm : yV (w4.alloc (.cells #[.pointer (some ⟨bt, 0, none⟩), .pointer (some ⟨bp, 0, none⟩), .pointer (some ⟨bq, 0, none⟩)] 79)) w4.heap.size bt be (g0 :: lookB bp bq S.length vC vO vX vF vP vH es) ps S :=
  ⟨⟨g0, by simp, ht4.below h5⟩, ⟨bp, bq, heap_alloc_new w4 _, vC, vO, vX, vF, vP, vH, es, E2, hT4.same (fun k hk _ => h5.block k hk), (zA HE4).t.below h5, (zA HE4).of, fun k hk => List.mem_cons_of_mem _ (mem_lookB.2 hk)⟩, fun k hk => Nat.lt_of_lt_of_le (hall k hk).2 h5.size⟩
 exact ⟨w4.heap.size, bt, be, _, S, rfl, hm, ⟨by omega, by omega, by omega, fun k hk => (hall k hk).1⟩, ((hbl.trans (hb3.mono hsz)).trans (hb4.mono (by omega))).trans (h5.mono (by omega))⟩
end Go.Proofs.YtfpohfifdfbpkaaGreatDoor
namespace Go.Proofs.YtfpohfifdfbpkaaGreatDoor
open Go.RowKit Scour
set_option maxHeartbeats 1000000 in
theorem states_any (bm bt be : Nat) (g : List Nat) (ps S : List Str) (w : World) (hM : yV w bm bt be g ps S) :
  Calls Tryz.prog 17 #[.pointer (some ⟨bm, 0, none⟩)] w fun e w' => e = .returned (.int .i64 S.length) /\ w' = w := by
 obtain ⟨g0, cap, par, lst, E, hT, hS, hg0⟩ := hM.ex
 have c0 : w.cell? ⟨bm, 0, none⟩ = some (.pointer (some ⟨bt, 0, none⟩)) := hM.c0
 have c1 : w.cell? ⟨bt, 0, none⟩ = some (.slice (some ⟨g0, 0, none⟩) S.length cap) := by rw [zC hT.blk]; rfl
 clear hT hS hM
 go_enter Tryz.func17, Tryz.ntmps17
 go_wp2
 go_ret
 exact ⟨rfl, rfl⟩
set_option maxHeartbeats 1000000 in
theorem mnext_low (b : Int) (bmp : Value) (n : Int) (w : World) (hn : n < 0) :
  Calls Tryz.prog 27 #[bmp, .int .i64 n, .int .u8 b] w fun e w' => e = .returned (.tuple #[.int .i64 0, .int .i64 1]) /\ w' = w := by
 go_enter Tryz.func27, Tryz.ntmps27
 go_wp2
 go_ret2
 exact ⟨rfl, rfl⟩
set_option maxHeartbeats 1000000 in
theorem mnext_high (bm bt be : Nat) (g : List Nat) (ps S : List Str) (w : World) (hM : yV w bm bt be g ps S) (n b : Int) (hn : (S.length : Int) <= n) :
  Calls Tryz.prog 27 #[.pointer (some ⟨bm, 0, none⟩), .int .i64 n, .int .u8 b] w fun e w' => e = .returned (.tuple #[.int .i64 0, .int .i64 1]) /\ w' = w := by
 obtain ⟨g0, cap, par, lst, E, hT, hS, hg0⟩ := hM.ex
 have c0 : w.cell? ⟨bm, 0, none⟩ = some (.pointer (some ⟨bt, 0, none⟩)) := hM.c0
 have c1 : w.cell? ⟨bt, 0, none⟩ = some (.slice (some ⟨g0, 0, none⟩) S.length cap) := by rw [zC hT.blk]; rfl
 have h0 : 0 <= n := by omega
 clear hT hS hM
 go_enter Tryz.func27, Tryz.ntmps27
 go_wp2
 go_ret2
 exact ⟨rfl, rfl⟩
set_option maxHeartbeats 1000000 in
theorem mnext_in (bm bt be : Nat) (g : List Nat) (ps S : List Str) (w : World) (hM : yV w bm bt be g ps S) (n : Nat) (b : UInt8) (hn : n < S.length) :
  Calls Tryz.prog 27 #[.pointer (some ⟨bm, 0, none⟩), .int .i64 n, .int .u8 b.toNat] w fun e w' => e = .returned (.tuple #[.int .i64 (zO S n b), .int .i64 0]) /\ Below w.heap.size w w' := by
 have hl := hM.lts
 obtain ⟨g0, cap, par, lst, E, hT, hS, hg0⟩ := hM.ex
 have hsl := hS.len
 have c0 : w.cell? ⟨bm, 0, none⟩ = some (.pointer (some ⟨bt, 0, none⟩)) := hM.c0
 have c1 : w.cell? ⟨bt, 0, none⟩ = some (.slice (some ⟨g0, 0, none⟩) S.length cap) := by rw [zC hT.blk]; rfl
 have HC := zB (next_any bt g0 cap S par lst (fun k => (zc S k : Nat)) n b w hT.rep hn (by omega) (by omega) (by omega) (jI hT.row hT.rep.pos).2.2 c1 (sts_of_owns hT.row) (fun k _ => rfl))
 clear hT hS hM
 have i1 : ¬ (S.length : Int) <= (n : Int) := by omega
 go_enter Tryz.func27, Tryz.ntmps27
 go_wp2_with (first | (go_at_call 43; refine (zA HC).mono ?_; rintro e w' ⟨rfl, hbw⟩) | go_in)
 go_ret2
 exact ⟨rfl, hbw⟩
end Go.Proofs.YtfpohfifdfbpkaaGreatDoor
namespace Go.Proofs.YtfpohfifdfbpkaaGreatDoor
open Go.RowKit Scour
def outsF (gs cs : Nat -> Nat) (ps : List Str) (k : Nat) : List Value := (List.range ps.length).map fun i => if i < k then .slice (some ⟨gs i, 0, none⟩) (pat ps i).length (cs i) else .slice none 0 0
theorem yi (gs cs : Nat -> Nat) (ps : List Str) (k : Nat) : (outsF gs cs ps k).length = ps.length := by simp [outsF]
theorem jL (gs cs : Nat -> Nat) (ps : List Str) (k i : Nat) (h : i < ps.length) : (outsF gs cs ps k)[i]? = some (if i < k then .slice (some ⟨gs i, 0, none⟩) (pat ps i).length (cs i) else .slice none 0 0) := by simp [outsF, h]
def updN (f : Nat -> Nat) (i x : Nat) : Nat -> Nat := fun k => if k = i then x else f k
theorem outsF_set (gs cs : Nat -> Nat) (ps : List Str) (k gb cb : Nat) : (outsF gs cs ps k).set k (.slice (some ⟨gb, 0, none⟩) (pat ps k).length cb) = outsF (updN gs k gb) (updN cs k cb) ps (k + 1) := by
 apply List.ext_getElem?
 intro i
 rw [List.getElem?_set]
 by_cases hi : i < ps.length
 ·rw [jL _ _ _ _ _ hi, jL _ _ _ _ _ hi, yi]
  by_cases e : k = i
  ·subst e; simp [updN, hi]
  ·rw [if_neg e]
   have h1 : updN gs k gb i = gs i := if_neg (fun h => e h.symm)
   have h2 : updN cs k cb i = cs i := if_neg (fun h => e h.symm)
   rw [h1, h2]
   by_cases g : i < k
   ·rw [if_pos g, if_pos (by omega)]
   ·rw [if_neg g, if_neg (by omega)]
 ·rw [List.getElem?_eq_none (by rw [yi]; omega), List.getElem?_eq_none (by rw [yi]; omega)]
  split
  ·split
   ·rename_i h1 h2; rw [yi] at h2; omega
   ·rfl
  ·rfl
structure Outs (w : World) (base b0 : Nat) (gs cs : Nat -> Nat) (ps : List Str) (k : Nat) : Prop where
 row : w.ownsRow base 27 1 (.slice (some ⟨b0, 0, none⟩) ps.length ps.length) ps.length (outsF gs cs ps k)
 each : ∀ i, i < k -> w.ownsRow base 5 1 (.slice (some ⟨gs i, 0, none⟩) (pat ps i).length (cs i)) (pat ps i).length ((pat ps i).map zT)
 apart : ∀ i j, i < k -> j < k -> gs i = gs j -> i = j
 ne : ∀ i, i < k -> gs i ≠ b0
 lts : ∀ i, i < k -> gs i < w.heap.size
theorem owns_lower {w : World} {base base' e s n : Nat} {v : Value} {xs : List Value} (h : w.ownsRow base e s v n xs) (hb : base' <= base) : w.ownsRow base' e s v n xs := by
 refine ⟨h.1, ?_⟩
 rcases h.2 with k | ⟨g, cap, cur, h1, h2, h3⟩
 ·exact Or.inl k
 ·exact Or.inr ⟨g, cap, cur, h1, Nat.le_trans hb h2, h3⟩
theorem Outs.step {w w2 : World} {base b0 k gb cb : Nat} {gs cs : Nat -> Nat} {ps : List Str} (h : Outs w base b0 gs cs ps k) (hk : k < ps.length) (hbase : base <= w.heap.size) (hb : Below w.heap.size w w2)
  (ho : w2.ownsRow w.heap.size 5 1 (.slice (some ⟨gb, 0, none⟩) (pat ps k).length cb) (pat ps k).length ((pat ps k).map zT)) :
  Outs (w2.setCell ⟨b0, k, none⟩ (.slice (some ⟨gb, 0, none⟩) (pat ps k).length cb)) base b0 (updN gs k gb) (updN cs k cb) ps (k + 1) := by
 have hgb := yQ ho
 obtain ⟨cur, hcur⟩ := zK ho
 have hgl := (Array.getElem?_eq_some_iff.1 hcur).1
 obtain ⟨cur0, hcur0⟩ := zK h.row
 have hb0 := (Array.getElem?_eq_some_iff.1 hcur0).1
 have hrow := ((h.row.kept (zM hb none) (by simp [Value.ownBlock])).stored k (.slice (some ⟨gb, 0, none⟩) (pat ps k).length cb)).1
 rw [outsF_set] at hrow
 have hsame : ∀ j, j ≠ b0 -> (w2.setCell ⟨b0, k, none⟩ (.slice (some ⟨gb, 0, none⟩) (pat ps k).length cb)).heap[j]? = w2.heap[j]? := fun j hj => Below.heap_setCell w2 _ _ j hj
 refine ⟨hrow, ?_, ?_, ?_, ?_⟩
 ·intro i hi
  unfold updN
  by_cases e : i = k
  ·subst e
   rw [if_pos rfl, if_pos rfl]
   exact yp (owns_lower ho hbase) (hsame gb (by omega))
  ·rw [if_neg e, if_neg e]
   have hi' : i < k := by omega
   exact yp ((h.each i hi').kept (zM hb none) (by simp [Value.ownBlock])) (hsame _ (h.ne i hi'))
 ·intro i j hi hj e
  unfold updN at e
  by_cases ei : i = k <;> by_cases ej : j = k
  ·omega
  ·rw [if_pos ei, if_neg ej] at e; have := h.lts j (by omega); omega
  ·rw [if_neg ei, if_pos ej] at e; have := h.lts i (by omega); omega
  ·rw [if_neg ei, if_neg ej] at e; exact h.apart i j (by omega) (by omega) e
 ·intro i hi
  unfold updN
  by_cases e : i = k
  ·rw [if_pos e]; omega
  ·rw [if_neg e]; exact h.ne i (by omega)
 ·intro i hi
  unfold updN
  have hs : (w2.setCell ⟨b0, k, none⟩ (.slice (some ⟨gb, 0, none⟩) (pat ps k).length cb)).heap.size = w2.heap.size := by simp [World.setCell]
  rw [hs]
  by_cases e : i = k
  ·rw [if_pos e]; exact hgl
  ·rw [if_neg e]; have := h.lts i (by omega); have := hb.size; omega
theorem Tryz.infoL : (Tryz.prog.info? 27).map (fun i => (i.zero, i.size, i.bytes)) = some (some (.slice none 0 0), 1, 24) := by kernel_rfl
theorem made_outs (gs cs : Nat -> Nat) (ps : List Str) : (madeCells (Value.slice none 0 0).cells (ps.length * 1)).toList = outsF gs cs ps 0 := by
 rw [Nat.mul_one]
 refine (toList_madeCells_one _ _).trans ?_
 apply List.ext_getElem?
 intro i
 by_cases hi : i < ps.length
 ·rw [jL _ _ _ _ _ hi]; simp [hi]
 ·rw [List.getElem?_eq_none (by simp; omega), List.getElem?_eq_none (by rw [yi]; omega)]
set_option maxHeartbeats 2000000 in
theorem tpatterns_any (bm bt be : Nat) (g : List Nat) (ps S : List Str) (w : World) (hM : yV w bm bt be g ps S) (hps : ps.length <= 64) (hpl : ∀ i, i < ps.length -> 0 < (pat ps i).length /\ (pat ps i).length <= 64) :
  Calls Tryz.prog 39 #[.pointer (some ⟨bt, 0, none⟩)] w fun e w' => ∃ b0 gs cs, e = .returned (.slice (some ⟨b0, 0, none⟩) ps.length ps.length) /\ Outs w' w.heap.size b0 gs cs ps ps.length /\ Below w.heap.size w w' := by
 obtain ⟨i0, hi, hz0, hz1, hz2⟩ := info_parts Tryz.infoL
 have hlts := hM.lts
 obtain ⟨g0, cap, par, lst, E, hT, hS, hg0⟩ := hM.ex
 have c0 : w.cell? ⟨bt, 0, none⟩ = some (.slice (some ⟨g0, 0, none⟩) S.length cap) := by rw [zC hT.blk]; rfl
 have c1 : w.cell? ⟨bt, 1, none⟩ = some (.slice (some ⟨be, 0, none⟩) ps.length ps.length) := by rw [zC hT.blk]; rfl
 have HT := zB hT
 have HSO := zB hS
 have HPL := zB hpl
 have HC0 := zB c0
 clear hM hT hS hpl c0
 have HMK : Hid (∀ w1, (w.grownBy w1 none) -> w1.cell? ⟨bt, 1, none⟩ = some (.slice (some ⟨be, 0, none⟩) ps.length ps.length)) := zB (fun w1 hg => by rw [← c1]; exact World.cell?_of_block (a := ⟨bt, 1, none⟩) (hg.block bt hlts.2.1 (by simp)))
 go_enter Tryz.func39, Tryz.ntmps39
 go_wp2_with (first | (at_make; refine wpList_make_full _ rfl (.tmp 10) (.tmp 10) 30 rfl w.heap.size 27 i0 (.slice none 0 0) 1 Tryz.underlying30 hi hz0 hz1 .i64 .i64 ps.length ps.length ps.length rfl rfl rfl rfl (by rw [hz2]; omega) (by unfold maxLen; omega) (by simp) ?_; intro w1 hown hgrow; have c2 := zA HMK w1 hgrow; have HOW := zB hown; have HGW := zB hgrow; clear hown hgrow))
 go_loopw [17] (fun v wr => ∃ (k : Nat) (gs cs : Nat -> Nat), v = .int .i64 k /\ k <= ps.length /\ Hid (Outs wr w.heap.size w.heap.size gs cs ps k) /\ Hid (Below w.heap.size w wr)) (fun v _ => ps.length - (intOf v).toNat)
 case atStart =>
  refine ⟨0, fun _ => 0, fun _ => 0, rfl, Nat.zero_le _, zB ⟨?_, fun i h => absurd h (Nat.not_lt_zero _), fun i j h => absurd h (Nat.not_lt_zero _), fun i h => absurd h (Nat.not_lt_zero _), fun i h => absurd h (Nat.not_lt_zero _)⟩, zB (zG (zA HGW) (Nat.le_refl _) (fun k h => by cases h))⟩
  have := zA HOW
  rw [made_outs (fun _ => 0) (fun _ => 0)] at this
  exact this
 case round =>
  obtain ⟨k, gs, cs, rfl, hk, HO, HB⟩ := hrel
  have hsz := (zA HB).size
  by_cases hlt : k < ps.length
  ·obtain ⟨p, hp, hEp, hatp⟩ := (zA HSO).ends k hlt
   have hple := zA HPL k hlt
   have hR := (zA HT).rep
   have hp0 : 0 < p := by
    rcases Nat.eq_zero_or_pos p with e | e
    ·subst e; rw [hR.head] at hatp; rw [← hatp] at hple; simp at hple
    ·exact e
   have ce : wr.cell? ⟨be, k, none⟩ = some (.int .i64 p) := by
    rw [(zA HB).cell (p := ⟨be, k, none⟩) hlts.2.2.1, (zA HT).ends.cellAt k (by omega), zW _ _ _ hlt, hEp]
   have hsp := spell_any bt g0 cap S par lst (fun k => (zc S k : Nat)) p wr hR hp hp0 (by omega) (by omega) (by rw [hatp]; omega) (((zA HB).cell (p := ⟨bt, 0, none⟩) hlts.2.1).trans (zA HC0)) ((sts_of_owns (zA HT).row).below (zA HB) hg0)
   rw [hatp] at hsp
   have HSP := zB hsp
   have i1 : (k : Int) < (ps.length : Int) := by omega
   obtain ⟨cur0, hcur0⟩ := zK (zA HO).row
   have hb0 := (Array.getElem?_eq_some_iff.1 hcur0).1
   have HST : Hid (∀ w2 gb cb, Below wr.heap.size wr w2 -> w2.ownsRow wr.heap.size 5 1 (.slice (some ⟨gb, 0, none⟩) (pat ps k).length cb) (pat ps k).length ((pat ps k).map zT) -> w2.cell? ⟨w.heap.size, k, none⟩ = some (.slice none 0 0) /\ w2.frozen? ⟨w.heap.size, k, none⟩ = false /\ Outs (w2.setCell ⟨w.heap.size, k, none⟩ (.slice (some ⟨gb, 0, none⟩) (pat ps k).length cb)) w.heap.size w.heap.size (updN gs k gb) (updN cs k cb) ps (k + 1) /\ Below w.heap.size w (w2.setCell ⟨w.heap.size, k, none⟩ (.slice (some ⟨gb, 0, none⟩) (pat ps k).length cb))) := zB (by
    intro w2 gb cb hb2 ho2
    have hr2 := (zA HO).row.kept (zM hb2 none) (by simp [Value.ownBlock])
    refine ⟨?_, hr2.frozenAt k, (zA HO).step hlt hsz hb2 ho2, ((zA HB).trans (hb2.mono hsz)).setCell (Nat.le_refl _) _⟩
    rw [hr2.cellAt k (by omega), jL _ _ _ _ _ hlt, if_neg (by omega)])
   clear hsp hatp hEp hR hcur0
   go_wp2_with (go_at_call 67; refine (zA HSP).mono ?_; rintro e w2 ⟨gb, cb, rfl, ho2, hb2⟩; obtain ⟨f1, f2, f3, f4⟩ := zA HST w2 gb cb hb2 ho2; have HF3 := zB f3; have HF4 := zB f4; clear ho2 hb2 f3 f4)
   go_roundw
   case rel => exact ⟨k + 1, updN gs k gb, updN cs k cb, by go_num, hlt, HF3, HF4⟩
   case measure => simp [intOf]; omega
  ·obtain rfl : k = ps.length := by omega
   go_wp2
   go_ret
   exact ⟨w.heap.size, gs, cs, rfl, zA HO, zA HB⟩
set_option maxHeartbeats 1000000 in
theorem patterns_any (bm bt be : Nat) (g : List Nat) (ps S : List Str) (w : World) (hM : yV w bm bt be g ps S) (hps : ps.length <= 64) (hpl : ∀ i, i < ps.length -> 0 < (pat ps i).length /\ (pat ps i).length <= 64) :
  Calls Tryz.prog 18 #[.pointer (some ⟨bm, 0, none⟩)] w fun e w' => ∃ b0 gs cs, e = .returned (.slice (some ⟨b0, 0, none⟩) ps.length ps.length) /\ Outs w' w.heap.size b0 gs cs ps ps.length /\ Below w.heap.size w w' := by
 have c0 : w.cell? ⟨bm, 0, none⟩ = some (.pointer (some ⟨bt, 0, none⟩)) := hM.c0
 have HC := zB (tpatterns_any bm bt be g ps S w hM hps hpl)
 clear hM hpl
 go_enter Tryz.func18, Tryz.ntmps18
 go_wp2_with (go_at_call 39; refine (zA HC).mono ?_; rintro e w' ⟨b0, gs, cs, rfl, ho, hb⟩)
 go_ret
 exact ⟨b0, gs, cs, rfl, ho, hb⟩
end Go.Proofs.YtfpohfifdfbpkaaGreatDoor
namespace Go.Proofs.YtfpohfifdfbpkaaGreatDoor
open Go.RowKit Scour Go.Lib
def ScanM (w : World) (bs : Nat) (g gm : List Nat) (ps S : List Str) (t : Str) : Prop := ∃ bk bp bq, g = [bk] /\
 w.heap[bs]? = some (.cells #[.func (.func 68) #[] #[.pointer (some ⟨bk, 0, none⟩)], .pointer (some ⟨bq, 0, none⟩), .int .i64 (S.idxOf (yI S t) : Nat), .int .i64 (t.length : Nat)] 92 (0, 0)) /\
 w.heap[bk]? = some (.cells #[.pointer (some ⟨bp, 0, none⟩)] 76 (0, 0)) /\ Look w bp bq gm ps S /\ (∀ k, k ∈ gm -> k < w.heap.size) /\ bs ∉ gm /\ ∃ par lst, Rep S par lst
theorem ScanM.lts {w : World} {bs : Nat} {g gm : List Nat} {ps S : List Str} {t : Str} (h : ScanM w bs g gm ps S t) : bs < w.heap.size /\ (∀ k, k ∈ g -> k < w.heap.size) /\ ∀ k, k ∈ gm -> k < w.heap.size := by
 obtain ⟨bk, bp, bq, rfl, h1, h2, h3, h4, _⟩ := h
 refine ⟨(Array.getElem?_eq_some_iff.1 h1).1, fun k hk => ?_, h4⟩
 obtain rfl : k = bk := by simpa using hk
 exact (Array.getElem?_eq_some_iff.1 h2).1
theorem ScanM.same {w w' : World} {bs : Nat} {g gm : List Nat} {ps S : List Str} {t : Str} (h : ScanM w bs g gm ps S t) (hs : w.heap.size <= w'.heap.size) (hb : ∀ k, k < w.heap.size -> (k = bs \/ k ∈ g \/ k ∈ gm) -> w'.heap[k]? = w.heap[k]?) : ScanM w' bs g gm ps S t := by
 obtain ⟨l1, l2, l3⟩ := h.lts
 obtain ⟨bk, bp, bq, rfl, h1, h2, h3, h4, h5⟩ := h
 exact ⟨bk, bp, bq, rfl, (hb bs l1 (Or.inl rfl)).trans h1, (hb bk (l2 bk (by simp)) (Or.inr (Or.inl (by simp)))).trans h2, h3.same (fun k hk hm => hb k hk (Or.inr (Or.inr hm))), fun k hk => Nat.lt_of_lt_of_le (h4 k hk) hs, h5⟩
end Go.Proofs.YtfpohfifdfbpkaaGreatDoor
