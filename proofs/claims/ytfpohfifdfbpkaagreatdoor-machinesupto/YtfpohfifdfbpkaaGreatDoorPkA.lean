import Derived.Test.YtfpohfifdfbpkaaGreatDoorPackDef
import Derived.Test.YtfpohfifdfbpkaaGreatDoorCheck
import Derived.Test.YtfpohfifdfbpkaaGreatDoorUSortI
import Derived.Deep.AppendLies
namespace Go.Proofs.YtfpohfifdfbpkaaGreatDoor
open Go.RowKit Scour Go.Lib Go.Shelf
theorem zu {w : World} {base e s n : Nat} {v : Value} {xs : List Value} (h : w.ownsRow base e s v n xs) : w.ownsRow 0 e s v n xs := by
 refine ⟨h.1, ?_⟩
 rcases h.2 with k | ⟨g, cap, cur, h1, _, h3⟩
 ·exact Or.inl k
 ·exact Or.inr ⟨g, cap, cur, h1, Nat.zero_le _, h3⟩
theorem Trie.zero {w : World} {base bt be m g cap : Nat} {S : List Str} {par lst fl E : Nat -> Int} (h : Trie w base bt be m g cap S par lst fl E) : Trie w 0 bt be m g cap S par lst fl E :=
 ⟨h.blk, zu h.row, zu h.ends, h.rep, h.ne⟩
theorem yp {w w' : World} {base e s g n cap : Nat} {xs : List Value} (h : w.ownsRow base e s (.slice (some ⟨g, 0, none⟩) n cap) n xs) (hb : w'.heap[g]? = w.heap[g]?) : w'.ownsRow base e s (.slice (some ⟨g, 0, none⟩) n cap) n xs := by
 refine ⟨h.1, ?_⟩
 rcases h.2 with ⟨hv, _⟩ | ⟨g', cap', cur, hv, h2, h3, h4⟩
 ·cases hv
 ·right
  refine ⟨g', cap', cur, hv, h2, ?_, h4⟩
  simp only [Value.slice.injEq, Option.some.injEq, Addr.mk.injEq, and_true, true_and] at hv
  obtain ⟨rfl, rfl⟩ := hv
  exact hb.trans h3
theorem yQ {w : World} {base e s g n cap : Nat} {xs : List Value} (h : w.ownsRow base e s (.slice (some ⟨g, 0, none⟩) n cap) n xs) : base <= g := by
 rcases h.2 with ⟨hv, _⟩ | ⟨g', cap', cur, hv, h2, _⟩
 ·cases hv
 ·simp only [Value.slice.injEq, Option.some.injEq, Addr.mk.injEq, and_true, true_and] at hv
  obtain ⟨rfl, rfl⟩ := hv
  exact h2
theorem y8 {B : Nat} {w W w' : World} {v : Value} {g' H : Nat} (hb : Below B w W) (hB : B <= W.heap.size) (hv : ∀ k, v.ownBlock = some k -> B <= k) (hg : W.grownBy w' v.ownBlock) (hat : v.ownBlock = some g' \/ g' = H) (hH : W.heap.size = H) : Below B w w' /\ B <= g' := by
 refine ⟨hb.trans (zG hg hB hv), ?_⟩
 rcases hat with h | h
 ·exact hv g' h
 ·omega
theorem zE {w w' : World} {base e s n : Nat} {v : Value} {xs : List Value} (h : w.ownsRow base e s v n xs) (hb : ∀ b, b < w.heap.size -> v.ownBlock = some b -> w'.heap[b]? = w.heap[b]?) : w'.ownsRow base e s v n xs := by
 refine ⟨h.1, ?_⟩
 rcases h.2 with k | ⟨g, cap, cur, h1, h2, h3, h4⟩
 ·exact Or.inl k
 ·exact Or.inr ⟨g, cap, cur, h1, h2, (hb g (Array.getElem?_eq_some_iff.1 h3).1 (by rw [h1]; rfl)).trans h3, h4⟩
structure jC (w : World) (bt be g : Nat) (ps S : List Str) : Prop where
 ex : ∃ cap par lst E, Trie w 0 bt be ps.length g cap S par lst (fun k => (zc S k : Nat)) E /\ zm ps S E
 lt : be < w.heap.size
theorem jC.same {w w' : World} {bt be g : Nat} {ps S : List Str} (h : jC w bt be g ps S) (hs : w.heap.size <= w'.heap.size) (hb : ∀ k, k = bt \/ k = be \/ k = g -> w'.heap[k]? = w.heap[k]?) : jC w' bt be g ps S := by
 obtain ⟨cap, par, lst, E, hT, hS⟩ := h.ex
 exact ⟨⟨cap, par, lst, E, ⟨(hb bt (Or.inl rfl)).trans hT.blk, yp hT.row (hb g (Or.inr (Or.inr rfl))), yp hT.ends (hb be (Or.inr (Or.inl rfl))), hT.rep, hT.ne⟩, hS⟩, Nat.lt_of_lt_of_le h.lt hs⟩
theorem jC.lts {w : World} {bt be g : Nat} {ps S : List Str} (h : jC w bt be g ps S) : bt < w.heap.size /\ be < w.heap.size /\ g < w.heap.size := by
 obtain ⟨cap, par, lst, E, hT, _⟩ := h.ex
 exact ⟨(Array.getElem?_eq_some_iff.1 hT.blk).1, h.lt, (jI hT.row hT.rep.pos).2.1⟩
theorem jC.below {w w' : World} {bt be g : Nat} {ps S : List Str} (h : jC w bt be g ps S) (hb : Below w.heap.size w w') : jC w' bt be g ps S := by
 have hl := h.lts
 exact h.same hb.size (fun k hk => hb.block k (by omega))
theorem jC.len {w : World} {bt be g : Nat} {ps S : List Str} (h : jC w bt be g ps S) : 0 < S.length /\ S.length < 5000 := by
 obtain ⟨cap, par, lst, E, hT, hS⟩ := h.ex
 exact ⟨hT.rep.pos, hS.len⟩
set_option maxHeartbeats 1000000 in
theorem tlen_any (bt be g : Nat) (ps S : List Str) (w : World) (hM : jC w bt be g ps S) :
 Calls Tryz.prog 38 #[.pointer (some ⟨bt, 0, none⟩)] w fun e w' => e = .returned (.int .i64 S.length) /\ w' = w := by
 obtain ⟨cap, par, lst, E, hT, hS⟩ := hM.ex
 have c1 : w.cell? ⟨bt, 0, none⟩ = some (.slice (some ⟨g, 0, none⟩) S.length cap) := by rw [zC hT.blk]; rfl
 clear hT hS hM
 go_enter Tryz.func38, Tryz.ntmps38
 go_wp2
 go_ret
 exact ⟨rfl, rfl⟩
theorem tmnext_any (bt be g : Nat) (ps S : List Str) (w : World) (hM : jC w bt be g ps S) (n : Nat) (b : UInt8) (hn : n < S.length) :
 Calls Tryz.prog 43 #[.pointer (some ⟨bt, 0, none⟩), .int .i64 n, .int .u8 b.toNat] w fun e w' => e = .returned (.int .i64 (zO S n b)) /\ Below w.heap.size w w' := by
 have hl := hM.lts
 obtain ⟨cap, par, lst, E, hT, hS⟩ := hM.ex
 have hsl := hS.len
 have c1 : w.cell? ⟨bt, 0, none⟩ = some (.slice (some ⟨g, 0, none⟩) S.length cap) := by rw [zC hT.blk]; rfl
 exact next_any bt g cap S par lst (fun k => (zc S k : Nat)) n b w hT.rep hn (by omega) (by omega) (by omega) (jI hT.row hT.rep.pos).2.2 c1 (sts_of_owns hT.row) (fun k _ => rfl)
def lastB (S : List Str) (i : Nat) : UInt8 := (at' S i).getLast?.getD 0
def parN (S : List Str) (i : Nat) : Nat := S.idxOf (at' S i).dropLast
theorem rep_par {S : List Str} {par lst : Nat -> Int} (h : Rep S par lst) {i : Nat} (h0 : 0 < i) (hi : i < S.length) : par i = (parN S i : Nat) /\ lst i = ((lastB S i).toNat : Int) := by
 obtain ⟨p, c, e1, hp, e2, e3⟩ := h.kids i h0 hi
 have hpl : p < S.length := by omega
 refine ⟨?_, ?_⟩
 ·rw [e1]
  have : parN S i = p := by
   unfold parN
   rw [e3, List.dropLast_concat]
   exact idx_at h.sorted hpl
  rw [this]
 ·rw [e2]
  unfold lastB
  rw [e3, List.getLast?_concat]
  rfl
set_option maxHeartbeats 1000000 in
theorem tat_any (bt be g : Nat) (ps S : List Str) (w : World) (hM : jC w bt be g ps S) (i : Nat) (h0 : 0 < i) (hi : i < S.length) :
 Calls Tryz.prog 84 #[.pointer (some ⟨bt, 0, none⟩), .int .i64 i] w fun e w' => e = .returned (.agg #[.int .i64 (parN S i : Nat), .int .u8 (lastB S i).toNat, .int .i64 (zc S i : Nat)]) /\ Below w.heap.size w w' := by
 have hl := hM.lts
 obtain ⟨cap, par, lst, E, hT, hS⟩ := hM.ex
 have hsl := hS.len
 have c1 : w.cell? ⟨bt, 0, none⟩ = some (.slice (some ⟨g, 0, none⟩) S.length cap) := by rw [zC hT.blk]; rfl
 have hcap := (jI hT.row hT.rep.pos).2.2
 obtain ⟨s0, s1, s2⟩ := sts_of_owns hT.row i hi
 obtain ⟨r1, r2⟩ := rep_par hT.rep h0 hi
 rw [r1] at s0
 rw [r2] at s1
 clear hT hS hM r1 r2
 have hW : ∀ ob, Below w.heap.size w (w.alloc ob) := fun ob => (Below.refl _ _).alloc (Nat.le_refl _) _
 have HW := zB hW
 have hd := fun ob k => (hW ob).cell (p := ⟨bt, k, none⟩) hl.1
 have he := fun ob k => (hW ob).cell (p := ⟨g, k, none⟩) hl.2.2
 go_enter Tryz.func84, Tryz.ntmps84
 go_wp2
 refine bodyPost_ret (v := .agg #[.int .i64 (parN S i : Nat), .int .u8 (lastB S i).toNat, .int .i64 (zc S i : Nat)]) ?_ rfl ⟨rfl, zA HW _⟩
 simp only [results, show Tryz.f84.results = #[.cell 4 154] from rfl]
 go_simp
end Go.Proofs.YtfpohfifdfbpkaaGreatDoor
namespace Go.Proofs.YtfpohfifdfbpkaaGreatDoor
open Go.RowKit Scour Go.Lib Go.Shelf Go.Sort
theorem incr_ext : ∀ (l r : List Int), l.Pairwise (· < ·) -> r.Pairwise (· < ·) -> (∀ x, x ∈ l ↔ x ∈ r) -> l = r
 | [], [], _, _, _ => rfl
 | [], y :: r, _, _, h => absurd ((h y).2 (by simp)) (by simp)
 | x :: l, [], _, _, h => absurd ((h x).1 (by simp)) (by simp)
 | x :: l, y :: r, hl, hr, h => by
   rw [List.pairwise_cons] at hl hr
   have e : x = y := by
    rcases List.mem_cons.1 ((h x).1 (by simp)) with e | e
    ·exact e
    ·rcases List.mem_cons.1 ((h y).2 (by simp)) with e2 | e2
     ·exact e2.symm
     ·have := hr.1 x e; have := hl.1 y e2; omega
   subst e
   rw [incr_ext l r hl.2 hr.2 (fun z => ?_)]
   have hz := h z
   simp only [List.mem_cons] at hz
   constructor
   ·intro hm
    rcases hz.1 (Or.inr hm) with e | e
    ·have := hl.1 z hm; omega
    ·exact e
   ·intro hm
    rcases hz.2 (Or.inr hm) with e | e
    ·have := hr.1 z hm; omega
    ·exact e
theorem compact_incr (d : Array Int) (hs : SortedIn ltInt 0 d.size d) : ∀ m, m <= d.size -> (compactUpTo d m).Pairwise (· < ·) /\ (∀ x, x ∈ compactUpTo d m ↔ ∃ j, j < m /\ d[j]! = x) := by
 have hle : ∀ i j, i <= j -> j < d.size -> d[i]! <= d[j]! := by
  intro i j hij hj
  rcases Nat.eq_or_lt_of_le hij with e | e
  ·rw [e]; exact Int.le_refl _
  ·have := hs i j (Nat.zero_le _) e hj
   simpa [ltInt] using this
 intro m
 induction m with
 | zero => intro _; simp [compactUpTo]
 | succ m ih =>
   intro hm
   obtain ⟨h1, h2⟩ := ih (by omega)
   rw [compactUpTo_succ]
   by_cases hk : keeps d m = true
   ·rw [if_pos hk]
    have hlt : ∀ x, x ∈ compactUpTo d m -> x < d[m]! := by
     intro x hx
     obtain ⟨j, hj, rfl⟩ := (h2 x).1 hx
     have h3 := hle j (m - 1) (by omega) (by omega)
     have h4 := hle (m - 1) m (by omega) (by omega)
     have h5 : d[m]! ≠ d[m - 1]! := by
      unfold keeps at hk
      have h0 : m ≠ 0 := by omega
      simpa [h0] using hk
     omega
    refine ⟨?_, fun x => ?_⟩
    ·rw [List.pairwise_append]
     exact ⟨h1, by simp, fun x hx y hy => by simp at hy; rw [hy]; exact hlt x hx⟩
    ·rw [List.mem_append, h2]
     constructor
     ·rintro (⟨j, hj, e⟩ | e)
      ·exact ⟨j, by omega, e⟩
      ·simp at e; exact ⟨m, by omega, e.symm⟩
     ·rintro ⟨j, hj, e⟩
      rcases Nat.lt_or_ge j m with g | g
      ·exact Or.inl ⟨j, g, e⟩
      ·obtain rfl : j = m := by omega
       exact Or.inr (by simp [e])
   ·rw [if_neg hk, List.append_nil]
    refine ⟨h1, fun x => ?_⟩
    rw [h2]
    constructor
    ·rintro ⟨j, hj, e⟩; exact ⟨j, by omega, e⟩
    ·rintro ⟨j, hj, e⟩
     rcases Nat.lt_or_ge j m with g | g
     ·exact ⟨j, g, e⟩
     ·obtain rfl : j = m := by omega
      unfold keeps at hk
      have h0 : j ≠ 0 := by intro h0; simp [h0] at hk
      have h5 : d[j]! = d[j - 1]! := by simpa [h0] using hk
      exact ⟨j - 1, by omega, by rw [← h5]; exact e⟩
def lbs (S : List Str) (k : Nat) : List UInt8 := (List.range k).map fun i => lastB S (i + 1)
theorem lbs_len (S : List Str) (k : Nat) : (lbs S k).length = k := by simp [lbs]
theorem lbs_succ (S : List Str) (k : Nat) : lbs S (k + 1) = lbs S k ++ [lastB S (k + 1)] := by simp [lbs, List.range_succ]
def yY (s : Str) : List Int := s.map fun c => (c.toNat : Int)
theorem occ_mem {ps : List Str} {b : Nat} : occB ps b = true ↔ ∃ i, i < ps.length /\ ∃ c, c ∈ pat ps i /\ c.toNat = b := by
 unfold occB
 rw [List.any_eq_true]
 constructor
 ·rintro ⟨p, hp, h⟩
  rw [List.any_eq_true] at h
  obtain ⟨c, hc, e⟩ := h
  obtain ⟨i, hi, he⟩ := List.getElem_of_mem hp
  exact ⟨i, hi, c, by simpa [pat, List.getD, hi, he] using hc, by simpa using e⟩
 ·rintro ⟨i, hi, c, hc, e⟩
  refine ⟨pat ps i, by simp [pat, List.getD, hi], ?_⟩
  rw [List.any_eq_true]
  exact ⟨c, hc, by simpa using e⟩
theorem lbs_mem {ps S : List Str} {E : Nat -> Int} {par lst : Nat -> Int} (hR : Rep S par lst) (hS : zm ps S E) (b : Nat) : (∃ c, c ∈ lbs S (S.length - 1) /\ c.toNat = b) ↔ occB ps b = true := by
 rw [occ_mem]
 constructor
 ·rintro ⟨c, hc, rfl⟩
  simp only [lbs, List.mem_map, List.mem_range] at hc
  obtain ⟨j, hj, rfl⟩ := hc
  have hjl : j + 1 < S.length := by omega
  obtain ⟨p, c, _, hp, _, e3⟩ := hR.kids (j + 1) (by omega) hjl
  have hl : lastB S (j + 1) = c := by unfold lastB; rw [e3, List.getLast?_concat]; rfl
  rcases (hS.mem (at' S (j + 1))).1 (jO hjl) with e | ⟨i, hi, h1, h2, e⟩
  ·rw [e3] at e; simp at e
  ·refine ⟨i, hi, c, ?_, by rw [hl]⟩
   have hm : c ∈ at' S (j + 1) := by rw [e3]; simp
   rw [e] at hm
   exact List.mem_of_mem_take hm
 ·rintro ⟨i, hi, c, hc, rfl⟩
  obtain ⟨k, hk, he⟩ := List.getElem_of_mem hc
  have hx : (pat ps i).take (k + 1) ∈ S := (hS.mem _).2 (Or.inr ⟨i, hi, by rw [List.length_take]; omega, by rw [List.length_take]; omega, by rw [List.length_take, Nat.min_eq_left (by omega)]⟩)
  have hj := List.idxOf_lt_length_of_mem hx
  have ha := jV hx
  generalize S.idxOf ((pat ps i).take (k + 1)) = j at hj ha
  have h0 : j ≠ 0 := by
   rintro rfl
   rw [hR.head] at ha
   have := congrArg List.length ha
   rw [List.length_take] at this
   simp at this
   omega
  refine ⟨lastB S j, ?_, ?_⟩
  ·simp only [lbs, List.mem_map, List.mem_range]
   exact ⟨j - 1, by omega, by rw [show j - 1 + 1 = j by omega]⟩
  ·unfold lastB
   rw [ha, List.take_succ_eq_append_getElem hk, List.getLast?_concat, he]
   rfl
theorem cls_incr (ps : List Str) : (yY (zL ps)).Pairwise (· < ·) /\ ∀ x, x ∈ yY (zL ps) ↔ ∃ b : Nat, occB ps b = true /\ x = (b : Int) := by
 have hlt : ∀ b, occB ps b = true -> b < 256 := fun b h => by
  obtain ⟨i, _, c, _, rfl⟩ := occ_mem.1 h
  exact c.toNat_lt
 have e : yY (zL ps) = ((List.range 256).filter (occB ps)).map (fun b : Nat => (b : Int)) := by
  unfold yY zL jN
  rw [List.map_map]
  apply List.map_congr_left
  intro b hb
  have := (List.mem_filter.1 hb).1
  rw [List.mem_range] at this
  simp only [Function.comp, UInt8.toNat_ofNat']
  rw [Nat.mod_eq_of_lt this]
 rw [e]
 refine ⟨?_, fun x => ?_⟩
 ·rw [List.pairwise_map]
  exact ((List.pairwise_lt_range).filter _).imp (fun h => by omega)
 ·simp only [List.mem_map, List.mem_filter, List.mem_range]
  constructor
  ·rintro ⟨b, ⟨_, h⟩, rfl⟩; exact ⟨b, h, rfl⟩
  ·rintro ⟨b, h, rfl⟩; exact ⟨b, ⟨hlt b h, h⟩, rfl⟩
theorem cls_of_sorted {ps S : List Str} {E : Nat -> Int} {par lst : Nat -> Int} (hR : Rep S par lst) (hS : zm ps S E) (d' : Array Int) (n : Nat) (hn : n = S.length - 1) (hz : d'.size = n) (hp : PermIn 0 n (yY (lbs S n)).toArray d') (hs : SortedIn ltInt 0 n d') :
 compactUpTo d' n = yY (zL ps) := by
 subst hn
 rw [← hz] at hs
 obtain ⟨h1, h2⟩ := compact_incr d' hs (S.length - 1) (by omega)
 obtain ⟨k1, k2⟩ := cls_incr ps
 refine incr_ext _ _ h1 k1 (fun x => ?_)
 rw [h2, k2]
 have hpm : ∀ x, (∃ j, j < S.length - 1 /\ d'[j]! = x) ↔ x ∈ yY (lbs S (S.length - 1)) := by
  intro x
  have h3 := hp.2.2
  have e1 : d'.extract 0 (S.length - 1) = d' := by rw [← hz]; simp
  have e2 : (yY (lbs S (S.length - 1))).toArray.extract 0 (S.length - 1) = (yY (lbs S (S.length - 1))).toArray := by
   have hsz : (yY (lbs S (S.length - 1))).toArray.size = S.length - 1 := by simp [yY, lbs]
   generalize (yY (lbs S (S.length - 1))).toArray = A at hsz
   rw [← hsz]
   simp
  rw [e1, e2] at h3
  have h4 := h3.mem_iff (a := x)
  rw [show (yY (lbs S (S.length - 1))).toArray.toList = yY (lbs S (S.length - 1)) from rfl] at h4
  rw [← h4]
  constructor
  ·rintro ⟨j, hj, rfl⟩
   have hj2 : j < d'.size := by omega
   rw [getElem!_pos d' j hj2]; simp
  ·intro hx
   obtain ⟨j, hj, e⟩ := List.getElem_of_mem hx
   have hj2 : j < d'.size := by simpa using hj
   exact ⟨j, by omega, by rw [getElem!_pos d' j hj2]; simpa using e⟩
 rw [hpm]
 unfold yY
 rw [List.mem_map]
 constructor
 ·rintro ⟨c, hc, rfl⟩
  exact ⟨c.toNat, (lbs_mem hR hS _).1 ⟨c, hc, rfl⟩, rfl⟩
 ·rintro ⟨b, hb, rfl⟩
  obtain ⟨c, hc, e⟩ := (lbs_mem hR hS b).2 hb
  exact ⟨c, hc, by rw [e]⟩
end Go.Proofs.YtfpohfifdfbpkaaGreatDoor
namespace Go.Proofs.YtfpohfifdfbpkaaGreatDoor
open Go.RowKit Scour Go.Lib Go.Shelf Go.Sort
theorem encB_nums (s : Str) : s.map zT = (yY s).map eU := by
 unfold yY
 rw [List.map_map]
 rfl
theorem holds_of_owns {w : World} {base g n cap : Nat} {s : Str} (h : w.ownsRow base 5 1 (.slice (some ⟨g, 0, none⟩) n cap) n (s.map zT)) (hn : s.length = n) : Holds eU w g 0 (yY s).toArray := by
 intro j hj
 have hj2 : j < s.length := by simpa [yY] using hj
 rw [Nat.zero_add]
 refine ⟨?_, h.frozenAt j⟩
 rw [h.cellAt j (by omega), encB_nums, getElem!_pos _ j hj]
 simp [yY, hj2]
theorem owns_put {w : World} {base g n cap q m : Nat} {os : Array Obj} {xs : List Value} (h : w.ownsRow base 5 1 (.slice (some ⟨g, 0, none⟩) n cap) n xs) (d : Array Int) (hd : d.size = n) (hm : m <= n) :
 (grow (putRow eU (Sort.ahead w q) g 0 d) os).ownsRow base 5 1 (.slice (some ⟨g, 0, none⟩) m cap) m ((d.toList.take m).map eU) := by
 obtain ⟨h0, h1⟩ := h
 rcases h1 with ⟨hv, _⟩ | ⟨g', cap', cur, hv, h2, h3, h4, h5, h6, h7⟩
 ·cases hv
 ·simp only [Value.slice.injEq, Option.some.injEq, Addr.mk.injEq, and_true, true_and] at hv
  obtain ⟨rfl, rfl⟩ := hv
  refine ⟨by simp [hd]; omega, Or.inr ⟨g, cap, _, rfl, h2, heap_put eU d h3, by omega, h5, by rw [putCells_size]; exact h6, ?_⟩⟩
  have hcur : n <= cur.size := by omega
  apply List.ext_getElem?
  intro j
  by_cases hj : j < m
  ·rw [List.getElem?_take_of_lt (by omega), Array.getElem?_toList, putCells_get eU d cur j (by omega) (by omega)]
   have hjd : j < d.size := by omega
   rw [List.getElem?_map, List.getElem?_take_of_lt hj, Array.getElem?_toList, getElem!_pos d j hjd]
   simp [hjd]
  ·rw [List.getElem?_eq_none (by simp; omega), List.getElem?_eq_none (by simp; omega)]
theorem zV {w : World} {base e s n : Nat} {v : Value} {xs : List Value} (h : w.ownsRow base e s v n xs) : (v = .slice none 0 0 /\ n = 0) \/ ∃ g cap, v = .slice (some ⟨g, 0, none⟩) n cap /\ base <= g /\ g < w.heap.size /\ n <= cap := by
 rcases h.2 with h1 | ⟨g, cap, cur, hv, h2, h3, h4, _⟩
 ·exact Or.inl h1
 ·exact Or.inr ⟨g, cap, hv, h2, (Array.getElem?_eq_some_iff.1 h3).1, h4⟩
theorem fld_last (a b c : Value) (w : World) : (Instr.field 154 (.agg #[a, b, c]) 1).run Tryz.prog w = .ok b w := by kernel_rfl
set_option maxHeartbeats 8000000 in
set_option maxRecDepth 100000 in
theorem pclasses_any (bt be g : Nat) (ps S : List Str) (w : World) (hM : jC w bt be g ps S) :
 Calls Tryz.prog 75 #[.pointer (some ⟨bt, 0, none⟩)] w fun e w' => ∃ v, e = .returned v /\ Hid (w'.ownsRow w.heap.size 5 1 v (zL ps).length ((zL ps).map zT)) /\ Hid (Below w.heap.size w w') := by
 obtain ⟨i0, hi, hz0, hz1, hz2⟩ := info_parts Tryz.infoB
 have hl := hM.len
 have HCL : Hid (∀ (d' : Array Int), d'.size = S.length - 1 -> PermIn 0 (S.length - 1) (yY (lbs S (S.length - 1))).toArray d' -> SortedIn ltInt 0 (S.length - 1) d' -> compactUpTo d' (S.length - 1) = yY (zL ps)) := zB (by
  obtain ⟨cap, par, lst, E, hT, hS⟩ := hM.ex
  exact fun d' h1 h2 h3 => cls_of_sorted hT.rep hS d' _ rfl h1 h2 h3)
 have HLN : Hid (∀ W, Below w.heap.size w W -> Calls Tryz.prog 38 #[.pointer (some ⟨bt, 0, none⟩)] W fun e w' => e = .returned (.int .i64 S.length) /\ w' = W) := zB fun W hb => tlen_any bt be g ps S W (hM.below hb)
 have HAT : Hid (∀ W i, 0 < i -> i < S.length -> Below w.heap.size w W -> Calls Tryz.prog 84 #[.pointer (some ⟨bt, 0, none⟩), .int .i64 i] W fun e w' => e = .returned (.agg #[.int .i64 (parN S i : Nat), .int .u8 (lastB S i).toNat, .int .i64 (zc S i : Nat)]) /\ Below W.heap.size W w') := zB fun W i h0 h1 hb => tat_any bt be g ps S W (hM.below hb) i h0 h1
 have hfld := fld_last
 clear hM
 go_enter Tryz.func75, Tryz.ntmps75
 go_wp2
 go_loopw [3, 4] (fun v3 v4 wr => ∃ k : Nat, v4 = .int .i64 (k + 1 : Nat) /\ k + 1 <= S.length /\ Hid (wr.ownsRow w.heap.size 5 1 v3 k ((lbs S k).map zT)) /\ Hid (Below w.heap.size w wr)) (fun _ v4 _ => S.length - (intOf v4).toNat)
 case atStart => exact ⟨0, rfl, hl.1, zB (World.ownsRow_nil _ _ _ _), zB (Below.refl _ _)⟩
 case round =>
  obtain ⟨k, rfl, hk, HO, HB⟩ := hrel
  have HL2 := zB (zA HLN wr (zA HB))
  have hsz := (zA HB).size
  by_cases hks : k + 1 < S.length
  ·have HA2 := zB (zA HAT wr (k + 1) (by omega) hks (zA HB))
   have hc2 : ((k + 1 : Nat) : Int) < (S.length : Int) := by omega
   obtain ⟨c, hc⟩ : ∃ c, lastB S (k + 1) = c := ⟨_, rfl⟩
   have HSU : Hid (lbs S (k + 1) = lbs S k ++ [c]) := zB (by rw [← hc]; exact lbs_succ S k)
   rw [hc] at HA2
   clear hc
   generalize ((parN S (k + 1) : Nat) : Int) = pp at HA2
   generalize ((zc S (k + 1) : Nat) : Int) = ff at HA2
   have HOA : Hid (∀ w2 ob, Below wr.heap.size wr w2 -> (w2.alloc ob).ownsRow w.heap.size 5 1 u3 k ((lbs S k).map zT)) := zB fun w2 ob hb => (zE (zA HO) (fun b hl _ => hb.block b hl)).alloc _
   have HK : Hid (∀ w2 w1 g' cap', Below wr.heap.size wr w2 -> w1.ownsRow w.heap.size 5 1 (.slice (some ⟨g', 0, none⟩) (k + 1) cap') (k + 1) ((lbs S k).map zT ++ [.int .u8 c.toNat]) -> (w2.alloc (.cells #[.int .u8 c.toNat] 5)).grownBy w1 u3.ownBlock -> w1.ownsRow w.heap.size 5 1 (.slice (some ⟨g', 0, none⟩) (k + 1) cap') (k + 1) ((lbs S (k + 1)).map zT) /\ Below w.heap.size w w1) := zB (by
    intro w2 w1 g' cap' hb2 ho hgr
    have hs2 := hb2.size
    have hb1 : Below w.heap.size w w1 := (((zA HB).trans (hb2.mono hsz)).alloc (by omega) _).trans (zG hgr (by simp; omega) (yN (zA HO)))
    refine ⟨?_, hb1⟩
    rw [zA HSU, List.map_append]
    exact ho)
   clear HSU
   go_wp2_with (first | (go_at_call 38; refine (zA HL2).mono ?_; rintro e w' ⟨rfl, hw'⟩; obtain rfl := hw'.symm) | (go_at_call 84; refine (zA HA2).mono ?_; rintro e w2 ⟨rfl, hb2⟩; have HB2 := zB hb2; have hs2 := hb2.size; clear hb2) | (at_builtin; refine wpList_append_lies _ rfl (.tmp 11) (.tmp 16) 27 rfl w.heap.size 5 i0 (.int .u8 0) 1 1 Tryz.underlying27 hi hz0 hz1 hz2 rfl (by decide) _ k ((lbs S k).map zT) rfl (zA HOA w2 _ (zA HB2)) ⟨w2.heap.size, 0, none⟩ 1 1 [.int .u8 c.toNat] rfl rfl (cell_one_new _ _ _) (by intro u hu; simp at hu; subst hu; rfl) (by omega) (by unfold maxLen; omega) (by omega) (by simp; omega) _ rfl ?_; intro g' cap' w1 hown' hgrow hat hlt'; obtain ⟨k1, k2⟩ := zA HK w2 w1 g' cap' (zA HB2) hown' hgrow; have HK1 := zB k1; have HK2 := zB k2; clear hown' hgrow hat k1 k2))
   go_roundw
   case rel => exact ⟨k + 1, by go_num, hks, HK1, HK2⟩
   case measure => simp [intOf]; omega
  ·have hks2 : S.length - 1 = k := by omega
   have hc2 : ¬ ((k + 1 : Nat) : Int) < (S.length : Int) := by omega
   rw [hks2] at HCL
   rcases zV (zA HO) with ⟨hv, hk0⟩ | ⟨gb, cb, hv, hgb, hgl, hcb⟩
   ·subst hv hk0
    have HE : Hid (zL ps = []) := zB (by
     have h := zA HCL #[] rfl (by simp [lbs, yY, PermIn]) (fun i j _ _ h => by omega)
     have h2 : yY (zL ps) = [] := by rw [← h]; simp [compactUpTo]
     simpa [yY] using h2)
    have HS1 := zB (uSortNil wr)
    have HC1 := zB (uCompactNil wr)
    clear HCL
    go_wp2_with (first | (go_at_call 38; refine (zA HL2).mono ?_; rintro e w' ⟨rfl, hw'⟩; obtain rfl := hw'.symm) | (go_at_call 116; refine (zA HS1).mono ?_; rintro e w' ⟨rfl, hw'⟩; obtain rfl := hw'.symm) | (go_at_call 117; refine (zA HC1).mono ?_; rintro e w' ⟨rfl, hw'⟩; obtain rfl := hw'.symm))
    go_ret
    exact ⟨_, rfl, zB (by rw [zA HE]; exact World.ownsRow_nil _ _ _ _), HB⟩
   ·subst hv
    have HS1 := zB (uSort gb 0 cb k (yY (lbs S k)).toArray wr (by simp [yY, lbs]) (holds_of_owns (zA HO) (lbs_len S k)) hgl (by omega))
    have HC1 : Hid (∀ (d1 : Array Int) w1, d1.size = k -> zR wr gb 0 d1 w1 -> Calls Tryz.prog 117 #[.slice (some ⟨gb, 0, none⟩) k cb] w1 fun e w' => e = .returned (.slice (some ⟨gb, 0, none⟩) (compactUpTo d1 k).length cb) /\ ∃ q, w' = putRow eU (Sort.ahead w1 q) gb 0 (compactUpTo d1 k ++ List.replicate (k - (compactUpTo d1 k).length) 0).toArray) := zB (by
     intro d1 w1 h1 h2
     subst h1
     exact uCompact gb 0 cb d1 w1 h2.hold (by omega) hcb)
    go_wp2_with (first | (go_at_call 38; refine (zA HL2).mono ?_; rintro e w' ⟨rfl, hw'⟩; obtain rfl := hw'.symm) | (go_at_call 116; refine (zA HS1).mono ?_; rintro e w1 ⟨rfl, d1, K1, HR1⟩) | (go_at_call 117; refine (zA HC1 d1 w1 (zA K1).1 (zA HR1)).mono ?_; rintro e w3 ⟨rfl, q, hw3⟩; have HW3 := zB hw3; clear hw3))
    go_ret
    have hcl := zA HCL d1 (zA K1).1 (zA K1).2.1 (zA K1).2.2
    obtain ⟨nn, os, hw1⟩ := (zA HR1).sw
    have ho1 := owns_put (q := nn) (os := os) (zA HO) d1 (zA K1).1 (Nat.le_refl k)
    have hb1 : wr.grownBy w1 (some gb) := by rw [hw1]; exact grown_put eU d1
    have hw1' : w1 = grow (putRow eU (Sort.ahead wr nn) gb 0 d1) os := hw1
    rw [← hw1'] at ho1
    have hlen : (compactUpTo d1 k).length <= k := by
     unfold compactUpTo
     rw [List.length_map]
     exact Nat.le_trans (List.length_filter_le _ _) (by simp)
    have hs1 : w.heap.size <= w1.heap.size := Nat.le_trans hsz (by rw [hw1]; unfold sortWorld; rw [size_grow, size_putRow]; simp [Sort.ahead])
    have hsa : (compactUpTo d1 k ++ List.replicate (k - (compactUpTo d1 k).length) (0 : Int)).toArray.size = k := by simp; omega
    have ho2 := owns_put (q := q) (os := #[]) ho1 _ hsa hlen
    have hb2 : w1.grownBy (grow (putRow eU (Sort.ahead w1 q) gb 0 (compactUpTo d1 k ++ List.replicate (k - (compactUpTo d1 k).length) (0 : Int)).toArray) #[]) (some gb) := grown_put eU _
    rw [grow_empty, ← zA HW3] at ho2 hb2
    refine ⟨_, rfl, zB ?_, zB ?_⟩
    ·have e1 : ((compactUpTo d1 k ++ List.replicate (k - (compactUpTo d1 k).length) (0 : Int)).toArray.toList.take (compactUpTo d1 k).length) = compactUpTo d1 k := by simp
     rw [e1, hcl, ← encB_nums] at ho2
     have e2 : (yY (zL ps)).length = (zL ps).length := by simp [yY]
     rw [e2] at ho2
     rw [hcl, e2]
     exact ho2
    ·exact ((zA HB).trans (zG hb1 hsz (fun x e => by cases e; exact hgb))).trans (zG hb2 hs1 (fun x e => by cases e; exact hgb))
end Go.Proofs.YtfpohfifdfbpkaaGreatDoor
namespace Go.Proofs.YtfpohfifdfbpkaaGreatDoor
open Go.RowKit Scour Go.Lib Go.Shelf
theorem Tryz.infoX : (Tryz.prog.info? 218).map (fun i => (i.zero, i.size, i.bytes)) = some (some (.agg #[.int .i64 0, .int .i64 0]), 2, 16) := by kernel_rfl
theorem encP_len2 (l : List (Nat × Nat)) : (encP l).length = l.length * 2 := by rw [encP_len]; omega
set_option maxHeartbeats 8000000 in
set_option maxRecDepth 100000 in
theorem pexc_any (bt be g : Nat) (ps S : List Str) (w : World) (hM : jC w bt be g ps S) (s : Nat) (hs : s < S.length) (vC : Value) (c : Str) (hC : w.ownsRow 0 5 1 vC c.length (c.map zT)) (hc : c.length <= 256) :
 Calls Tryz.prog 118 #[.pointer (some ⟨bt, 0, none⟩), .int .i64 s, vC] w fun e w' => ∃ v, e = .returned v /\ Hid (w'.ownsRow w.heap.size 218 2 v (zU S c s).length (encP (zU S c s))) /\ Hid (Below w.heap.size w w') := by
 obtain ⟨i0, hi, hz0, hz1, hz2⟩ := info_parts Tryz.infoX
 have hl := hM.len
 obtain ⟨aC, cC, hv⟩ : ∃ aC cC, vC = .slice aC c.length cC := by
  rcases zV hC with ⟨h1, h2⟩ | ⟨gc, cc, h1, _⟩
  ·exact ⟨none, 0, by rw [h1, h2]⟩
  ·exact ⟨_, cc, h1⟩
 subst hv
 have HCC : Hid (∀ W k, Below w.heap.size w W -> k < c.length -> ∃ gc, aC = some ⟨gc, 0, none⟩ /\ W.cell? ⟨gc, k, none⟩ = some (.int .u8 (c.getD k 0).toNat)) := zB (by
  intro W k hb hk
  rcases zV hC with ⟨h1, h2⟩ | ⟨gc, cc, h1, _⟩
  ·omega
  ·obtain ⟨rfl, rfl⟩ : aC = some ⟨gc, 0, none⟩ /\ cC = cc := by simpa using h1
   have h2 := zE (w' := W) hC (fun b hl _ => hb.block b hl)
   refine ⟨gc, rfl, ?_⟩
   rw [h2.cellAt k (by omega)]
   simp [zT, List.getD, hk])
 have HNX : Hid (∀ W n (b : UInt8), n < S.length -> Below w.heap.size w W -> Calls Tryz.prog 43 #[.pointer (some ⟨bt, 0, none⟩), .int .i64 n, .int .u8 b.toNat] W fun e w' => e = .returned (.int .i64 (zO S n b)) /\ Below W.heap.size W w') := zB fun W n b hn hb => tmnext_any bt be g ps S W (hM.below hb) n b hn
 clear hM hC
 go_enter Tryz.func118, Tryz.ntmps118
 go_wp2
 go_loopw [7, 13] (fun v7 v13 wr => ∃ k : Nat, v13 = .int .i64 k /\ k <= c.length /\ Hid (wr.ownsRow w.heap.size 218 2 v7 (zt S c s k).length (encP (zt S c s k))) /\ Hid (Below w.heap.size w wr)) (fun _ v13 _ => c.length - (intOf v13).toNat)
 case atStart => exact ⟨0, rfl, Nat.zero_le _, zB (World.ownsRow_nil _ _ _ _), zB (Below.refl _ _)⟩
 case round =>
  obtain ⟨k, rfl, hk, HO, HB⟩ := hrel
  have hsz := (zA HB).size
  by_cases hkc : k < c.length
  ·obtain ⟨gc, rfl, hcell⟩ := zA HCC wr k (zA HB) hkc
   obtain ⟨b, hb⟩ : ∃ b, c.getD k 0 = b := ⟨_, rfl⟩
   rw [hb] at hcell
   have HXS : Hid (zt S c s (k + 1) = zt S c s k ++ if zO S s b = zO S 0 b then [] else [(k + 1, zO S s b)]) := zB (by rw [zt, hb])
   clear hb
   have hxl := excTo_len S c s k
   have HN1 := zB (zA HNX wr s b hs (zA HB))
   have HN2 : Hid (∀ W, Below w.heap.size w W -> Calls Tryz.prog 43 #[.pointer (some ⟨bt, 0, none⟩), .int .i64 0, .int .u8 b.toNat] W fun e w' => e = .returned (.int .i64 (zO S 0 b)) /\ Below W.heap.size W w') := zB fun W hb => zA HNX W 0 b hl.1 hb
   generalize zO S s b = x at *
   generalize zO S 0 b = y at *
   generalize zt S c s k = xs at *
   go_wp2_with fail
   refine (zA HN1).mono ?_
   rintro e w1 ⟨rfl, hb1⟩
   have HB1 := zB ((zA HB).trans (hb1.mono hsz))
   have HO1 := zB (zE (w' := w1) (zA HO) (fun b hl _ => hb1.block b hl))
   clear hb1
   go_wp2_with fail
   refine (zA HN2 w1 (zA HB1)).mono ?_
   rintro e w2 ⟨rfl, hb2⟩
   have HB2 := zB ((zA HB1).trans (hb2.mono (zA HB1).size))
   have HO2 := zB (zE (w' := w2) (zA HO1) (fun b hl _ => hb2.block b hl))
   have hs2 := (zA HB2).size
   clear hb2
   by_cases hxy : x = y
   ·subst hxy
    go_wp2
    go_roundw
    case rel => exact ⟨k + 1, by go_num, hkc, zB (by rw [zA HXS]; simpa using zA HO2), HB2⟩
    case measure => simp [intOf]; omega
   ·have HX2 : Hid (zt S c s (k + 1) = xs ++ [(k + 1, x)]) := zB (by rw [zA HXS, if_neg hxy])
    have HK : Hid (∀ w3 g' cap', w3.ownsRow w.heap.size 218 2 (.slice (some ⟨g', 0, none⟩) (xs.length + 1) cap') (xs.length + 1) (encP xs ++ [.int .i64 ((k : Int) + 1), .int .i64 x]) -> (w2.alloc (.cells #[.int .i64 ((k : Int) + 1), .int .i64 x] 218)).grownBy w3 u7.ownBlock -> w3.ownsRow w.heap.size 218 2 (.slice (some ⟨g', 0, none⟩) (xs.length + 1) cap') (zt S c s (k + 1)).length (encP (zt S c s (k + 1))) /\ Below w.heap.size w w3) := zB (by
     intro w3 g' cap' ho hgr
     refine ⟨?_, ((zA HB2).alloc hs2 _).trans (zG hgr (by simp; omega) (yN (zA HO)))⟩
     rw [zA HX2, encP_append, List.length_append]
     exact ho)
    have hxn : ¬ ((x : Int) = (y : Int)) := by omega
    clear HXS HX2
    go_wp2_with (at_builtin; refine wpList_append_lies _ rfl (.tmp 27) (.tmp 32) 163 rfl w.heap.size 218 i0 (.agg #[.int .i64 0, .int .i64 0]) 2 16 Tryz.underlying163 hi hz0 hz1 hz2 rfl (by decide) _ xs.length (encP xs) rfl ((zA HO2).alloc _) ⟨w2.heap.size, 0, none⟩ 1 1 [.int .i64 ((k : Int) + 1), .int .i64 x] rfl rfl (World.news_of_block (heap_alloc_new w2 _)) (by intro u hu; simp at hu; rcases hu with rfl | rfl <;> rfl) (by omega) (by unfold maxLen; omega) (by omega) (by simp; omega) _ rfl ?_; intro g' cap' w3 hown' hgrow hat hlt'; obtain ⟨k1, k2⟩ := zA HK w3 g' cap' hown' hgrow; have HK1 := zB k1; have HK2 := zB k2; clear hown' hgrow hat k1 k2)
    go_roundw
    case rel => exact ⟨k + 1, by go_num, hkc, HK1, HK2⟩
    case measure => simp [intOf]; omega
  ·obtain rfl : k = c.length := by omega
   go_wp2
   go_ret
   exact ⟨_, rfl, HO, HB⟩
end Go.Proofs.YtfpohfifdfbpkaaGreatDoor
