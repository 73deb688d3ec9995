import Derived.Test.YtibkhphbilfckaaGreatDoorPackDef
import Derived.Test.YtibkhphbilfckaaGreatDoorCheck
import Derived.Test.YtibkhphbilfckaaGreatDoorUSortK
namespace Go.Proofs.YtibkhphbilfckaaGreatDoor
open Go.RowKit Scour Go.Lib Go.Shelf

theorem owns_zero {w : World} {base e s n : Nat} {v : Value} {xs : List Value} (h : w.ownsRow base e s v n xs) : w.ownsRow 0 e s v n xs := by
  refine ⟨h.1, ?_⟩
  rcases h.2 with k | ⟨g, cap, cur, h1, _, h3⟩
  · exact Or.inl k
  · exact Or.inr ⟨g, cap, cur, h1, Nat.zero_le _, h3⟩

theorem Trie.zero {w : World} {base bt be m g cap : Nat} {S : List Str} {par lst fl E : Nat → Int} (h : Trie w base bt be m g cap S par lst fl E) : Trie w 0 bt be m g cap S par lst fl E :=
  ⟨h.blk, owns_zero h.row, owns_zero h.ends, h.rep, h.ne⟩

theorem owns_same {w w' : World} {base e s g n cap : Nat} {xs : List Value} (h : w.ownsRow base e s (.slice (some ⟨g, 0, none⟩) n cap) n xs) (hb : w'.heap[g]? = w.heap[g]?) : w'.ownsRow base e s (.slice (some ⟨g, 0, none⟩) n cap) n xs := by
  refine ⟨h.1, ?_⟩
  rcases h.2 with ⟨hv, _⟩ | ⟨g', cap', cur, hv, h2, h3, h4⟩
  · cases hv
  · right
    refine ⟨g', cap', cur, hv, h2, ?_, h4⟩
    simp only [Value.slice.injEq, Option.some.injEq, Addr.mk.injEq, and_true, true_and] at hv
    obtain ⟨rfl, rfl⟩ := hv
    exact hb.trans h3

theorem owns_base {w : World} {base e s g n cap : Nat} {xs : List Value} (h : w.ownsRow base e s (.slice (some ⟨g, 0, none⟩) n cap) n xs) : base ≤ g := by
  rcases h.2 with ⟨hv, _⟩ | ⟨g', cap', cur, hv, h2, _⟩
  · cases hv
  · simp only [Value.slice.injEq, Option.some.injEq, Addr.mk.injEq, and_true, true_and] at hv
    obtain ⟨rfl, rfl⟩ := hv
    exact h2


theorem own_step {B : Nat} {w W w' : World} {v : Value} {g' H : Nat} (hb : Below B w W) (hB : B ≤ W.heap.size) (hv : ∀ k, v.ownBlock = some k → B ≤ k) (hg : W.grownBy w' v.ownBlock) (hat : v.ownBlock = some g' ∨ g' = H) (hH : W.heap.size = H) : Below B w w' ∧ B ≤ g' := by
  refine ⟨hb.trans (below_of_grown hg hB hv), ?_⟩
  rcases hat with h | h
  · exact hv g' h
  · omega

theorem owns_kept {w w' : World} {base e s n : Nat} {v : Value} {xs : List Value} (h : w.ownsRow base e s v n xs) (hb : ∀ b, b < w.heap.size → v.ownBlock = some b → w'.heap[b]? = w.heap[b]?) : w'.ownsRow base e s v n xs := by
  refine ⟨h.1, ?_⟩
  rcases h.2 with k | ⟨g, cap, cur, h1, h2, h3, h4⟩
  · exact Or.inl k
  · exact Or.inr ⟨g, cap, cur, h1, h2, (hb g (Array.getElem?_eq_some_iff.1 h3).1 (by rw [h1]; rfl)).trans h3, h4⟩

/-- A finished trie in memory. -/
structure TrieM (w : World) (bt be g : Nat) (ps S : List Str) : Prop where
  ex : ∃ cap par lst E, Trie w 0 bt be ps.length g cap S par lst (fun k => (failN S k : Nat)) E ∧ StatesOf ps S E
  lt : be < w.heap.size

theorem TrieM.same {w w' : World} {bt be g : Nat} {ps S : List Str} (h : TrieM w bt be g ps S) (hs : w.heap.size ≤ w'.heap.size) (hb : ∀ k, k = bt ∨ k = be ∨ k = g → w'.heap[k]? = w.heap[k]?) : TrieM w' bt be g ps S := by
  obtain ⟨cap, par, lst, E, hT, hS⟩ := h.ex
  exact ⟨⟨cap, par, lst, E, ⟨(hb bt (Or.inl rfl)).trans hT.blk, owns_same hT.row (hb g (Or.inr (Or.inr rfl))), owns_same hT.ends (hb be (Or.inr (Or.inl rfl))), hT.rep, hT.ne⟩, hS⟩, Nat.lt_of_lt_of_le h.lt hs⟩

theorem TrieM.lts {w : World} {bt be g : Nat} {ps S : List Str} (h : TrieM w bt be g ps S) : bt < w.heap.size ∧ be < w.heap.size ∧ g < w.heap.size := by
  obtain ⟨cap, par, lst, E, hT, _⟩ := h.ex
  exact ⟨(Array.getElem?_eq_some_iff.1 hT.blk).1, h.lt, (owns_lt hT.row hT.rep.pos).2.1⟩

theorem TrieM.below {w w' : World} {bt be g : Nat} {ps S : List Str} (h : TrieM w bt be g ps S) (hb : Below w.heap.size w w') : TrieM w' bt be g ps S := by
  have hl := h.lts
  exact h.same hb.size (fun k hk => hb.block k (by omega))

theorem TrieM.len {w : World} {bt be g : Nat} {ps S : List Str} (h : TrieM w bt be g ps S) : 0 < S.length ∧ S.length < 5000 := by
  obtain ⟨cap, par, lst, E, hT, hS⟩ := h.ex
  exact ⟨hT.rep.pos, hS.len⟩

set_option maxHeartbeats 1000000 in
theorem tlen_any (bt be g : Nat) (ps S : List Str) (w : World) (hM : TrieM w bt be g ps S) :
    Calls Tryz.prog 26 #[.pointer (some ⟨bt, 0, none⟩)] w fun e w' => e = .returned (.int .i64 S.length) ∧ w' = w := by
  obtain ⟨cap, par, lst, E, hT, hS⟩ := hM.ex
  have c1 : w.cell? ⟨bt, 0, none⟩ = some (.slice (some ⟨g, 0, none⟩) S.length cap) := by rw [cell_of_blk hT.blk]; rfl
  clear hT hS hM
  go_enter Tryz.func26, Tryz.ntmps26
  go_wp2
  go_ret
  exact ⟨rfl, rfl⟩

theorem tmnext_any (bt be g : Nat) (ps S : List Str) (w : World) (hM : TrieM w bt be g ps S) (n : Nat) (b : UInt8) (hn : n < S.length) :
    Calls Tryz.prog 94 #[.pointer (some ⟨bt, 0, none⟩), .int .i64 n, .int .u8 b.toNat] w fun e w' => e = .returned (.int .i64 (nextN S n b)) ∧ Below w.heap.size w w' := by
  have hl := hM.lts
  obtain ⟨cap, par, lst, E, hT, hS⟩ := hM.ex
  have hsl := hS.len
  have c1 : w.cell? ⟨bt, 0, none⟩ = some (.slice (some ⟨g, 0, none⟩) S.length cap) := by rw [cell_of_blk hT.blk]; rfl
  exact next_any bt g cap S par lst (fun k => (failN S k : Nat)) n b w hT.rep hn (by omega) (by omega) (by omega) (owns_lt hT.row hT.rep.pos).2.2 c1 (sts_of_owns hT.row) (fun k _ => rfl)

/-- A state's last byte; the state that it is without. -/
def lastB (S : List Str) (i : Nat) : UInt8 := (at' S i).getLast?.getD 0
def parN (S : List Str) (i : Nat) : Nat := S.idxOf (at' S i).dropLast

theorem rep_par {S : List Str} {par lst : Nat → Int} (h : Rep S par lst) {i : Nat} (h0 : 0 < i) (hi : i < S.length) : par i = (parN S i : Nat) ∧ lst i = ((lastB S i).toNat : Int) := by
  obtain ⟨p, c, e1, hp, e2, e3⟩ := h.kids i h0 hi
  have hpl : p < S.length := by omega
  refine ⟨?_, ?_⟩
  · rw [e1]
    have : parN S i = p := by
      unfold parN
      rw [e3, List.dropLast_concat]
      exact idx_at h.sorted hpl
    rw [this]
  · rw [e2]
    unfold lastB
    rw [e3, List.getLast?_concat]
    rfl

set_option maxHeartbeats 1000000 in
theorem tat_any (bt be g : Nat) (ps S : List Str) (w : World) (hM : TrieM w bt be g ps S) (i : Nat) (h0 : 0 < i) (hi : i < S.length) :
    Calls Tryz.prog 78 #[.pointer (some ⟨bt, 0, none⟩), .int .i64 i] w fun e w' => e = .returned (.agg #[.int .i64 (parN S i : Nat), .int .u8 (lastB S i).toNat, .int .i64 (failN S i : Nat)]) ∧ Below w.heap.size w w' := by
  have hl := hM.lts
  obtain ⟨cap, par, lst, E, hT, hS⟩ := hM.ex
  have hsl := hS.len
  have c1 : w.cell? ⟨bt, 0, none⟩ = some (.slice (some ⟨g, 0, none⟩) S.length cap) := by rw [cell_of_blk hT.blk]; rfl
  have hcap := (owns_lt hT.row hT.rep.pos).2.2
  obtain ⟨s0, s1, s2⟩ := sts_of_owns hT.row i hi
  obtain ⟨r1, r2⟩ := rep_par hT.rep h0 hi
  rw [r1] at s0
  rw [r2] at s1
  clear hT hS hM r1 r2
  have hW : ∀ ob, Below w.heap.size w (w.alloc ob) := fun ob => (Below.refl _ _).alloc (Nat.le_refl _) _
  have HW := hide hW
  have hd := fun ob k => (hW ob).cell (p := ⟨bt, k, none⟩) hl.1
  have he := fun ob k => (hW ob).cell (p := ⟨g, k, none⟩) hl.2.2
  go_enter Tryz.func78, Tryz.ntmps78
  go_wp2
  refine bodyPost_ret (v := .agg #[.int .i64 (parN S i : Nat), .int .u8 (lastB S i).toNat, .int .i64 (failN S i : Nat)]) ?_ rfl ⟨rfl, unhide HW _⟩
  simp only [results, show Tryz.f78.results = #[.cell 4 163] from rfl]
  go_simp
end Go.Proofs.YtibkhphbilfckaaGreatDoor

namespace Go.Proofs.YtibkhphbilfckaaGreatDoor
open Go.RowKit Scour Go.Lib Go.Shelf Go.Sort

theorem incr_ext : ∀ (l r : List Int), l.Pairwise (· < ·) → r.Pairwise (· < ·) → (∀ x, x ∈ l ↔ x ∈ r) → l = r
  | [], [], _, _, _ => rfl
  | [], y :: r, _, _, h => absurd ((h y).2 (by simp)) (by simp)
  | x :: l, [], _, _, h => absurd ((h x).1 (by simp)) (by simp)
  | x :: l, y :: r, hl, hr, h => by
    rw [List.pairwise_cons] at hl hr
    have e : x = y := by
      rcases List.mem_cons.1 ((h x).1 (by simp)) with e | e
      · exact e
      · rcases List.mem_cons.1 ((h y).2 (by simp)) with e2 | e2
        · exact e2.symm
        · have := hr.1 x e; have := hl.1 y e2; omega
    subst e
    rw [incr_ext l r hl.2 hr.2 (fun z => ?_)]
    have hz := h z
    simp only [List.mem_cons] at hz
    constructor
    · intro hm
      rcases hz.1 (Or.inr hm) with e | e
      · have := hl.1 z hm; omega
      · exact e
    · intro hm
      rcases hz.2 (Or.inr hm) with e | e
      · have := hr.1 z hm; omega
      · exact e

theorem compact_incr (d : Array Int) (hs : SortedIn ltInt 0 d.size d) : ∀ m, m ≤ d.size → (compactUpTo d m).Pairwise (· < ·) ∧ (∀ x, x ∈ compactUpTo d m ↔ ∃ j, j < m ∧ d[j]! = x) := by
  have hle : ∀ i j, i ≤ j → j < d.size → d[i]! ≤ d[j]! := by
    intro i j hij hj
    rcases Nat.eq_or_lt_of_le hij with e | e
    · rw [e]; exact Int.le_refl _
    · have := hs i j (Nat.zero_le _) e hj
      simpa [ltInt] using this
  intro m
  induction m with
  | zero => intro _; simp [compactUpTo]
  | succ m ih =>
    intro hm
    obtain ⟨h1, h2⟩ := ih (by omega)
    rw [compactUpTo_succ]
    by_cases hk : keeps d m = true
    · rw [if_pos hk]
      have hlt : ∀ x, x ∈ compactUpTo d m → x < d[m]! := by
        intro x hx
        obtain ⟨j, hj, rfl⟩ := (h2 x).1 hx
        have h3 := hle j (m - 1) (by omega) (by omega)
        have h4 := hle (m - 1) m (by omega) (by omega)
        have h5 : d[m]! ≠ d[m - 1]! := by
          unfold keeps at hk
          have h0 : m ≠ 0 := by omega
          simpa [h0] using hk
        omega
      refine ⟨?_, fun x => ?_⟩
      · rw [List.pairwise_append]
        exact ⟨h1, by simp, fun x hx y hy => by simp at hy; rw [hy]; exact hlt x hx⟩
      · rw [List.mem_append, h2]
        constructor
        · rintro (⟨j, hj, e⟩ | e)
          · exact ⟨j, by omega, e⟩
          · simp at e; exact ⟨m, by omega, e.symm⟩
        · rintro ⟨j, hj, e⟩
          rcases Nat.lt_or_ge j m with g | g
          · exact Or.inl ⟨j, g, e⟩
          · obtain rfl : j = m := by omega
            exact Or.inr (by simp [e])
    · rw [if_neg hk, List.append_nil]
      refine ⟨h1, fun x => ?_⟩
      rw [h2]
      constructor
      · rintro ⟨j, hj, e⟩; exact ⟨j, by omega, e⟩
      · rintro ⟨j, hj, e⟩
        rcases Nat.lt_or_ge j m with g | g
        · exact ⟨j, g, e⟩
        · obtain rfl : j = m := by omega
          unfold keeps at hk
          have h0 : j ≠ 0 := by intro h0; simp [h0] at hk
          have h5 : d[j]! = d[j - 1]! := by simpa [h0] using hk
          exact ⟨j - 1, by omega, by rw [← h5]; exact e⟩

/-- The last bytes of the states 1, 2, .. -/
def lbs (S : List Str) (k : Nat) : List UInt8 := (List.range k).map fun i => lastB S (i + 1)
theorem lbs_len (S : List Str) (k : Nat) : (lbs S k).length = k := by simp [lbs]
theorem lbs_succ (S : List Str) (k : Nat) : lbs S (k + 1) = lbs S k ++ [lastB S (k + 1)] := by simp [lbs, List.range_succ]

def numsU (s : Str) : List Int := s.map fun c => (c.toNat : Int)

theorem occ_mem {ps : List Str} {b : Nat} : occB ps b = true ↔ ∃ i, i < ps.length ∧ ∃ c, c ∈ pat ps i ∧ c.toNat = b := by
  unfold occB
  rw [List.any_eq_true]
  constructor
  · rintro ⟨p, hp, h⟩
    rw [List.any_eq_true] at h
    obtain ⟨c, hc, e⟩ := h
    obtain ⟨i, hi, he⟩ := List.getElem_of_mem hp
    exact ⟨i, hi, c, by simpa [pat, List.getD, hi, he] using hc, by simpa using e⟩
  · rintro ⟨i, hi, c, hc, e⟩
    refine ⟨pat ps i, by simp [pat, List.getD, hi], ?_⟩
    rw [List.any_eq_true]
    exact ⟨c, hc, by simpa using e⟩

theorem lbs_mem {ps S : List Str} {E : Nat → Int} {par lst : Nat → Int} (hR : Rep S par lst) (hS : StatesOf ps S E) (b : Nat) : (∃ c, c ∈ lbs S (S.length - 1) ∧ c.toNat = b) ↔ occB ps b = true := by
  rw [occ_mem]
  constructor
  · rintro ⟨c, hc, rfl⟩
    simp only [lbs, List.mem_map, List.mem_range] at hc
    obtain ⟨j, hj, rfl⟩ := hc
    have hjl : j + 1 < S.length := by omega
    obtain ⟨p, c, _, hp, _, e3⟩ := hR.kids (j + 1) (by omega) hjl
    have hl : lastB S (j + 1) = c := by unfold lastB; rw [e3, List.getLast?_concat]; rfl
    rcases (hS.mem (at' S (j + 1))).1 (at_mem hjl) with e | ⟨i, hi, h1, h2, e⟩
    · rw [e3] at e; simp at e
    · refine ⟨i, hi, c, ?_, by rw [hl]⟩
      have hm : c ∈ at' S (j + 1) := by rw [e3]; simp
      rw [e] at hm
      exact List.mem_of_mem_take hm
  · rintro ⟨i, hi, c, hc, rfl⟩
    obtain ⟨k, hk, he⟩ := List.getElem_of_mem hc
    have hx : (pat ps i).take (k + 1) ∈ S := (hS.mem _).2 (Or.inr ⟨i, hi, by rw [List.length_take]; omega, by rw [List.length_take]; omega, by rw [List.length_take, Nat.min_eq_left (by omega)]⟩)
    have hj := List.idxOf_lt_length_of_mem hx
    have ha := at_idx hx
    generalize S.idxOf ((pat ps i).take (k + 1)) = j at hj ha
    have h0 : j ≠ 0 := by
      rintro rfl
      rw [hR.head] at ha
      have := congrArg List.length ha
      rw [List.length_take] at this
      simp at this
      omega
    refine ⟨lastB S j, ?_, ?_⟩
    · simp only [lbs, List.mem_map, List.mem_range]
      exact ⟨j - 1, by omega, by rw [show j - 1 + 1 = j by omega]⟩
    · unfold lastB
      rw [ha, List.take_succ_eq_append_getElem hk, List.getLast?_concat, he]
      rfl

theorem cls_incr (ps : List Str) : (numsU (clsL ps)).Pairwise (· < ·) ∧ ∀ x, x ∈ numsU (clsL ps) ↔ ∃ b : Nat, occB ps b = true ∧ x = (b : Int) := by
  have hlt : ∀ b, occB ps b = true → b < 256 := fun b h => by
    obtain ⟨i, _, c, _, rfl⟩ := occ_mem.1 h
    exact c.toNat_lt
  have e : numsU (clsL ps) = ((List.range 256).filter (occB ps)).map (fun b : Nat => (b : Int)) := by
    unfold numsU clsL clsTo
    rw [List.map_map]
    apply List.map_congr_left
    intro b hb
    have := (List.mem_filter.1 hb).1
    rw [List.mem_range] at this
    simp only [Function.comp, UInt8.toNat_ofNat']
    rw [Nat.mod_eq_of_lt this]
  rw [e]
  refine ⟨?_, fun x => ?_⟩
  · rw [List.pairwise_map]
    exact ((List.pairwise_lt_range).filter _).imp (fun h => by omega)
  · simp only [List.mem_map, List.mem_filter, List.mem_range]
    constructor
    · rintro ⟨b, ⟨_, h⟩, rfl⟩; exact ⟨b, h, rfl⟩
    · rintro ⟨b, h, rfl⟩; exact ⟨b, ⟨hlt b h, h⟩, rfl⟩

/-- The sorted last bytes, each once, are the classes. -/
theorem cls_of_sorted {ps S : List Str} {E : Nat → Int} {par lst : Nat → Int} (hR : Rep S par lst) (hS : StatesOf ps S E) (d' : Array Int) (n : Nat) (hn : n = S.length - 1) (hz : d'.size = n) (hp : PermIn 0 n (numsU (lbs S n)).toArray d') (hs : SortedIn ltInt 0 n d') :
    compactUpTo d' n = numsU (clsL ps) := by
  subst hn
  rw [← hz] at hs
  obtain ⟨h1, h2⟩ := compact_incr d' hs (S.length - 1) (by omega)
  obtain ⟨k1, k2⟩ := cls_incr ps
  refine incr_ext _ _ h1 k1 (fun x => ?_)
  rw [h2, k2]
  have hpm : ∀ x, (∃ j, j < S.length - 1 ∧ d'[j]! = x) ↔ x ∈ numsU (lbs S (S.length - 1)) := by
    intro x
    have h3 := hp.2.2
    have e1 : d'.extract 0 (S.length - 1) = d' := by rw [← hz]; simp
    have e2 : (numsU (lbs S (S.length - 1))).toArray.extract 0 (S.length - 1) = (numsU (lbs S (S.length - 1))).toArray := by
      have hsz : (numsU (lbs S (S.length - 1))).toArray.size = S.length - 1 := by simp [numsU, lbs]
      generalize (numsU (lbs S (S.length - 1))).toArray = A at hsz
      rw [← hsz]
      simp
    rw [e1, e2] at h3
    have h4 := h3.mem_iff (a := x)
    rw [show (numsU (lbs S (S.length - 1))).toArray.toList = numsU (lbs S (S.length - 1)) from rfl] at h4
    rw [← h4]
    constructor
    · rintro ⟨j, hj, rfl⟩
      have hj2 : j < d'.size := by omega
      rw [getElem!_pos d' j hj2]; simp
    · intro hx
      obtain ⟨j, hj, e⟩ := List.getElem_of_mem hx
      have hj2 : j < d'.size := by simpa using hj
      exact ⟨j, by omega, by rw [getElem!_pos d' j hj2]; simpa using e⟩
  rw [hpm]
  unfold numsU
  rw [List.mem_map]
  constructor
  · rintro ⟨c, hc, rfl⟩
    exact ⟨c.toNat, (lbs_mem hR hS _).1 ⟨c, hc, rfl⟩, rfl⟩
  · rintro ⟨b, hb, rfl⟩
    obtain ⟨c, hc, e⟩ := (lbs_mem hR hS b).2 hb
    exact ⟨c, hc, by rw [e]⟩
end Go.Proofs.YtibkhphbilfckaaGreatDoor
