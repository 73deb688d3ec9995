import Derived.Test.YtfpohfifdfbpkaaGreatDoorCompile
namespace Go.Proofs.YtfpohfifdfbpkaaGreatDoor
open Go.RowKit Scour Go.Lib
def walkN (S : List Str) (s : Nat) (l : Str) : Nat := l.foldl (zO S) s
theorem walkN_snoc (S : List Str) (s : Nat) (l : Str) (c : UInt8) : walkN S s (l ++ [c]) = zO S (walkN S s l) c := by unfold walkN; simp
theorem yV.next_lt {w : World} {bm bt be : Nat} {g : List Nat} {ps S : List Str} (h : yV w bm bt be g ps S) (k : Nat) (b : UInt8) : zO S k b < S.length := by
 obtain ⟨_, _, _, _, _, hT, _⟩ := h.ex
 exact hT.rep.next_lt k b
theorem walkN_lt {S : List Str} (h : ∀ k b, zO S k b < S.length) {s : Nat} (hs : s < S.length) (l : Str) : walkN S s l < S.length := by
 induction l generalizing s with
 | nil => exact hs
 | cons c l ih => exact ih (h s c)
theorem take_snocB (s : ByteArray) (k : Nat) (h : k < s.size) : s.data.toList.take (k + 1) = s.data.toList.take k ++ [s[k]] := by
 rw [List.take_succ_eq_append_getElem (by simpa using h)]; rfl
def pickI (c n : Int) : Int := (if c < 0 then -(c + 1) else c) % n
theorem pickI_lt (c n : Int) (hn : 0 < n) : 0 <= pickI c n /\ pickI c n < n := ⟨Int.emod_nonneg _ (by omega), Int.emod_lt_of_pos _ hn⟩
def ye (w : World) (b : Nat) (s : Str) : Prop := ∃ cur fr, w.heap[b]? = some (.cells cur 5 fr) /\ ∀ j, j < s.length -> cur[j]? = some (.int .u8 (s.getD j 0).toNat)
theorem ye.lt {w : World} {b : Nat} {s : Str} (h : ye w b s) : b < w.heap.size := by
 obtain ⟨cur, fr, h1, _⟩ := h; exact (Array.getElem?_eq_some_iff.1 h1).1
theorem ye.kept {w w' : World} {b : Nat} {s : Str} (h : ye w b s) (hb : w'.heap[b]? = w.heap[b]?) : ye w' b s := by
 obtain ⟨cur, fr, h1, h2⟩ := h; exact ⟨cur, fr, hb.trans h1, h2⟩
theorem ye.bytes {w : World} {b B : Nat} {s : Str} (h : ye w b s) (hB : b < B) : jD w B (some ⟨b, 0, none⟩) s := fun _ => by
 obtain ⟨cur, fr, h1, h2⟩ := h
 exact ⟨b, 0, hB, rfl, fun j hj => by rw [Nat.zero_add]; exact (zC h1 j).trans (h2 j hj)⟩
theorem conv_bytes (T : ByteArray) : ∃ (capf : World -> Nat) (objf : World -> Obj), (∀ W : World, (convert 9 27 (.string T)).run Tryz.prog W = .ok (.slice (some ⟨W.heap.size, 0, none⟩) T.size (capf W)) (W.alloc (objf W)).drew) /\
  ∀ W : World, ye (W.alloc (objf W)).drew W.heap.size T.data.toList := by
 refine ⟨fun W => grownCap W T.size 0 5, fun W => .cells (bytesRow T (grownCap W T.size 0 5)) 5 ((bytesRow T (grownCap W T.size 0 5)).size, (bytesRow T (grownCap W T.size 0 5)).size + 1), fun W => run_bytes_of_string W 9 27 5 T Tryz.underlying9 Tryz.underlying27 Tryz.underlying5, fun W => ?_⟩
 refine ⟨_, _, heap_alloc_new W _, fun j hj => ?_⟩
 have hj' : j < T.data.size := by simpa using hj
 rw [bytesRow_at T _ j hj']
 have : T.data.toList.getD j 0 = T.data[j] := by rw [List.getD_eq_getElem?_getD, Array.getElem?_toList, Array.getElem?_eq_getElem hj']; rfl
 rw [this]
structure Kept (w : World) (base : Nat) (v : Value) (ps : List Str) : Prop where
 ex : ∃ xs, w.ownsRow base 27 1 v ps.length xs /\ ∀ i, i < ps.length -> ∃ b c, xs[i]? = some (.slice (some ⟨b, 0, none⟩) (pat ps i).length c) /\ ye w b (pat ps i)
theorem Kept.nil (w : World) (base : Nat) : Kept w base (.slice none 0 0) [] := ⟨[], World.ownsRow_nil _ _ _ _, fun _ h => absurd h (Nat.not_lt_zero _)⟩
theorem yy {ps qs : List Str} {i : Nat} (h : i < ps.length) : pat (ps ++ qs) i = pat ps i := by
 unfold pat; simp [List.getD, List.getElem?_append_left h]
theorem pat_append_new {ps : List Str} {x : Str} : pat (ps ++ [x]) ps.length = x := by
 unfold pat; simp [List.getD]
theorem bytes_ne_row {w : World} {base n b : Nat} {v : Value} {xs : List Value} {s : Str} (h : w.ownsRow base 27 1 v n xs) (hb : ye w b s) : some b ≠ v.ownBlock := by
 intro e
 rcases h.2 with ⟨rfl, _⟩ | ⟨g, cap, cur, rfl, _, hg, _⟩
 ·cases e
 ·have : b = g := by simpa [Value.ownBlock] using e
  subst this
  obtain ⟨cur', fr, h1, _⟩ := hb
  rw [hg] at h1
  cases h1
theorem Kept.more {w wa w1 : World} {base g' cap' c : Nat} {v : Value} {ps : List Str} {x : Str} (ha : Below w.heap.size w wa) (hx : ye wa w.heap.size x)
  {xs : List Value} (hxs : w.ownsRow base 27 1 v ps.length xs) (hall : ∀ i, i < ps.length -> ∃ b c, xs[i]? = some (.slice (some ⟨b, 0, none⟩) (pat ps i).length c) /\ ye w b (pat ps i))
  (ho : w1.ownsRow base 27 1 (.slice (some ⟨g', 0, none⟩) (ps.length + 1) cap') (ps.length + 1) (xs ++ [.slice (some ⟨w.heap.size, 0, none⟩) x.length c])) (hg : wa.grownBy w1 v.ownBlock) :
  Kept w1 base (.slice (some ⟨g', 0, none⟩) (ps.length + 1) cap') (ps ++ [x]) := by
 have hl : (ps ++ [x]).length = ps.length + 1 := by simp
 have hxl : xs.length = ps.length := by have := hxs.1; omega
 have hrow : wa.ownsRow base 27 1 v ps.length xs := hxs.kept (zM ha none) (by cases v.ownBlock <;> simp)
 refine ⟨xs ++ [.slice (some ⟨w.heap.size, 0, none⟩) x.length c], by rw [hl]; exact ho, ?_⟩
 intro i hi
 rw [hl] at hi
 by_cases e : i = ps.length
 ·subst e
  refine ⟨w.heap.size, c, ?_, ?_⟩
  ·rw [pat_append_new, List.getElem?_append_right (by omega), hxl]; simp
  ·rw [pat_append_new]; exact hx.kept (hg.block _ hx.lt (bytes_ne_row hrow hx))
 ·obtain ⟨b, c', h1, h2⟩ := hall i (by omega)
  refine ⟨b, c', ?_, ?_⟩
  ·rw [yy (by omega), List.getElem?_append_left (by omega)]; exact h1
  ·rw [yy (by omega)]
   have h3 := h2.kept (ha.block b h2.lt)
   exact h3.kept (hg.block _ h3.lt (bytes_ne_row hrow h3))
theorem Kept.pats {w : World} {base : Nat} {v : Value} {ps : List Str} (h : Kept w base v ps) : ∃ ap cap, v = .slice ap ps.length cap /\ yO w w.heap.size ap ps := by
 obtain ⟨xs, hx, hall⟩ := h.ex
 have hx' := hx
 rcases hx.2 with ⟨rfl, h0⟩ | ⟨g, cap, cur, rfl, _, hg, _⟩
 ·exact ⟨none, 0, by rw [h0], fun hp => by omega⟩
 ·refine ⟨some ⟨g, 0, none⟩, cap, rfl, fun _ => ⟨g, 0, (Array.getElem?_eq_some_iff.1 hg).1, rfl, fun i hi => ?_⟩⟩
  obtain ⟨b, c, h1, h2⟩ := hall i hi
  exact ⟨some ⟨b, 0, none⟩, c, by rw [Nat.zero_add, hx'.cellAt i (by omega)]; exact h1, h2.bytes h2.lt⟩
def StrsIn (w : World) (B : Nat) (ap : Option Addr) (len : Nat) (ss : List ByteArray) : Prop :=
 0 < len -> ∃ b o, b < B /\ ap = some ⟨b, o, none⟩ /\ ∀ i, i < len -> w.cell? ⟨b, o + i, none⟩ = some (.string (ss.getD i .empty))
theorem size_list (T : ByteArray) : T.size = T.data.toList.length := by simp
theorem empty_of {s : ByteArray} (h : s.size = 0) : s.toList.isEmpty = true := by rw [ByteArray.toList_eq, List.isEmpty_iff]; exact List.length_eq_zero_iff.1 (by rw [← size_list]; exact h)
theorem empty_not {s : ByteArray} (h : s.size ≠ 0) : s.toList.isEmpty = false := by
 cases g : s.toList.isEmpty with
 | false => rfl
 | true => rw [ByteArray.toList_eq, List.isEmpty_iff] at g; exact absurd (by rw [size_list, g]; rfl) h
theorem idx_inj {S : List Str} {x y : Str} (hx : x ∈ S) (hy : y ∈ S) : S.idxOf x = S.idxOf y ↔ x = y := by
 constructor
 ·intro e; rw [← jV hx, ← jV hy, e]
 ·rintro rfl; rfl
theorem pat_mem {ps S : List Str} {E : Nat -> Int} (h : zm ps S E) {i : Nat} (hi : i < ps.length) (h0 : 0 < (pat ps i).length) : pat ps i ∈ S :=
 (h.mem _).2 (Or.inr ⟨i, hi, h0, Nat.le_refl _, by rw [List.take_length]⟩)
theorem states_short {ps S : List Str} {E : Nat -> Int} (h : zm ps S E) {m : Nat} (hm : ∀ i, i < ps.length -> (pat ps i).length <= m) : ∀ y ∈ S, y.length <= m := by
 intro y hy
 rcases (h.mem y).1 hy with e | ⟨i, h1, _, h3, _⟩
 ·rw [e]; simp
 ·have := hm i h1; omega
/-! ### How many states there may be -/
theorem nodup_le : ∀ (S T : List Str), S.Nodup -> (∀ x ∈ S, x ∈ T) -> S.length <= T.length
 | [], _, _, _ => Nat.zero_le _
 | a :: S, T, hn, hs => by
   have ha := hs a List.mem_cons_self
   have hn' := List.nodup_cons.1 hn
   have := nodup_le S (T.erase a) hn'.2 (fun x hx => by
    have hne : x ≠ a := fun e => hn'.1 (e ▸ hx)
    exact (List.mem_erase_of_ne hne).2 (hs x (List.mem_cons_of_mem _ hx)))
   rw [List.length_erase_of_mem ha] at this
   have hp := List.length_pos_of_mem ha
   simp
   omega
def txt (ps : List Str) (i : Nat) : ByteArray := ⟨(pat ps i).toArray⟩
theorem conv_back {W : World} {b o c : Nat} {s : Str} (h : ∀ j, j < s.length -> W.cell? ⟨b, o + j, none⟩ = some (.int .u8 (s.getD j 0).toNat)) :
  (convert 27 9 (.slice (some ⟨b, o, none⟩) s.length c)).run Tryz.prog W = .ok (.string ⟨s.toArray⟩) W :=
 run_convert_bytes_back W 27 9 5 ⟨b, o, none⟩ c s Tryz.underlying27 Tryz.underlying5 Tryz.underlying9 (fun j hj => by rw [zg, h j hj]; simp [List.getD, hj])
theorem txt_same {ps : List Str} {i j : Nat} : ((txt ps i).toList == (txt ps j).toList) = (pat ps i == pat ps j) := by
 rw [ByteArray.toList_eq, ByteArray.toList_eq]; rfl
end Go.Proofs.YtfpohfifdfbpkaaGreatDoor
namespace Go.Proofs.YtfpohfifdfbpkaaGreatDoor
open Go.RowKit Scour Go.Lib
def mostK (ps : List Str) : Nat -> Nat
 | 0 => 1
 | k + 1 => mostK ps k + (pat ps k).length
def begins (ps : List Str) : Nat -> List Str
 | 0 => [[]]
 | k + 1 => begins ps k ++ (List.range (pat ps k).length).map fun j => (pat ps k).take (j + 1)
theorem begins_len (ps : List Str) (k : Nat) : (begins ps k).length = mostK ps k := by
 induction k with
 | zero => rfl
 | succ k ih => simp [begins, mostK, ih]
theorem begins_nil (ps : List Str) (k : Nat) : [] ∈ begins ps k := by
 induction k with
 | zero => simp [begins]
 | succ k ih => simp [begins, ih]
theorem begins_mem (ps : List Str) (k i n : Nat) (hi : i < k) (h1 : 1 <= n) (h2 : n <= (pat ps i).length) : (pat ps i).take n ∈ begins ps k := by
 induction k with
 | zero => omega
 | succ k ih =>
   unfold begins
   rw [List.mem_append]
   by_cases e : i = k
   ·subst e
    right
    exact List.mem_map.2 ⟨n - 1, by simp; omega, by rw [show n - 1 + 1 = n by omega]⟩
   ·exact Or.inl (ih (by omega))
theorem states_le {ps S : List Str} {E : Nat -> Int} {par lst : Nat -> Int} (h : zm ps S E) (hR : Rep S par lst) : S.length <= mostK ps ps.length := by
 rw [← begins_len]
 refine nodup_le S _ ?_ ?_
 ·exact hR.sorted.imp (fun hab e => by subst e; exact jF _ hab)
 ·intro x hx
  rcases (h.mem x).1 hx with e | ⟨i, h1, h2, h3, h4⟩
  ·rw [e]; exact begins_nil _ _
  ·rw [h4]; exact begins_mem ps ps.length i x.length h1 h2 h3
theorem mostK_le {ps : List Str} {m : Nat} (h : ∀ i, i < ps.length -> (pat ps i).length <= m) : ∀ k, k <= ps.length -> mostK ps k <= 1 + m * k
 | 0, _ => by simp [mostK]
 | k + 1, hk => by
   have := mostK_le h k (by omega)
   have := h k (by omega)
   rw [mostK, Nat.mul_succ]
   omega
theorem chkFrom_total : ∀ (ps : List Str) (r : List Str) (i t : Nat), (zr r i t).1 = 0 -> (∀ k, k < r.length -> pat ps (i + k) = pat r k) -> mostK ps i = t + 1 -> mostK ps (i + r.length) <= 513
 | ps, [], i, t, h, _, e => by
   unfold zr at h
   split at h
   ·cases h
   ·simp only [List.length_nil, Nat.add_zero]; omega
 | ps, p :: r, i, t, h, hp, e => by
   unfold zr at h
   split at h
   ·cases h
   ·split at h
    ·cases h
    ·have h0 : pat ps i = p := hp 0 (by simp)
     have := chkFrom_total ps r (i + 1) (t + p.length) h (fun k hk => by
      have := hp (k + 1) (by simp; omega)
      rw [show i + 1 + k = i + (k + 1) by omega, this]
      rfl) (by rw [mostK, h0, e]; omega)
     rw [List.length_cons, show i + (r.length + 1) = i + 1 + r.length by omega]
     exact this
theorem chk_total {ps : List Str} (h : (chk ps).1 = 0) : mostK ps ps.length <= 513 := by
 unfold chk at h
 split at h
 ·cases h
 ·have := chkFrom_total ps ps 0 0 h (fun k _ => by rw [Nat.zero_add]) rfl
  rwa [Nat.zero_add] at this
theorem sorted_eq : ∀ (S T : List Str), S.Pairwise slt -> T.Pairwise slt -> (∀ x, x ∈ S ↔ x ∈ T) -> S = T
 | [], [], _, _, _ => rfl
 | [], t :: T, _, _, h => by have := (h t).2 List.mem_cons_self; cases this
 | s :: S, [], _, _, h => by have := (h s).1 List.mem_cons_self; cases this
 | s :: S, t :: T, hs, ht, h => by
   rw [List.pairwise_cons] at hs ht
   have hst : s = t := by
    have h1 := (h s).1 List.mem_cons_self
    have h2 := (h t).2 List.mem_cons_self
    rcases List.mem_cons.1 h1 with e | e
    ·exact e
    ·rcases List.mem_cons.1 h2 with e' | e'
     ·exact e'.symm
     ·exact absurd (slt_trans (ht.1 s e) (hs.1 t e')) (jF _)
   subst hst
   congr 1
   refine sorted_eq S T hs.2 ht.2 (fun x => ?_)
   constructor
   ·intro hx
    rcases List.mem_cons.1 ((h x).1 (List.mem_cons_of_mem _ hx)) with e | e
    ·subst e; exact absurd (hs.1 x hx) (jF _)
    ·exact e
   ·intro hx
    rcases List.mem_cons.1 ((h x).2 (List.mem_cons_of_mem _ hx)) with e | e
    ·subst e; exact absurd (ht.1 x hx) (jF _)
    ·exact e
end Go.Proofs.YtfpohfifdfbpkaaGreatDoor
