import Derived.Test.YtmmmhmdjcpajgaaCheck
namespace Go.Proofs.Ytmmmhmdjcpajgaa
open Go.RowKit Scour

theorem chkFrom_ok : ∀ (r : List Str) (i t : Nat), (chkFrom r i t).1 = 0 → (∀ p ∈ r, 0 < p.length ∧ p.length ≤ 64) ∧ (chkFrom r i t).2 = 0
  | [], i, t, h => by
    unfold chkFrom at h ⊢
    split at h
    · cases h
    · rename_i h'; rw [if_neg h']; exact ⟨fun p hp => absurd hp List.not_mem_nil, rfl⟩
  | p :: r, i, t, h => by
    unfold chkFrom at h ⊢
    split at h
    · cases h
    · rename_i h0
      split at h
      · cases h
      · rename_i h1
        rw [if_neg h0, if_neg h1]
        obtain ⟨a, b⟩ := chkFrom_ok r (i + 1) (t + p.length) h
        refine ⟨fun q hq => ?_, b⟩
        rcases List.mem_cons.1 hq with rfl | hq
        · omega
        · exact a q hq

theorem chk_ok {ps : List Str} (h : (chk ps).1 = 0) : ps.length ≤ 64 ∧ (∀ i, i < ps.length → 0 < (pat ps i).length ∧ (pat ps i).length ≤ 64) ∧ chk ps = (0, 0) := by
  unfold chk at h ⊢
  split at h
  · cases h
  · rename_i h'
    rw [if_neg h']
    obtain ⟨a, b⟩ := chkFrom_ok ps 0 0 h
    refine ⟨by omega, fun i hi => a _ (by simp [pat, List.getD, hi]), ?_⟩
    exact Prod.ext h b

theorem owns_zero {w : World} {base e s n : Nat} {v : Value} {xs : List Value} (h : w.ownsRow base e s v n xs) : w.ownsRow 0 e s v n xs := by
  refine ⟨h.1, ?_⟩
  rcases h.2 with k | ⟨g, cap, cur, h1, _, h3⟩
  · exact Or.inl k
  · exact Or.inr ⟨g, cap, cur, h1, Nat.zero_le _, h3⟩

theorem Trie.zero {w : World} {base bt be m g cap : Nat} {S : List Str} {par lst fl E : Nat → Int} (h : Trie w base bt be m g cap S par lst fl E) : Trie w 0 bt be m g cap S par lst fl E :=
  ⟨h.blk, owns_zero h.row, owns_zero h.ends, h.rep, h.ne⟩

theorem owns_same {w w' : World} {base e s g n cap : Nat} {xs : List Value} (h : w.ownsRow base e s (.slice (some ⟨g, 0, none⟩) n cap) n xs) (hb : w'.heap[g]? = w.heap[g]?) : w'.ownsRow base e s (.slice (some ⟨g, 0, none⟩) n cap) n xs := by
  refine ⟨h.1, ?_⟩
  rcases h.2 with ⟨hv, _⟩ | ⟨g', cap', cur, hv, h2, h3, h4⟩
  · cases hv
  · right
    refine ⟨g', cap', cur, hv, h2, ?_, h4⟩
    simp only [Value.slice.injEq, Option.some.injEq, Addr.mk.injEq, and_true, true_and] at hv
    obtain ⟨rfl, rfl⟩ := hv
    exact hb.trans h3

theorem owns_base {w : World} {base e s g n cap : Nat} {xs : List Value} (h : w.ownsRow base e s (.slice (some ⟨g, 0, none⟩) n cap) n xs) : base ≤ g := by
  rcases h.2 with ⟨hv, _⟩ | ⟨g', cap', cur, hv, h2, _⟩
  · cases hv
  · simp only [Value.slice.injEq, Option.some.injEq, Addr.mk.injEq, and_true, true_and] at hv
    obtain ⟨rfl, rfl⟩ := hv
    exact h2

/-- A machine in memory: its block, its trie's, and the two rows. -/
structure Mach (w : World) (bm bt be g : Nat) (ps S : List Str) : Prop where
  blk : w.heap[bm]? = some (.cells #[.pointer (some ⟨bt, 0, none⟩)] 60 (0, 0))
  ex : ∃ cap par lst E, Trie w 0 bt be ps.length g cap S par lst (fun k => (failN S k : Nat)) E ∧ StatesOf ps S E
  lt : be < w.heap.size

theorem Mach.same {w w' : World} {bm bt be g : Nat} {ps S : List Str} (h : Mach w bm bt be g ps S) (hs : w.heap.size ≤ w'.heap.size) (hb : ∀ k, k = bm ∨ k = bt ∨ k = be ∨ k = g → w'.heap[k]? = w.heap[k]?) : Mach w' bm bt be g ps S := by
  obtain ⟨cap, par, lst, E, hT, hS⟩ := h.ex
  exact ⟨(hb bm (Or.inl rfl)).trans h.blk, ⟨cap, par, lst, E, ⟨(hb bt (Or.inr (Or.inl rfl))).trans hT.blk, owns_same hT.row (hb g (Or.inr (Or.inr (Or.inr rfl)))), owns_same hT.ends (hb be (Or.inr (Or.inr (Or.inl rfl)))), hT.rep, hT.ne⟩, hS⟩, Nat.lt_of_lt_of_le h.lt hs⟩

theorem Mach.lts {w : World} {bm bt be g : Nat} {ps S : List Str} (h : Mach w bm bt be g ps S) : bm < w.heap.size ∧ bt < w.heap.size ∧ be < w.heap.size ∧ g < w.heap.size := by
  obtain ⟨cap, par, lst, E, hT, _⟩ := h.ex
  exact ⟨(Array.getElem?_eq_some_iff.1 h.blk).1, (Array.getElem?_eq_some_iff.1 hT.blk).1, h.lt, (owns_lt hT.row hT.rep.pos).2.1⟩

theorem Mach.below {w w' : World} {bm bt be g : Nat} {ps S : List Str} (h : Mach w bm bt be g ps S) (hb : Below w.heap.size w w') : Mach w' bm bt be g ps S := by
  have hl := h.lts
  exact h.same hb.size (fun k hk => hb.block k (by omega))

set_option maxHeartbeats 1000000 in
theorem compile_ok (ap : Option Addr) (cp : Nat) (ps : List Str) (w : World) (hP : PatsIn w w.heap.size ap ps) (hc : (chk ps).1 = 0) :
    Calls Try.prog 18 #[.slice ap ps.length cp] w fun e w' => ∃ (bm bt be g : Nat) (S : List Str), e = .returned (.tuple #[.pointer (some ⟨bm, 0, none⟩), .int .i64 0, .int .i64 0]) ∧ Mach w' bm bt be g ps S ∧ (w.heap.size ≤ bm ∧ w.heap.size ≤ bt ∧ w.heap.size ≤ be ∧ w.heap.size ≤ g) ∧ Below w.heap.size w w' := by
  obtain ⟨h64, hlen, hch⟩ := chk_ok hc
  have hck := check_any ap cp w.heap.size ps w hP (by omega) (fun i hi => by have := hlen i hi; omega)
  rw [hch] at hck
  have HK := hide hck
  have HN := hide (new_any ap cp ps w hP (fun i hi => (hlen i hi).1) h64 (fun i hi => (hlen i hi).2))
  clear hP hc hlen hch hck
  go_enter Try.func18, Try.ntmps18
  go_wp2_with (first | (go_at_call 28; refine (unhide HK).mono ?_; rintro e w' ⟨rfl, rfl⟩) | (go_at_call 29; refine (unhide HN).mono ?_; rintro e w2 ⟨bt, be, g, cap, par, lst, E, S, rfl, hT, hS, hlt, hbtw, hbl⟩; have HT := hide hT; have HS := hide hS; have HB := hide hbl; clear hT hS hbl))
  go_ret3
  have hT := unhide HT
  have hbl := unhide HB
  have hgl := owns_lt hT.row hT.rep.pos
  have hbt : bt < w2.heap.size := (Array.getElem?_eq_some_iff.1 hT.blk).1
  have h5 : Below w2.heap.size w2 (w2.alloc (.cells #[.pointer (some ⟨bt, 0, none⟩)] 60)) := (Below.refl _ _).alloc (Nat.le_refl _) _
  have hsz := hbl.size
  have hm : Mach (w2.alloc (.cells #[.pointer (some ⟨bt, 0, none⟩)] 60)) w2.heap.size bt be g ps S :=
    ⟨heap_alloc_new w2 _, ⟨cap, par, lst, E, (hT.zero).kept h5, unhide HS⟩, by simp; omega⟩
  exact ⟨w2.heap.size, bt, be, g, S, rfl, hm, ⟨hsz, by omega, owns_base hT.ends, hgl.1⟩, hbl.trans (h5.mono hsz)⟩
end Go.Proofs.Ytmmmhmdjcpajgaa
