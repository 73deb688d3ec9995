import Derived.Test.YtibkhphbilfckaaGreatDoorPkI
namespace Go.Proofs.YtibkhphbilfckaaGreatDoor
open Go.RowKit Scour Go.Lib Go.Shelf

theorem first_free (f : Nat → Bool) : ∀ n, f n = true → ∃ a, a ≤ n ∧ f a = true ∧ ∀ i, i < a → f i = false := by
  intro n
  induction n using Nat.strongRecOn with
  | ind n ih =>
    intro h
    by_cases hx : ∃ i, i < n ∧ f i = true
    · obtain ⟨i, hi, hf⟩ := hx
      obtain ⟨a, h1, h2, h3⟩ := ih i hi hf
      exact ⟨a, by omega, h2, h3⟩
    · refine ⟨n, Nat.le_refl _, h, fun i hi => ?_⟩
      cases hf : f i with
      | false => rfl
      | true => exact absurd ⟨i, hi, hf⟩ hx

theorem offOf_spec (cl : List (Int × Int)) (l : List (Nat × Nat)) : offOf cl l ≤ cl.length ∧ freeB cl l (offOf cl l) = true ∧ ∀ i, i < offOf cl l → freeB cl l i = false := by
  obtain ⟨a, h1, h2, h3⟩ := first_free (freeB cl l) cl.length free_end
  rw [offOf_eq h1 h2 h3]
  exact ⟨h1, h2, h3⟩

theorem Tab.offs {w : World} {bp : Nat} {vC vO vX : Value} {c : Str} {n : Nat} {o : Nat → Int} {cl : List (Int × Int)} (h : Tab w bp vC vO vX c n o cl) {s : Nat} (hs : s < n) :
    ∃ gO cO, vO = .slice (some ⟨gO, 0, none⟩) n cO ∧ gO ≠ bp ∧ w.cell? ⟨gO, s, none⟩ = some (.int .i64 (o s)) ∧ w.frozen? ⟨gO, s, none⟩ = false ∧ (∀ cur, w.heap[gO]? = some (.cells cur 159 (0, 0)) → False) ∧ (∀ a : Int, Tab (w.setCell ⟨gO, s, none⟩ (.int .i64 a)) bp vC vO vX c n (upd o s a) cl ∧ Mod (tabP bp vO vX) w (w.setCell ⟨gO, s, none⟩ (.int .i64 a))) := by
  have ho := h.off
  rcases ho.2 with ⟨_, hn⟩ | ⟨gO, cO, cur, rfl, _⟩
  · omega
  · obtain ⟨cur, hcur⟩ := owns_blk ho
    have hnb : gO ≠ bp := two_types hcur h.blk (by decide)
    refine ⟨gO, cO, rfl, hnb, by rw [ho.cellAt s (by omega), intsF_get _ _ _ hs], ho.frozenAt s, fun cu hcu => two_types hcur hcu (by decide) rfl, fun a => ⟨⟨?_, ?_, ?_, ?_⟩, ?_⟩⟩
    · rw [Below.heap_setCell w _ _ bp (fun e => hnb e.symm)]; exact h.blk
    · refine owns_kept h.cls (fun b _ hv => Below.heap_setCell w _ _ b (fun e => ?_))
      obtain ⟨c2, hc2⟩ := owns_block h.cls hv
      exact two_types hc2 hcur (by decide) e
    · have := (ho.stored s (.int .i64 a)).1
      rw [intsF_set] at this
      exact this
    · refine owns_kept h.cel (fun b _ hv => Below.heap_setCell w _ _ b (fun e => ?_))
      obtain ⟨c2, hc2⟩ := owns_block h.cel hv
      exact two_types hc2 hcur (by decide) e
    · exact (Mod.setCell w gO s (.int .i64 a)).imp (fun k e => Or.inr (Or.inl (by rw [e]; rfl)))

/-- Blocks of other types than the table's are not the table's. -/
theorem Tab.notP {w : World} {bp : Nat} {vC vO vX : Value} {c : Str} {n : Nat} {o : Nat → Int} {cl : List (Int × Int)} (h : Tab w bp vC vO vX c n o cl) {k e : Nat} {cur : Array Value} (hk : w.heap[k]? = some (.cells cur e (0, 0))) (h1 : e ≠ 99) (h2 : e ≠ 3) (h3 : e ≠ 167) : ¬ tabP bp vO vX k := by
  rintro (g | g | g)
  · exact two_types hk h.blk h1 g
  · obtain ⟨c2, hc2⟩ := owns_block h.off g
    exact two_types hk hc2 h2 rfl
  · obtain ⟨c2, hc2⟩ := owns_block h.cel g
    exact two_types hk hc2 h3 rfl

theorem TInv.keep {w wr w2 : World} {bp : Nat} {vC vO vX vX' : Value} {c : Str} {n : Nat} {o o2 : Nat → Int} {cl cl2 : List (Int × Int)} (h : TInv w w2 bp vC vO vX c n o2 vX' cl2) (hT : Tab w bp vC vO vX c n o cl) (_hw : wr = w) {k e : Nat} {cur : Array Value} (hk : w.heap[k]? = some (.cells cur e (0, 0))) (h1 : e ≠ 99) (h2 : e ≠ 3) (h3 : e ≠ 167) : w2.heap[k]? = some (.cells cur e (0, 0)) :=
  (h.mod.out k (Array.getElem?_eq_some_iff.1 hk).1 (hT.notP hk h1 h2 h3)).trans hk

set_option maxHeartbeats 16000000 in
set_option maxRecDepth 100000 in
theorem lay_any (bp : Nat) (vC vO vX : Value) (c : Str) (n : Nat) (o : Nat → Int) (cl : List (Int × Int)) (w : World) (hT : Tab w bp vC vO vX c n o cl) (hC : COK cl) (hcl : cl.length < 90000000) (s ge m ce : Nat) (l : List (Nat × Nat)) (hm : l.length = m) (hE : w.ownsRow 0 210 2 (.slice (some ⟨ge, 0, none⟩) m ce) m (encP l)) (hl : ∀ p, p ∈ l → p.1 < 1000) (hm2 : m ≤ 256) (hs : s < n) (_hs2 : n < 10000) :
    Calls Tryz.prog 75 #[.pointer (some ⟨bp, 0, none⟩), .agg #[.int .i64 (s : Nat), .slice (some ⟨ge, 0, none⟩) m ce]] w fun e w' => e = .returned (.tuple #[]) ∧ ∃ vX', Hid (TInv w w' bp vC vO vX c n (upd o s (offOf cl l : Nat)) vX' (lay cl s l (offOf cl l))) := by
  obtain ⟨A, hA⟩ : ∃ A, offOf cl l = A := ⟨_, rfl⟩
  obtain ⟨o1, o2, o3⟩ := offOf_spec cl l
  rw [hA] at o1 o2 o3 ⊢
  clear hA
  have HB0 : Hid (Below w.heap.size w (w.alloc (.cells #[.int .i64 (s : Nat), .slice (some ⟨ge, 0, none⟩) m ce] 159))) := hide ((Below.refl _ _).alloc (Nat.le_refl _) _)
  have HX0 : Hid ((w.alloc (.cells #[.int .i64 (s : Nat), .slice (some ⟨ge, 0, none⟩) m ce] 159)).heap[w.heap.size]? = some (.cells #[.int .i64 (s : Nat), .slice (some ⟨ge, 0, none⟩) m ce] 159 (0, 0))) := hide (heap_alloc_new w _)
  have HT := hide hT
  have HC := hide hC
  have HE := hide hE
  have HO3 := hide o3
  have HO2 := hide o2
  have HL := hide hl
  have HM := hide hm
  obtain ⟨hb, hhb⟩ : ∃ hb, hb = w.heap.size := ⟨_, rfl⟩
  rw [← hhb] at HX0
  clear hT hC hE o2 o3 hl hm
  go_enter Tryz.func75, Tryz.ntmps75
  go_wp2
  rw [← hhb]
  have hhl : hb = w.heap.size → True := fun _ => trivial
  have HHB := hide hhb
  clear hhb hhl
  generalize w.alloc (.cells #[.int .i64 (s : Nat), .slice (some ⟨ge, 0, none⟩) m ce] 159) = w1 at *
  have HB1 := HB0
  have hbl : hb < w1.heap.size := (Array.getElem?_eq_some_iff.1 (unhide HX0)).1
  go_loopw [4] (fun v wr => ∃ a : Nat, v = .int .i64 a ∧ a ≤ A ∧ Hid (Below w1.heap.size w1 wr)) (fun v _ => A - (intOf v).toNat)
  case atStart => exact ⟨0, rfl, Nat.zero_le _, hide (Below.refl _ _)⟩
  case round =>
    obtain ⟨a, rfl, ha, HBr⟩ := hrel
    have HBw : Hid (Below w.heap.size w wr) := hide ((unhide HB1).trans ((unhide HBr).mono (unhide HB1).size))
    have HXr : Hid (wr.heap[hb]? = some (.cells #[.int .i64 (s : Nat), .slice (some ⟨ge, 0, none⟩) m ce] 159 (0, 0))) := hide (((unhide HBr).block hb hbl).trans (unhide HX0))
    have b1 : wr.cell? ⟨hb, 0, none⟩ = some (.int .i64 (s : Nat)) := by rw [cell_of_blk (unhide HXr)]; rfl
    have b2 : wr.cell? ⟨hb, 1, none⟩ = some (.slice (some ⟨ge, 0, none⟩) m ce) := by rw [cell_of_blk (unhide HXr)]; rfl
    have HF : Hid (Calls Tryz.prog 110 #[.pointer (some ⟨bp, 0, none⟩), .agg #[.int .i64 (s : Nat), .slice (some ⟨ge, 0, none⟩) m ce], .int .i64 a] wr fun e w' => e = .returned (.bool (freeB cl l a)) ∧ Below wr.heap.size wr w') := hide (fits_any bp vC vO vX c n o cl wr ((unhide HT).below (unhide HBw)) (unhide HC) s ge m ce a l (unhide HM) (owns_kept (unhide HE) (fun b hl _ => (unhide HBw).block b hl)) (unhide HL) hm2 (by omega))
    by_cases haA : a < A
    · rw [unhide HO3 a haA] at HF
      go_wp2_with (go_at_call 110; refine (unhide HF).mono ?_; rintro e w2 ⟨rfl, hb2⟩; have HB2 := hide hb2; clear hb2)
      go_roundw
      case rel => exact ⟨a + 1, by go_num, by omega, hide ((unhide HBr).trans ((unhide HB2).mono (unhide HBr).size))⟩
      case measure => simp [intOf]; omega
    · obtain rfl : a = A := by omega
      rw [unhide HO2] at HF
      go_wp2_with (go_at_call 110; refine (unhide HF).mono ?_; rintro e w2 ⟨rfl, hb2⟩; have HB2 := hide hb2; clear hb2)
      have HBw2 : Hid (Below w.heap.size w w2) := hide ((unhide HBw).trans ((unhide HB2).mono (unhide HBw).size))
      have HX2 : Hid (w2.heap[hb]? = some (.cells #[.int .i64 (s : Nat), .slice (some ⟨ge, 0, none⟩) m ce] 159 (0, 0))) := hide (((unhide HB2).block hb (Array.getElem?_eq_some_iff.1 (unhide HXr)).1).trans (unhide HXr))
      have HT2 := hide ((unhide HT).below (unhide HBw2))
      have HI2 := hide ((TInv.start (unhide HT)).below (unhide HBw2))
      have HE2 := hide (owns_kept (w' := w2) (unhide HE) (fun b hl _ => (unhide HBw2).block b hl))
      obtain ⟨gO, cO, hvO, n1, v1, fz1, n2, hset⟩ := (unhide HT2).offs hs
      subst hvO
      have c1 : w2.cell? ⟨bp, 1, none⟩ = some (.slice (some ⟨gO, 0, none⟩) n cO) := by rw [cell_of_blk (unhide HT2).blk]; rfl
      have b3 : w2.cell? ⟨hb, 0, none⟩ = some (.int .i64 (s : Nat)) := by rw [cell_of_blk (unhide HX2)]; rfl
      have n3 : gO ≠ hb := fun e => n2 _ (by rw [e]; exact unhide HX2)
      have HI3 : Hid (∀ q, TInv w ((w2.setCell ⟨gO, s, none⟩ (.int .i64 (a : Nat))).drewN q) bp vC (.slice (some ⟨gO, 0, none⟩) n cO) vX c n (upd o s (a : Nat)) vX cl) := hide fun q => ((unhide HI2).step (hset (a : Nat)).1 (hset (a : Nat)).2 (Or.inl rfl)).below (below_drewN (Below.refl _ _) q)
      have HX3 : Hid (∀ q, ((w2.setCell ⟨gO, s, none⟩ (.int .i64 (a : Nat))).drewN q).heap[hb]? = some (.cells #[.int .i64 (s : Nat), .slice (some ⟨ge, 0, none⟩) m ce] 159 (0, 0))) := hide fun q => (Below.heap_setCell w2 ⟨gO, s, none⟩ _ hb (fun e => n3 e.symm)).trans (unhide HX2)
      have HE3 : Hid (∀ q, ((w2.setCell ⟨gO, s, none⟩ (.int .i64 (a : Nat))).drewN q).ownsRow 0 210 2 (.slice (some ⟨ge, 0, none⟩) m ce) m (encP l)) := hide fun q => by
        obtain ⟨cu, hcu⟩ := owns_blk (unhide HE2)
        exact owns_kept (unhide HE2) (fun b hl hv => by
          have : ge = b := by simpa [Value.ownBlock] using hv
          subst this
          exact (hset (a : Nat)).2.out ge hl ((unhide HT2).notP hcu (by decide) (by decide) (by decide)))
      have b4 : w2.cell? ⟨hb, 1, none⟩ = some (.slice (some ⟨ge, 0, none⟩) m ce) := by rw [cell_of_blk (unhide HX2)]; rfl
      have i1 : (s : Int) < (n : Int) := by omega
      clear hset n2 b1 b2 HI2 HT2 HE2
      go_region
      go_wp2
      have HI4 : Hid (TInv w (w2.setCell ⟨gO, s, none⟩ (.int .i64 (a : Nat))).drew bp vC (.slice (some ⟨gO, 0, none⟩) n cO) vX c n (upd o s (a : Nat)) vX cl) := hide (unhide HI3 1)
      have HX4 : Hid ((w2.setCell ⟨gO, s, none⟩ (.int .i64 (a : Nat))).drew.heap[hb]? = some (.cells #[.int .i64 (s : Nat), .slice (some ⟨ge, 0, none⟩) m ce] 159 (0, 0))) := hide (unhide HX3 1)
      have HE4 : Hid ((w2.setCell ⟨gO, s, none⟩ (.int .i64 (a : Nat))).drew.ownsRow 0 210 2 (.slice (some ⟨ge, 0, none⟩) m ce) m (encP l)) := hide (unhide HE3 1)
      clear HI3 HX3 HE3 c1 b3 b4 v1 fz1
      generalize (w2.setCell ⟨gO, s, none⟩ (.int .i64 (a : Nat))).drew = w4 at *
      go_loopw [25] (fun v wr => ∃ (j : Nat) (vX' : Value), v = .int .i64 j ∧ j ≤ m ∧ Hid (TInv w wr bp vC (.slice (some ⟨gO, 0, none⟩) n cO) vX c n (upd o s (a : Nat)) vX' (lay cl s (l.take j) a)) ∧ Hid (wr.heap[hb]? = some (.cells #[.int .i64 (s : Nat), .slice (some ⟨ge, 0, none⟩) m ce] 159 (0, 0))) ∧ Hid (wr.ownsRow 0 210 2 (.slice (some ⟨ge, 0, none⟩) m ce) m (encP l))) (fun v _ => m - (intOf v).toNat)
      case atStart => exact ⟨0, vX, rfl, Nat.zero_le _, HI4, HX4, HE4⟩
      case round =>
        clear HI4 HX4 HE4
        obtain ⟨j, vX5, rfl, hj, HI, HX, HEE⟩ := hrel
        by_cases hjm : j < m
        · obtain ⟨e1, e2⟩ := encPs_get (unhide HEE) (unhide HM) j hjm
          have hjl : j < l.length := by rw [unhide HM]; exact hjm
          have hpm : l.getD j (0, 0) ∈ l := by simp [List.getD, hjl]
          have hx := unhide HL _ hpm
          have HLT : Hid (lay cl s (l.take (j + 1)) a = layOne s a (lay cl s (l.take j) a) (l.getD j (0, 0))) := hide (lay_take (by simp [List.getD, hjl]))
          have hll := lay_len (cl := cl) (s := s) (a := a) (l.take j) (fun p hp => unhide HL p (List.mem_of_mem_take hp))
          generalize l.getD j (0, 0) = p at *
          obtain ⟨x, y⟩ := p
          simp only [] at e1 e2 hx
          obtain ⟨t, ht⟩ : ∃ t, t = a + x := ⟨_, rfl⟩
          have hti : (a : Int) + (x : Int) = (t : Int) := by omega
          have HLO : Hid (lay cl s (l.take (j + 1)) a = (padC (lay cl s (l.take j) a) t).set t ((s : Int), (y : Int))) := hide (by rw [unhide HLT, layOne, ht])
          have htb : t < 100000000 := by omega
          clear hpm HLT ht
          generalize lay cl s (l.take j) a = clj at *
          have hW : ∀ ob, Below wr.heap.size wr (wr.alloc ob) := fun ob => (Below.refl _ _).alloc (Nat.le_refl _) _
          have hhw : hb < wr.heap.size := (Array.getElem?_eq_some_iff.1 (unhide HX)).1
          have b1 : ∀ ob, (wr.alloc ob).cell? ⟨hb, 0, none⟩ = some (.int .i64 (s : Nat)) := fun ob => by rw [cell_of_blk (((hW ob).block hb hhw).trans (unhide HX))]; rfl
          have HTK : Hid (∀ ob, Calls Tryz.prog 111 #[.pointer (some ⟨bp, 0, none⟩), .int .i64 t, .agg #[.int .i64 (s : Nat), .int .i64 (y : Nat)]] (wr.alloc ob) fun e w' => e = .returned (.tuple #[]) ∧ ∃ vX', Hid (TInv w w' bp vC (.slice (some ⟨gO, 0, none⟩) n cO) vX c n (upd o s (a : Nat)) vX' (lay cl s (l.take (j + 1)) a)) ∧ Hid (w'.heap[hb]? = some (.cells #[.int .i64 (s : Nat), .slice (some ⟨ge, 0, none⟩) m ce] 159 (0, 0))) ∧ Hid (w'.ownsRow 0 210 2 (.slice (some ⟨ge, 0, none⟩) m ce) m (encP l))) := hide (by
            intro ob
            have hTo := (unhide HI).tab.below (hW ob)
            refine (take_any bp vC _ vX5 c n _ clj (wr.alloc ob) hTo (by omega) t s y htb).mono ?_
            rintro e w' ⟨rfl, vX6, H6⟩
            refine ⟨rfl, vX6, hide ?_, hide ?_, hide ?_⟩
            · rw [unhide HLO]
              exact ((unhide HI).below (hW ob)).step (unhide H6).tab (unhide H6).mod (unhide H6).own
            · exact (unhide H6).keep hTo rfl (((hW ob).block hb hhw).trans (unhide HX)) (by decide) (by decide) (by decide)
            · have hEo := owns_kept (w' := wr.alloc ob) (unhide HEE) (fun b hl _ => (hW ob).block b hl)
              obtain ⟨cu, hcu⟩ := owns_blk hEo
              exact owns_same hEo (((unhide H6).keep hTo rfl hcu (by decide) (by decide) (by decide)).trans hcu.symm))
          clear hW HLO
          go_wp2_with (go_at_call 111; refine (unhide HTK _).mono ?_; rintro e w6 ⟨rfl, vX6, H6, X6, E6⟩)
          go_roundw
          case rel => exact ⟨j + 1, vX6, by go_num, hjm, H6, X6, E6⟩
          case measure => simp [intOf]; omega
        · have hjl : j = l.length := by rw [unhide HM]; omega
          have HI5 : Hid (TInv w wr bp vC (.slice (some ⟨gO, 0, none⟩) n cO) vX c n (upd o s (a : Nat)) vX5 (lay cl s l a)) := hide (by have := unhide HI; rw [hjl, List.take_length] at this; exact this)
          clear hjl
          go_wp2
          go_end0
          exact ⟨rfl, vX5, HI5⟩
end Go.Proofs.YtibkhphbilfckaaGreatDoor

namespace Go.Proofs.YtibkhphbilfckaaGreatDoor
open Go.RowKit Scour Go.Lib Go.Shelf Go.Sort

theorem bestTo_max (L : Nat → List (Nat × Nat)) (dd : Nat → Bool) : ∀ n s, s < n → dd s = false → 0 < (L s).length → ∃ b : Nat, b < n ∧ bestTo L dd n = b ∧ dd b = false ∧ 0 < (L b).length ∧ goesB L s b = false := by
  intro n
  induction n with
  | zero => intro s hs; omega
  | succ n ih =>
    intro s hs h1 h2
    have hne : ∀ x y : Nat, (¬ ((L y).length < (L x).length ∨ ((L x).length = (L y).length ∧ x < y))) → goesB L x y = false := by
      intro x y h
      cases hb : goesB L x y with
      | false => rfl
      | true => exact absurd (goes_iff.1 hb) h
    by_cases hc : dd n = false ∧ 0 < (L n).length ∧ (bestTo L dd n < 0 ∨ (L (bestTo L dd n).toNat).length < (L n).length)
    · refine ⟨n, by omega, by rw [bestTo, if_pos hc], hc.1, hc.2.1, ?_⟩
      rcases Nat.lt_or_ge s n with g | g
      · obtain ⟨b, hb, e, h3, h4, h5⟩ := ih s g h1 h2
        rcases hc.2.2 with k | k
        · omega
        · rw [e] at k
          simp only [Int.toNat_natCast] at k
          refine hne s n ?_
          have h6 : ¬ ((L b).length < (L s).length ∨ ((L s).length = (L b).length ∧ s < b)) := fun h => by rw [goes_iff.2 h] at h5; cases h5
          omega
      · obtain rfl : s = n := by omega
        exact hne s s (by omega)
    · rcases Nat.lt_or_ge s n with g | g
      · obtain ⟨b, hb, e, h3, h4, h5⟩ := ih s g h1 h2
        exact ⟨b, by omega, by rw [bestTo, if_neg hc]; exact e, h3, h4, h5⟩
      · obtain rfl : s = n := by omega
        rcases bestTo_spec L dd s with e | ⟨b, hb, e, h3, h4⟩
        · exact absurd ⟨h1, h2, Or.inl (by rw [e]; omega)⟩ hc
        · refine ⟨b, by omega, by rw [bestTo, if_neg hc]; exact e, h3, h4, hne s b ?_⟩
          have : ¬ (L b).length < (L s).length := fun k => hc ⟨h1, h2, Or.inr (by rw [e]; simpa using k)⟩
          omega

/-- What goes first is what the document packs next. -/
theorem best_root {L : Nat → List (Nat × Nat)} {dd : Nat → Bool} {n x : Nat} (hx : x < n) (h1 : dd x = false) (h2 : 0 < (L x).length) (hr : ∀ s, s < n → dd s = false → 0 < (L s).length → hlt L x s = false) : bestTo L dd n = x := by
  obtain ⟨b, hb, e, h3, h4, h5⟩ := bestTo_max L dd n x hx h1 h2
  have h6 := hr b hb h3 h4
  unfold hlt at h6
  have a1 : ¬ ((L b).length < (L x).length ∨ ((L x).length = (L b).length ∧ x < b)) := fun h => by rw [goes_iff.2 h] at h5; cases h5
  have a2 : ¬ ((L x).length < (L b).length ∨ ((L b).length = (L x).length ∧ b < x)) := fun h => by rw [goes_iff.2 h] at h6; cases h6
  have : x = b := by omega
  rw [e, this]

theorem best_none {L : Nat → List (Nat × Nat)} {dd : Nat → Bool} {n : Nat} (h : ∀ s, s < n → dd s = false → 0 < (L s).length → False) : bestTo L dd n < 0 := by
  rcases bestTo_spec L dd n with e | ⟨b, hb, e, h3, h4⟩
  · omega
  · exact (h b hb h3 h4).elim

/-- The heap's rows and where they are: of the states below n, those that are left. -/
structure HSet (L : Nat → List (Nat × Nat)) (n : Nat) (dd : Nat → Bool) (d : Array Nat) : Prop where
  mem : ∀ s, s ∈ d.toList ↔ s < n ∧ dd s = false ∧ 0 < (L s).length
  nodup : d.toList.Nodup
  heap : HeapD (hlt L) d.size d

theorem HSet.push {L : Nat → List (Nat × Nat)} {n : Nat} {d : Array Nat} (h : HSet L n (fun _ => false) d) (hn : 0 < (L n).length) : HSet L (n + 1) (fun _ => false) (heapPush (hlt L) d n) ∧ (heapPush (hlt L) d n).size = d.size + 1 := by
  obtain ⟨h1, h2, h3⟩ := heapPush_spec (swo_hlt L) h.heap n
  refine ⟨⟨fun s => ?_, ?_, by rw [h2]; exact h1⟩, h2⟩
  · rw [h3.mem_iff, List.mem_append, h.mem]
    simp only [List.mem_singleton]
    constructor
    · rintro (⟨a, b, c⟩ | rfl)
      · exact ⟨by omega, trivial, c⟩
      · exact ⟨by omega, trivial, hn⟩
    · rintro ⟨a, _, c⟩
      rcases Nat.lt_or_ge s n with g | g
      · exact Or.inl ⟨g, trivial, c⟩
      · exact Or.inr (by omega)
  · rw [h3.nodup_iff, List.nodup_append]
    refine ⟨h.nodup, by simp, fun a ha b hb => ?_⟩
    simp only [List.mem_singleton] at hb
    have := ((h.mem a).1 ha).1
    omega
theorem HSet.skip {L : Nat → List (Nat × Nat)} {n : Nat} {d : Array Nat} (h : HSet L n (fun _ => false) d) (hn : ¬ 0 < (L n).length) : HSet L (n + 1) (fun _ => false) d := by
  refine ⟨fun s => ?_, h.nodup, h.heap⟩
  rw [h.mem]
  constructor
  · rintro ⟨a, b, c⟩; exact ⟨by omega, b, c⟩
  · rintro ⟨a, b, c⟩
    refine ⟨?_, b, c⟩
    rcases Nat.lt_or_ge s n with g | g
    · exact g
    · obtain rfl : s = n := by omega
      exact absurd c hn

/-- One row is taken. -/
theorem HSet.pop {L : Nat → List (Nat × Nat)} {n m : Nat} {dd : Nat → Bool} {d : Array Nat} (h : HSet L n dd d) (hm : d.size = m + 1) :
    bestTo L dd n = d[0]! ∧ d[0]! < n ∧ 0 < (L d[0]!).length ∧ HSet L n (fun k => if k = d[0]! then true else dd k) (siftDown (hlt L) m 0 0 (swp d 0 m)).pop ∧ (siftDown (hlt L) m 0 0 (swp d 0 m)).pop.size = m := by
  obtain ⟨h1, h2, h3, h4, h5⟩ := heapPop_spec (swo_hlt L) hm (by rw [← hm]; exact h.heap)
  have hm0 : d[0]! ∈ d.toList := by rw [getElem!_pos d 0 (by omega)]; simp
  obtain ⟨k1, k2, k3⟩ := (h.mem _).1 hm0
  have hsz : (siftDown (hlt L) m 0 0 (swp d 0 m)).pop.size = m := by rw [Array.size_pop, h1]; rfl
  have hnd : ((siftDown (hlt L) m 0 0 (swp d 0 m)).pop.toList ++ [d[0]!]).Nodup := h4.nodup_iff.2 h.nodup
  rw [List.nodup_append] at hnd
  refine ⟨best_root k1 k2 k3 (fun s a b c => h5 s ((h.mem s).2 ⟨a, b, c⟩)), k1, k3, ⟨fun s => ?_, hnd.1, by rw [hsz]; exact h3⟩, hsz⟩
  have hmem := h4.mem_iff (a := s)
  rw [List.mem_append, List.mem_singleton, h.mem] at hmem
  constructor
  · intro hs
    obtain ⟨a, b, c⟩ := hmem.1 (Or.inl hs)
    refine ⟨a, ?_, c⟩
    rw [if_neg (fun e => hnd.2.2 s hs d[0]! (by simp) e)]
    exact b
  · rintro ⟨a, b, c⟩
    by_cases e : s = d[0]!
    · rw [if_pos e] at b; cases b
    · rw [if_neg e] at b
      rcases hmem.2 ⟨a, b, c⟩ with g | g
      · exact g
      · exact absurd g e

theorem rowsV_congr {es es' : Nat → Value} {l : List Nat} (h : ∀ s, s ∈ l → es' s = es s) : rowsV es' l = rowsV es l := by
  unfold rowsV
  induction l with
  | nil => rfl
  | cons x l ih =>
    simp only [List.flatMap_cons]
    rw [ih (fun s hs => h s (List.mem_cons_of_mem _ hs)), h x List.mem_cons_self]
theorem HeapIn.congr {w : World} {rp gh cap : Nat} {d : Array Nat} {es es' : Nat → Value} (h : HeapIn w rp gh cap d es) (he : ∀ s, s ∈ d.toList → es' s = es s) : HeapIn w rp gh cap d es' := ⟨h.box, by rw [rowsV_congr he]; exact h.row, h.ne⟩

/-- The lists of exceptions lie in memory. -/
def EsIn (w : World) (L : Nat → List (Nat × Nat)) (es : Nat → Value) (n : Nat) : Prop := ∀ s, s < n → 0 < (L s).length → w.ownsRow 0 210 2 (es s) (L s).length (encP (L s))

theorem EsIn.below {w w' : World} {L : Nat → List (Nat × Nat)} {es : Nat → Value} {n : Nat} (h : EsIn w L es n) (hb : Below w.heap.size w w') : EsIn w' L es n := fun s hs h0 => owns_kept (h s hs h0) (fun b hl _ => hb.block b hl)
theorem EsIn.ok {w : World} {L : Nat → List (Nat × Nat)} {es : Nat → Value} {n : Nat} (h : EsIn w L es n) (hl : ∀ s, (L s).length ≤ 256) : EsOK L es n := ⟨fun s hs h0 => by
  rcases owns_form (h s hs h0) with ⟨_, e⟩ | ⟨b, c, e, _⟩
  · omega
  · exact ⟨b, c, e⟩, hl⟩
/-- What turns the heap's blocks alone turns no exceptions. -/
theorem EsIn.mod {w w' : World} {L : Nat → List (Nat × Nat)} {es : Nat → Value} {n rp gh cap : Nat} {d : Array Nat} {es' : Nat → Value} (h : EsIn w L es n) (hH : HeapIn w rp gh cap d es') (hM : Mod (fun k => k = rp ∨ k = gh) w w') : EsIn w' L es n := by
  intro s hs h0
  refine owns_kept (h s hs h0) (fun b hl hv => hM.out b hl (fun e => ?_))
  obtain ⟨c1, hc1⟩ := owns_block (h s hs h0) hv
  rcases e with e | e
  · exact two_types hc1 hH.box (by decide) e
  · obtain ⟨c2, hc2⟩ := owns_blk hH.row
    exact two_types hc1 hc2 (by decide) e
end Go.Proofs.YtibkhphbilfckaaGreatDoor
