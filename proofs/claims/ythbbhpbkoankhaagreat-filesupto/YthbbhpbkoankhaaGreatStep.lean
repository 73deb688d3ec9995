import Derived.Test.YthbbhpbkoankhaaGreatAsked
namespace Go.Proofs.YthbbhpbkoankhaaGreat
open Go.RowKit Scour Go.Lib

/-- One step of a script. -/
structure OpD where
  k : Int
  a : Int
  b : Int
  s : ByteArray
  ap : Option Addr
  ts : List Str
  cap : Nat

def OpD.vals (o : OpD) : List Value := [.int .i64 o.k, .int .i64 o.a, .int .i64 o.b, .string o.s, .slice o.ap o.ts.length o.cap]

structure OpD.OK (w : World) (B : Nat) (o : OpD) : Prop where
  ab : -9223372036854775808 ≤ o.a ∧ o.a ≤ 9223372036854775807
  ss : o.s.size < 1000000000000
  txt : TxtIn w B o.ap o.ts
  nil : o.ap = none → o.cap = 0 ∧ o.ts = []
  len : o.ts.length ≤ 2000000
  each : ∀ i, i < o.ts.length → (pat o.ts i).length < 100000000

theorem compiled_any (bw : Nat) (T : Nat → Nat) (M : List Ent) (vms vby vli : Value) (E F : List Sl) (mb : Nat → Nat) (o : OpD) (w : World) (hW : LW w bw T M vms vby vli E F mb) (hO : o.OK w w.heap.size) (hMl : M.length < 900000000000) :
    Calls Tryz.prog 11 #[.pointer (some ⟨bw, 0, none⟩), .slice o.ap o.ts.length o.cap] w fun e w' => e = .returned (.bool true) ∧ ∃ T' M' vms', LW w' bw T' M' vms' vby vli E F mb ∧ Fr T w w' T' ∧ M'.length ≤ M.length + 1 := by
  obtain ⟨k, a, b, s, ap, ts, cap⟩ := o
  cases ap with
  | none =>
    obtain ⟨rfl, rfl⟩ := hO.nil rfl
    refine (compiled_nil bw T M vms vby vli E F mb w hW hMl).mono ?_
    rintro e w' ⟨rfl, T', bm, br, S, vms', k1, k2⟩
    exact ⟨rfl, T', _, vms', k1, k2, by simp⟩
  | some x =>
    by_cases hc : (chk ts).1 = 0
    · refine (compiled_ok bw T M vms vby vli E F mb x cap ts w hW hO.txt hc hMl).mono ?_
      rintro e w' ⟨rfl, T', bm, br, S, vms', k1, k2⟩
      exact ⟨rfl, T', _, vms', k1, k2, by simp⟩
    · refine (compiled_bad bw T M vms vby vli E F mb x cap ts w hW hO.txt hO.len hO.each hc).mono ?_
      rintro e w' ⟨rfl, k1, k2⟩
      exact ⟨rfl, T, M, vms, k1, k2, by omega⟩

/-- What a step leaves. -/
def After (bw : Nat) (T : Nat → Nat) (M : List Ent) (E F : List Sl) (w w' : World) : Prop :=
  ∃ T' M' vms' vby' vli' E' F' mb', LW w' bw T' M' vms' vby' vli' E' F' mb' ∧ Fr T w w' T' ∧ M'.length ≤ M.length + 1 ∧ E'.length ≤ E.length + 256 ∧ F'.length ≤ F.length + 4

/-- A step of this kind on a machine is answered as it should be. -/
def AskOK (k : Int) : Prop := ∀ (bw : Nat) (T : Nat → Nat) (M : List Ent) (vms vby vli : Value) (E F : List Sl) (mb : Nat → Nat) (o : OpD) (e : Ent) (w : World), e ∈ M → LW w bw T M vms vby vli E F mb → o.k = k → o.s.size < 1000000000000 → E.length < 900000000000 → F.length < 900000000000 →
    Calls Tryz.prog 15 #[.pointer (some ⟨bw, 0, none⟩), .agg #[.pointer (some ⟨e.bm, 0, none⟩), .pointer (some ⟨e.br, 0, none⟩)], .agg #[.int .i64 o.k, .int .i64 o.a, .int .i64 o.b, .string o.s, .slice o.ap o.ts.length o.cap]] w fun r w' => r = .returned (.bool true) ∧ ∃ T' vby' vli' E' F' mb', LW w' bw T' M vms vby' vli' E' F' mb' ∧ Fr T w w' T' ∧ E'.length ≤ E.length + 256 ∧ F'.length ≤ F.length + 4

theorem asked_any (bw : Nat) (T : Nat → Nat) (M : List Ent) (vms vby vli : Value) (E F : List Sl) (mb : Nat → Nat) (o : OpD) (e : Ent) (he : e ∈ M) (w : World) (hW : LW w bw T M vms vby vli E F mb) (hk : o.k = 2 ∨ o.k = 3 ∨ o.k = 4) (hs : o.s.size < 1000000000000)
    (hE : E.length < 900000000000) (hF : F.length < 900000000000) :
    Calls Tryz.prog 15 #[.pointer (some ⟨bw, 0, none⟩), .agg #[.pointer (some ⟨e.bm, 0, none⟩), .pointer (some ⟨e.br, 0, none⟩)], .agg #[.int .i64 o.k, .int .i64 o.a, .int .i64 o.b, .string o.s, .slice o.ap o.ts.length o.cap]] w fun r w' => r = .returned (.bool true) ∧ ∃ T' vby' vli' E' F' mb', LW w' bw T' M vms vby' vli' E' F' mb' ∧ Fr T w w' T' ∧ E'.length ≤ E.length + 256 ∧ F'.length ≤ F.length + 4 := by
  obtain ⟨bt, be, g, hM, _⟩ := (hW.ents e he).mach
  obtain ⟨vL, gS, cS, hR, _⟩ := (hW.ents e he).rmach
  have hc := (hW.ents e he).ok
  obtain ⟨k, a, b, s, ap, ts, cap⟩ := o
  simp only [] at hk
  rcases hk with rfl | rfl | rfl
  · refine (asked_patterns bw T M vms vby vli E F mb _ a b s e.bm bt be g e.br gS cS vL e.ps e.S w hW hM hR hc hE hF).mono ?_
    rintro r w' ⟨rfl, T', vby', vli', E', F', mb', k1, k2, k3, k4⟩
    have := (chk_ok hc).1
    exact ⟨rfl, T', vby', vli', E', F', mb', k1, k2, by omega, by omega⟩
  · refine (asked_states _ _ a b s e.bm bt be g e.br gS cS vL e.ps e.S w hM hR).mono ?_
    rintro r w' ⟨rfl, hb⟩
    exact ⟨rfl, T, vby, vli, E, F, mb, hW.below hb, fr_below hb, by omega, by omega⟩
  · refine (asked_next _ _ a b s e.bm bt be g e.br gS cS vL e.ps e.S w hM hR hc hs).mono ?_
    rintro r w' ⟨rfl, hb⟩
    exact ⟨rfl, T, vby, vli, E, F, mb, hW.below hb, fr_below hb, by omega, by omega⟩

/-- A block more, of the tag 0. -/
def tag0 (T : Nat → Nat) (n : Nat) : Nat → Nat := fun k => if k = n then 0 else T k

theorem LW.zero {w : World} {bw : Nat} {T : Nat → Nat} {M : List Ent} {vms vby vli : Value} {E F : List Sl} {mb : Nat → Nat} (h : LW w bw T M vms vby vli E F mb) (o : Obj) : LW (w.alloc o) bw (tag0 T w.heap.size) M vms vby vli E F mb ∧ Fr T w (w.alloc o) (tag0 T w.heap.size) := by
  have hb : Below w.heap.size w (w.alloc o) := (Below.refl _ _).alloc (Nat.le_refl _) _
  have ht : ∀ k, k < w.heap.size → tag0 T w.heap.size k = T k := fun k hk => by unfold tag0; rw [if_neg (by omega)]
  have hbl := (Array.getElem?_eq_some_iff.1 h.blk).1
  refine ⟨⟨(hb.block bw hbl).trans h.blk, (ht bw hbl).trans h.tbw, owns_kept h.ms (fun b hl _ => hb.block b hl), fun b hv => ?_, fun e he => (h.ents e he).same hb.size (fun k hl _ => hb.block k hl) (fun k hl t => (ht k hl).trans t), h.bytes.same (fun k hl _ => hb.block k hl) (fun k hl _ => ht k hl), h.lists.same (fun k hl _ => hb.block k hl) (fun k hl _ => ht k hl), fun k hl => ?_⟩, hb.os, hb.tape, hb.output, hb.size, fun k hk h0 => ⟨hb.block k hk, (ht k hk).trans h0⟩⟩
  · obtain ⟨cur, hc⟩ := owns_block h.ms hv
    exact (ht b (Array.getElem?_eq_some_iff.1 hc).1).trans (h.msown b hv)
  · have : w.heap.size + 1 ≤ k := by simpa using hl
    unfold tag0; rw [if_neg (by omega)]
    exact h.fresh k (by omega)
end Go.Proofs.YthbbhpbkoankhaaGreat

namespace Go.Proofs.YthbbhpbkoankhaaGreat
open Go.RowKit Scour Go.Lib

theorem pairCells_get : ∀ (M : List Ent) (q : Nat) (e : Ent), M[q]? = some e → (pairCells M)[q * 2]? = some (.pointer (some ⟨e.bm, 0, none⟩)) ∧ (pairCells M)[q * 2 + 1]? = some (.pointer (some ⟨e.br, 0, none⟩))
  | [], q, e, h => by simp at h
  | x :: M, 0, e, h => by
    obtain rfl : x = e := by simpa using h
    exact ⟨rfl, rfl⟩
  | x :: M, q + 1, e, h => by
    have := pairCells_get M q e (by simpa using h)
    have e1 : (q + 1) * 2 = q * 2 + 2 := by omega
    rw [e1]
    exact this

theorem pairCells_len (M : List Ent) : (pairCells M).length = M.length * 2 := by
  induction M with
  | nil => rfl
  | cons x M ih =>
    have : pairCells (x :: M) = [.pointer (some ⟨x.bm, 0, none⟩), .pointer (some ⟨x.br, 0, none⟩)] ++ pairCells M := rfl
    rw [this, List.length_append, ih]; simp; omega

theorem drewN_fr {T : Nat → Nat} {w : World} (n : Nat) : Fr T w (w.drewN n) T := fr_below (below_drewN (Below.refl _ _) n)

set_option maxHeartbeats 4000000 in
set_option maxRecDepth 100000 in
theorem step_compile (bw : Nat) (T : Nat → Nat) (M : List Ent) (vms vby vli : Value) (E F : List Sl) (mb : Nat → Nat) (o : OpD) (w : World) (hW : LW w bw T M vms vby vli E F mb) (hO : o.OK w w.heap.size) (hk : o.k = 1) (hMl : M.length < 900000000000) :
    Calls Tryz.prog 8 #[.pointer (some ⟨bw, 0, none⟩), .agg #[.int .i64 o.k, .int .i64 o.a, .int .i64 o.b, .string o.s, .slice o.ap o.ts.length o.cap]] w fun r w' => r = .returned (.bool true) ∧ After bw T M E F w w' := by
  have HC : Hid (∀ ob, Calls Tryz.prog 11 #[.pointer (some ⟨bw, 0, none⟩), .slice o.ap o.ts.length o.cap] (w.alloc ob) fun e w' => e = .returned (.bool true) ∧ After bw T M E F w w') := hide (fun ob => by
    have hb : Below w.heap.size w (w.alloc ob) := (Below.refl _ _).alloc (Nat.le_refl _) _
    refine (compiled_any bw T M vms vby vli E F mb o (w.alloc ob) (hW.below hb) ⟨hO.ab, hO.ss, (hO.txt.below hb (Nat.le_refl _)).up hb.size, hO.nil, hO.len, hO.each⟩ hMl).mono ?_
    rintro e w' ⟨rfl, T', M', vms', k1, k2, k3⟩
    exact ⟨rfl, T', M', vms', vby, vli, E, F, mb, k1, (fr_below hb).trans k2, k3, by omega, by omega⟩)
  clear hW hO
  obtain ⟨k, a, b, s, ap, ts, cap⟩ := o
  simp only [] at hk HC ⊢
  subst hk
  go_enter Tryz.func8, Tryz.ntmps8
  go_wp2_with (go_at_call 11; refine (unhide HC _).mono ?_; rintro e w' ⟨rfl, hA⟩; have HA := hide hA; clear hA)
  go_ret
  exact ⟨rfl, unhide HA⟩

set_option maxHeartbeats 4000000 in
set_option maxRecDepth 100000 in
theorem step_none (bw : Nat) (T : Nat → Nat) (vms vby vli : Value) (E F : List Sl) (mb : Nat → Nat) (o : OpD) (w : World) (hW : LW w bw T [] vms vby vli E F mb) (hk : 2 ≤ o.k ∧ o.k ≤ 9 ∧ o.k ≠ 6 ∧ o.k ≠ 8) :
    Calls Tryz.prog 8 #[.pointer (some ⟨bw, 0, none⟩), .agg #[.int .i64 o.k, .int .i64 o.a, .int .i64 o.b, .string o.s, .slice o.ap o.ts.length o.cap]] w fun r w' => r = .returned (.bool true) ∧ After bw T [] E F w w' := by
  have hbl := (Array.getElem?_eq_some_iff.1 hW.blk).1
  obtain ⟨am, cm, hvm⟩ : ∃ am cm, vms = .slice am 0 cm := by
    rcases hW.ms.2 with ⟨h, h0⟩ | ⟨g, cap, cur, h, _⟩
    · exact ⟨none, 0, by rw [h]⟩
    · exact ⟨_, cap, h⟩
  subst hvm
  have c0 : w.cell? ⟨bw, 0, none⟩ = some (.slice am 0 cm) := by rw [cell_of_blk hW.blk]; rfl
  have cb : ∀ o1, (w.alloc o1).cell? ⟨bw, 0, none⟩ = some (.slice am 0 cm) := fun o1 => (((Below.refl w.heap.size w).alloc (Nat.le_refl _) o1).cell (p := ⟨bw, 0, none⟩) hbl).trans c0
  have HA : Hid (∀ o1, After bw T [] E F w (w.alloc o1)) := hide (fun o1 => by
    have hb : Below w.heap.size w (w.alloc o1) := (Below.refl _ _).alloc (Nat.le_refl _) _
    exact ⟨T, [], _, vby, vli, E, F, mb, hW.below hb, fr_below hb, by simp, by omega, by omega⟩)
  clear hW
  obtain ⟨k, a, b, s, ap, ts, cap⟩ := o
  simp only [] at hk ⊢
  have b1 : (k == 1) = false := by simp only [beq_eq_false_iff_ne, ne_eq]; omega
  have b6 : (k == 6) = false := by simp only [beq_eq_false_iff_ne, ne_eq]; omega
  have b8 : (k == 8) = false := by simp only [beq_eq_false_iff_ne, ne_eq]; omega
  have j1 : ¬ k < 2 := by omega
  have j2 : ¬ 9 < k := by omega
  clear hk
  go_enter Tryz.func8, Tryz.ntmps8
  go_wp2
  go_ret
  exact ⟨rfl, unhide HA _⟩

set_option maxHeartbeats 4000000 in
set_option maxRecDepth 100000 in
theorem step_asked (bw : Nat) (T : Nat → Nat) (M : List Ent) (vms vby vli : Value) (E F : List Sl) (mb : Nat → Nat) (o : OpD) (w : World) (hW : LW w bw T M vms vby vli E F mb) (hO : o.OK w w.heap.size) (hk : 2 ≤ o.k ∧ o.k ≤ 9 ∧ o.k ≠ 6 ∧ o.k ≠ 8) (hAsk : AskOK o.k) (hM0 : 0 < M.length) (hMl : M.length < 900000000000)
    (hE : E.length < 900000000000) (hF : F.length < 900000000000) :
    Calls Tryz.prog 8 #[.pointer (some ⟨bw, 0, none⟩), .agg #[.int .i64 o.k, .int .i64 o.a, .int .i64 o.b, .string o.s, .slice o.ap o.ts.length o.cap]] w fun r w' => r = .returned (.bool true) ∧ After bw T M E F w w' := by
  have hbl := (Array.getElem?_eq_some_iff.1 hW.blk).1
  obtain ⟨g, cm, hvm, lg⟩ : ∃ g cm, vms = .slice (some ⟨g, 0, none⟩) M.length cm ∧ g < w.heap.size := by
    rcases hW.ms.2 with ⟨h, h0⟩ | ⟨g, cap, cur, h, _, hg, _⟩
    · omega
    · exact ⟨g, cap, h, (Array.getElem?_eq_some_iff.1 hg).1⟩
  subst hvm
  obtain ⟨hp1, hp2⟩ := pickI_lt o.a M.length (by omega)
  obtain ⟨q, hq⟩ : ∃ q : Nat, pickI o.a M.length = q := ⟨(pickI o.a M.length).toNat, by omega⟩
  have hqM : q < M.length := by omega
  obtain ⟨e, he⟩ : ∃ e, M[q]? = some e := ⟨_, List.getElem?_eq_getElem hqM⟩
  have hem : e ∈ M := List.mem_of_getElem? he
  obtain ⟨g1, g2⟩ := pairCells_get M q e he
  have hpl := pairCells_len M
  have HPK : Hid (∀ W, Calls Tryz.prog 14 #[.int .i64 o.a, .int .i64 M.length] W fun e w' => e = .returned (.int .i64 q) ∧ w' = W) := hide (fun W => by
    have := lawPick_any o.a M.length W (by omega) (by omega) hO.ab
    rw [hq] at this
    exact this)
  have hs := hO.ss
  -- what is read in any world that the step passes through
  have HRD : Hid (∀ T' vby' vli' E' F' mb' W, LW W bw T' M (.slice (some ⟨g, 0, none⟩) M.length cm) vby' vli' E' F' mb' → W.cell? ⟨bw, 0, none⟩ = some (.slice (some ⟨g, 0, none⟩) M.length cm) ∧ W.cell? ⟨g, q * 2, none⟩ = some (.pointer (some ⟨e.bm, 0, none⟩)) ∧ W.cell? ⟨g, q * 2 + 1, none⟩ = some (.pointer (some ⟨e.br, 0, none⟩))) := hide (fun T' vby' vli' E' F' mb' W h => by
    refine ⟨by rw [cell_of_blk h.blk]; rfl, ?_, ?_⟩
    · rw [h.ms.cellAt (q * 2) (by omega)]; exact g1
    · rw [h.ms.cellAt (q * 2 + 1) (by omega)]; exact g2)
  have HASK : Hid (∀ ob n, Calls Tryz.prog 15 #[.pointer (some ⟨bw, 0, none⟩), .agg #[.pointer (some ⟨e.bm, 0, none⟩), .pointer (some ⟨e.br, 0, none⟩)], .agg #[.int .i64 o.k, .int .i64 o.a, .int .i64 o.b, .string o.s, .slice o.ap o.ts.length o.cap]] ((w.alloc ob).drewN n) fun r w' => r = .returned (.bool true) ∧ After bw T M E F w w' ∧ w'.heap[w.heap.size]? = some ob ∧ w'.cell? ⟨bw, 0, none⟩ = some (.slice (some ⟨g, 0, none⟩) M.length cm) ∧ w'.cell? ⟨g, q * 2, none⟩ = some (.pointer (some ⟨e.bm, 0, none⟩)) ∧ w'.cell? ⟨g, q * 2 + 1, none⟩ = some (.pointer (some ⟨e.br, 0, none⟩))) := hide (fun ob n => by
    obtain ⟨hz, hfz⟩ := hW.zero ob
    have hbd : Below (w.alloc ob).heap.size (w.alloc ob) ((w.alloc ob).drewN n) := below_drewN (Below.refl _ _) n
    refine (hAsk bw (tag0 T w.heap.size) M _ vby vli E F mb o e _ hem (hz.below hbd) rfl hs hE hF).mono ?_
    rintro r w' ⟨rfl, T', vby', vli', E', F', mb', k1, k2, k3, k4⟩
    refine ⟨rfl, ⟨T', M, _, vby', vli', E', F', mb', k1, (hfz.trans (fr_below hbd)).trans k2, by omega, k3, k4⟩, ?_, unhide HRD _ _ _ _ _ _ _ k1⟩
    have := (k2.zero w.heap.size (by simp) (by unfold tag0; rw [if_pos rfl])).1
    rw [this]
    exact heap_alloc_new w ob)
  obtain ⟨r1, r2, r3⟩ := unhide HRD _ _ _ _ _ _ w hW
  have x1 : ∀ o1, (w.alloc o1).cell? ⟨bw, 0, none⟩ = some (.slice (some ⟨g, 0, none⟩) M.length cm) := fun o1 => (((Below.refl w.heap.size w).alloc (Nat.le_refl _) o1).cell (p := ⟨bw, 0, none⟩) hbl).trans r1
  have x2 : ∀ o1, (w.alloc o1).cell? ⟨g, q * 2, none⟩ = some (.pointer (some ⟨e.bm, 0, none⟩)) := fun o1 => (((Below.refl w.heap.size w).alloc (Nat.le_refl _) o1).cell (p := ⟨g, q * 2, none⟩) lg).trans r2
  have x3 : ∀ o1, (w.alloc o1).cell? ⟨g, q * 2 + 1, none⟩ = some (.pointer (some ⟨e.br, 0, none⟩)) := fun o1 => (((Below.refl w.heap.size w).alloc (Nat.le_refl _) o1).cell (p := ⟨g, q * 2 + 1, none⟩) lg).trans r3
  have i0 : ((M.length : Int) == 0) = false := by simp only [beq_eq_false_iff_ne, ne_eq]; omega
  have i1 : (q : Int) < (M.length : Int) := by omega
  have i2 : (0 : Int) ≤ (q : Int) := by omega
  clear hW hO g1 g2 hpl he hem hq hp1 hp2 r1 r2 r3 hAsk
  obtain ⟨k, a, b, s, ap, ts, cap⟩ := o
  simp only [] at hk HASK HPK ⊢
  have b1 : (k == 1) = false := by simp only [beq_eq_false_iff_ne, ne_eq]; omega
  have b6 : (k == 6) = false := by simp only [beq_eq_false_iff_ne, ne_eq]; omega
  have b8 : (k == 8) = false := by simp only [beq_eq_false_iff_ne, ne_eq]; omega
  have j1 : ¬ k < 2 := by omega
  have j2 : ¬ 9 < k := by omega
  clear hk
  go_enter Tryz.func8, Tryz.ntmps8
  go_wp2_with fail
  go_region_held3 (fun w' => w'.cell? ⟨w.heap.size, 0, none⟩ = some (.int .i64 k) ∧ w'.cell? ⟨w.heap.size, 1, none⟩ = some (.int .i64 a) ∧ w'.cell? ⟨w.heap.size, 2, none⟩ = some (.int .i64 b) ∧ w'.cell? ⟨w.heap.size, 3, none⟩ = some (.string s) ∧ w'.cell? ⟨w.heap.size, 4, none⟩ = some (.slice ap ts.length cap) ∧ w'.cell? ⟨bw, 0, none⟩ = some (.slice (some ⟨g, 0, none⟩) M.length cm) ∧ w'.cell? ⟨g, q * 2, none⟩ = some (.pointer (some ⟨e.bm, 0, none⟩)) ∧ w'.cell? ⟨g, q * 2 + 1, none⟩ = some (.pointer (some ⟨e.br, 0, none⟩))) (go_keep)
    (first | (go_at_call 14; refine (unhide HPK _).mono ?_; rintro e w' ⟨rfl, hw⟩; have hw' := hw.symm; clear hw; subst hw') | (go_at_call 15; refine (unhide HASK _ _).mono ?_; rintro e w' ⟨rfl, hA, hb0, k1, k2, k3⟩; have HA := hide hA; have y0 := cell_of_blk hb0 0; have y1 := cell_of_blk hb0 1; have y2 := cell_of_blk hb0 2; have y3 := cell_of_blk hb0 3; have y4 := cell_of_blk hb0 4; simp at y0 y1 y2 y3 y4; clear hA hb0))
  go_wp2
  go_ret
  exact ⟨rfl, unhide HA⟩

theorem step_any (bw : Nat) (T : Nat → Nat) (M : List Ent) (vms vby vli : Value) (E F : List Sl) (mb : Nat → Nat) (o : OpD) (w : World) (hW : LW w bw T M vms vby vli E F mb) (hO : o.OK w w.heap.size) (hk : o.k ∈ [(1 : Int), 2, 3, 4]) (hMl : M.length < 900000000000)
    (hE : E.length < 900000000000) (hF : F.length < 900000000000) :
    Calls Tryz.prog 8 #[.pointer (some ⟨bw, 0, none⟩), .agg #[.int .i64 o.k, .int .i64 o.a, .int .i64 o.b, .string o.s, .slice o.ap o.ts.length o.cap]] w fun r w' => r = .returned (.bool true) ∧ After bw T M E F w w' := by
  have h4 : o.k = 1 ∨ o.k = 2 ∨ o.k = 3 ∨ o.k = 4 := by simpa using hk
  rcases h4 with h1 | h4
  · exact step_compile bw T M vms vby vli E F mb o w hW hO h1 hMl
  · cases M with
    | nil => exact step_none bw T vms vby vli E F mb o w hW (by omega)
    | cons x M => exact step_asked bw T (x :: M) vms vby vli E F mb o w hW hO (by omega) (fun bw T M vms vby vli E F mb o' e w he hW hk hs hE hF => asked_any bw T M vms vby vli E F mb o' e he w hW (by omega) hs hE hF) (by simp) hMl hE hF
end Go.Proofs.YthbbhpbkoankhaaGreat
