import Derived.Test.YtfpohfifdfbpkaaGreatDoorComp
import Derived.Test.YtfpohfifdfbpkaaGreatDoorBulk
import Derived.WalkKit
import Derived.ProofKit
import Derived.OpenShut
import Derived.ShutString
import Derived.ChangeOld
import Derived.Below
import Derived.SliceStrings
import Derived.JoinedCond
namespace Go.Proofs.YtfpohfifdfbpkaaGreatDoor
open Go.RowKit Scour Go.Lib
structure OpD where
 k : Int
 a : Int
 b : Int
 s : ByteArray
 ap : Option Addr
 ts : List Str
 cap : Nat
def OpD.vals (o : OpD) : List Value := [.int .i64 o.k, .int .i64 o.a, .int .i64 o.b, .string o.s, .slice o.ap o.ts.length o.cap]
structure OpD.OK (w : World) (B : Nat) (o : OpD) : Prop where
 ab : -9223372036854775808 <= o.a /\ o.a <= 9223372036854775807
 ss : o.s.size < 100000000
 txt : TxtIn w B o.ap o.ts
 nil : o.ap = none -> o.cap = 0 /\ o.ts = []
 len : o.ts.length <= 2000000
 each : ∀ i, i < o.ts.length -> (pat o.ts i).length < 100000000
theorem compiled_any (bw : Nat) (T : Nat -> Nat) (M : List Ent) (vms vby vli : Value) (E F : List Sl) (mb : Ext) (o : OpD) (w : World) (hW : LW w bw T M vms vby vli E F mb) (hO : o.OK w w.heap.size) (hMl : M.length < 900000000000) :
  Calls Tryz.prog 48 #[.pointer (some ⟨bw, 0, none⟩), .slice o.ap o.ts.length o.cap] w fun e w' => e = .returned (.bool true) /\ ∃ T' M' vms', LW w' bw T' M' vms' vby vli E F mb /\ Fr T w w' T' /\ M'.length <= M.length + 1 := by
 obtain ⟨k, a, b, s, ap, ts, cap⟩ := o
 cases ap with
 | none =>
   obtain ⟨rfl, rfl⟩ := hO.nil rfl
   refine (compiled_nil bw T M vms vby vli E F mb w hW hMl).mono ?_
   rintro e w' ⟨rfl, T', bm, br, S, vms', k1, k2⟩
   exact ⟨rfl, T', _, vms', k1, k2, by simp⟩
 | some x =>
   by_cases hc : (chk ts).1 = 0
   ·refine (compiled_ok bw T M vms vby vli E F mb x cap ts w hW hO.txt hc hMl).mono ?_
    rintro e w' ⟨rfl, T', bm, br, S, vms', k1, k2⟩
    exact ⟨rfl, T', _, vms', k1, k2, by simp⟩
   ·refine (compiled_bad bw T M vms vby vli E F mb x cap ts w hW hO.txt hO.len hO.each hc).mono ?_
    rintro e w' ⟨rfl, k1, k2⟩
    exact ⟨rfl, T, M, vms, k1, k2, by omega⟩
def jR (bw : Nat) (T : Nat -> Nat) (M : List Ent) (E F : List Sl) (mb : Ext) (w w' : World) : Prop :=
 ∃ T' M' vms' vby' vli' E' F' mb', LW w' bw T' M' vms' vby' vli' E' F' mb' /\ Fr T w w' T' /\ M'.length <= M.length + 1 /\ E'.length <= E.length + 256 /\ F'.length <= F.length + 4 /\ mb.Le mb'
def AskOK (k : Int) : Prop := ∀ (bw : Nat) (T : Nat -> Nat) (M : List Ent) (vms vby vli : Value) (E F : List Sl) (mb : Ext) (o : OpD) (e : Ent) (w : World), e ∈ M -> LW w bw T M vms vby vli E F mb -> o.k = k -> o.s.size < 1000000000000 -> E.length < 900000000000 -> F.length < 900000000000 -> mb.Small ->
    Calls Tryz.prog 52 #[.pointer (some ⟨bw, 0, none⟩), .agg #[.pointer (some ⟨e.bm, 0, none⟩), .pointer (some ⟨e.br, 0, none⟩)], .agg #[.int .i64 o.k, .int .i64 o.a, .int .i64 o.b, .string o.s, .slice o.ap o.ts.length o.cap]] w fun r w' => r = .returned (.bool true) /\ ∃ T' vby' vli' E' F' mb', LW w' bw T' M vms vby' vli' E' F' mb' /\ Fr T w w' T' /\ E'.length <= E.length + 256 /\ F'.length <= F.length + 4 /\ mb.Le mb'
theorem asked_any (bw : Nat) (T : Nat -> Nat) (M : List Ent) (vms vby vli : Value) (E F : List Sl) (mb : Ext) (o : OpD) (e : Ent) (he : e ∈ M) (w : World) (hW : LW w bw T M vms vby vli E F mb) (hk : o.k = 2 \/ o.k = 3 \/ o.k = 4) (hs : o.s.size < 1000000000000)
  (hE : E.length < 900000000000) (hF : F.length < 900000000000) :
  Calls Tryz.prog 52 #[.pointer (some ⟨bw, 0, none⟩), .agg #[.pointer (some ⟨e.bm, 0, none⟩), .pointer (some ⟨e.br, 0, none⟩)], .agg #[.int .i64 o.k, .int .i64 o.a, .int .i64 o.b, .string o.s, .slice o.ap o.ts.length o.cap]] w fun r w' => r = .returned (.bool true) /\ ∃ T' vby' vli' E' F' mb', LW w' bw T' M vms vby' vli' E' F' mb' /\ Fr T w w' T' /\ E'.length <= E.length + 256 /\ F'.length <= F.length + 4 /\ mb.Le mb' := by
 obtain ⟨bt, be, g, hM, _⟩ := (hW.ents e he).mach
 obtain ⟨vL, gS, cS, hR, _⟩ := (hW.ents e he).rmach
 have hc := (hW.ents e he).ok
 obtain ⟨k, a, b, s, ap, ts, cap⟩ := o
 simp only [] at hk
 rcases hk with rfl | rfl | rfl
 ·refine (asked_patterns bw T M vms vby vli E F mb _ a b s e.bm bt be g e.br gS cS vL e.ps e.S w hW hM hR hc hE hF).mono ?_
  rintro r w' ⟨rfl, T', vby', vli', E', F', mb', k1, k2, k3, k4, k5⟩
  have := (yr hc).1
  exact ⟨rfl, T', vby', vli', E', F', mb', k1, k2, by omega, by omega, k5⟩
 ·refine (asked_states _ _ a b s e.bm bt be g e.br gS cS vL e.ps e.S w hM hR).mono ?_
  rintro r w' ⟨rfl, hb⟩
  exact ⟨rfl, T, vby, vli, E, F, mb, hW.below hb, zl hb, by omega, by omega, Ext.Le.refl _⟩
 ·refine (asked_next _ _ a b s e.bm bt be g e.br gS cS vL e.ps e.S w hM hR hc hs).mono ?_
  rintro r w' ⟨rfl, hb⟩
  exact ⟨rfl, T, vby, vli, E, F, mb, hW.below hb, zl hb, by omega, by omega, Ext.Le.refl _⟩
def tag0 (T : Nat -> Nat) (n : Nat) : Nat -> Nat := fun k => if k = n then 0 else T k
theorem LW.zero {w : World} {bw : Nat} {T : Nat -> Nat} {M : List Ent} {vms vby vli : Value} {E F : List Sl} {mb : Ext} (h : LW w bw T M vms vby vli E F mb) (o : Obj) : LW (w.alloc o) bw (tag0 T w.heap.size) M vms vby vli E F mb /\ Fr T w (w.alloc o) (tag0 T w.heap.size) := by
 have hb : Below w.heap.size w (w.alloc o) := (Below.refl _ _).alloc (Nat.le_refl _) _
 have ht : ∀ k, k < w.heap.size -> tag0 T w.heap.size k = T k := fun k hk => by unfold tag0; rw [if_neg (by omega)]
 have hbl := (Array.getElem?_eq_some_iff.1 h.blk).1
 refine ⟨⟨(hb.block bw hbl).trans h.blk, (ht bw hbl).trans h.tbw, zE h.ms (fun b hl _ => hb.block b hl), fun b hv => ?_, fun e he => (h.ents e he).same hb.size (fun k hl _ => hb.block k hl) (fun k hl t => (ht k hl).trans t), h.bytes.same (fun k hl _ => hb.block k hl) (fun k hl _ => ht k hl), h.lists.same (fun k hl _ => hb.block k hl) (fun k hl _ => ht k hl), fun k hl => ?_, h.ext.same hb.size (fun k hl _ => hb.block k hl) (fun k hl _ => ht k hl)⟩, hb.os, hb.tape, hb.output, hb.size, fun k hk h0 => ⟨hb.block k hk, (ht k hk).trans h0⟩⟩
 ·obtain ⟨cur, hc⟩ := zD h.ms hv
  exact (ht b (Array.getElem?_eq_some_iff.1 hc).1).trans (h.msown b hv)
 ·have : w.heap.size + 1 <= k := by simpa using hl
  unfold tag0; rw [if_neg (by omega)]
  exact h.fresh k (by omega)
end Go.Proofs.YtfpohfifdfbpkaaGreatDoor
namespace Go.Proofs.YtfpohfifdfbpkaaGreatDoor
open Go.RowKit Scour Go.Lib
theorem pairCells_get : ∀ (M : List Ent) (q : Nat) (e : Ent), M[q]? = some e -> (zn M)[q * 2]? = some (.pointer (some ⟨e.bm, 0, none⟩)) /\ (zn M)[q * 2 + 1]? = some (.pointer (some ⟨e.br, 0, none⟩))
 | [], q, e, h => by simp at h
 | x :: M, 0, e, h => by
   obtain rfl : x = e := by simpa using h
   exact ⟨rfl, rfl⟩
 | x :: M, q + 1, e, h => by
   have := pairCells_get M q e (by simpa using h)
   have e1 : (q + 1) * 2 = q * 2 + 2 := by omega
   rw [e1]
   exact this
theorem pairCells_len (M : List Ent) : (zn M).length = M.length * 2 := by
 induction M with
 | nil => rfl
 | cons x M ih =>
   have : zn (x :: M) = [.pointer (some ⟨x.bm, 0, none⟩), .pointer (some ⟨x.br, 0, none⟩)] ++ zn M := rfl
   rw [this, List.length_append, ih]; simp; omega
theorem drewN_fr {T : Nat -> Nat} {w : World} (n : Nat) : Fr T w (w.drewN n) T := zl (below_drewN (Below.refl _ _) n)
set_option maxHeartbeats 4000000 in
set_option maxRecDepth 100000 in
theorem step_compile (bw : Nat) (T : Nat -> Nat) (M : List Ent) (vms vby vli : Value) (E F : List Sl) (mb : Ext) (o : OpD) (w : World) (hW : LW w bw T M vms vby vli E F mb) (hO : o.OK w w.heap.size) (hk : o.k = 1) (hMl : M.length < 900000000000) :
  Calls Tryz.prog 31 #[.pointer (some ⟨bw, 0, none⟩), .agg #[.int .i64 o.k, .int .i64 o.a, .int .i64 o.b, .string o.s, .slice o.ap o.ts.length o.cap]] w fun r w' => r = .returned (.bool true) /\ jR bw T M E F mb w w' := by
 have HC : Hid (∀ ob, Calls Tryz.prog 48 #[.pointer (some ⟨bw, 0, none⟩), .slice o.ap o.ts.length o.cap] (w.alloc ob) fun e w' => e = .returned (.bool true) /\ jR bw T M E F mb w w') := zB (fun ob => by
  have hb : Below w.heap.size w (w.alloc ob) := (Below.refl _ _).alloc (Nat.le_refl _) _
  refine (compiled_any bw T M vms vby vli E F mb o (w.alloc ob) (hW.below hb) ⟨hO.ab, hO.ss, (hO.txt.below hb (Nat.le_refl _)).up hb.size, hO.nil, hO.len, hO.each⟩ hMl).mono ?_
  rintro e w' ⟨rfl, T', M', vms', k1, k2, k3⟩
  exact ⟨rfl, T', M', vms', vby, vli, E, F, mb, k1, (zl hb).trans k2, k3, by omega, by omega, Ext.Le.refl _⟩)
 clear hW hO
 obtain ⟨k, a, b, s, ap, ts, cap⟩ := o
 simp only [] at hk HC ⊢
 subst hk
 go_enter Tryz.func31, Tryz.ntmps31
 go_wp2_with (go_at_call 48; refine (zA HC _).mono ?_; rintro e w' ⟨rfl, hA⟩; have HA := zB hA; clear hA)
 go_ret
 exact ⟨rfl, zA HA⟩
set_option maxHeartbeats 4000000 in
set_option maxRecDepth 100000 in
theorem step_none (bw : Nat) (T : Nat -> Nat) (vms vby vli : Value) (E F : List Sl) (mb : Ext) (o : OpD) (w : World) (hW : LW w bw T [] vms vby vli E F mb) (hk : 2 <= o.k /\ o.k <= 9 /\ o.k ≠ 6 /\ o.k ≠ 8) :
  Calls Tryz.prog 31 #[.pointer (some ⟨bw, 0, none⟩), .agg #[.int .i64 o.k, .int .i64 o.a, .int .i64 o.b, .string o.s, .slice o.ap o.ts.length o.cap]] w fun r w' => r = .returned (.bool true) /\ jR bw T [] E F mb w w' := by
 have hbl := (Array.getElem?_eq_some_iff.1 hW.blk).1
 obtain ⟨am, cm, hvm⟩ : ∃ am cm, vms = .slice am 0 cm := by
  rcases hW.ms.2 with ⟨h, h0⟩ | ⟨g, cap, cur, h, _⟩
  ·exact ⟨none, 0, by rw [h]⟩
  ·exact ⟨_, cap, h⟩
 subst hvm
 have c0 : w.cell? ⟨bw, 0, none⟩ = some (.slice am 0 cm) := by rw [zC hW.blk]; rfl
 have cb : ∀ o1, (w.alloc o1).cell? ⟨bw, 0, none⟩ = some (.slice am 0 cm) := fun o1 => (((Below.refl w.heap.size w).alloc (Nat.le_refl _) o1).cell (p := ⟨bw, 0, none⟩) hbl).trans c0
 have HA : Hid (∀ o1, jR bw T [] E F mb w (w.alloc o1)) := zB (fun o1 => by
  have hb : Below w.heap.size w (w.alloc o1) := (Below.refl _ _).alloc (Nat.le_refl _) _
  exact ⟨T, [], _, vby, vli, E, F, mb, hW.below hb, zl hb, by simp, by omega, by omega, Ext.Le.refl _⟩)
 clear hW
 obtain ⟨k, a, b, s, ap, ts, cap⟩ := o
 simp only [] at hk ⊢
 have b1 : (k == 1) = false := by simp only [beq_eq_false_iff_ne, ne_eq]; omega
 have b6 : (k == 6) = false := by simp only [beq_eq_false_iff_ne, ne_eq]; omega
 have b8 : (k == 8) = false := by simp only [beq_eq_false_iff_ne, ne_eq]; omega
 have j1 : ¬ k < 2 := by omega
 have j2 : ¬ 9 < k := by omega
 clear hk
 go_enter Tryz.func31, Tryz.ntmps31
 go_wp2
 go_ret
 exact ⟨rfl, zA HA _⟩
set_option maxHeartbeats 4000000 in
set_option maxRecDepth 100000 in
theorem step_asked (bw : Nat) (T : Nat -> Nat) (M : List Ent) (vms vby vli : Value) (E F : List Sl) (mb : Ext) (o : OpD) (w : World) (hW : LW w bw T M vms vby vli E F mb) (hO : o.OK w w.heap.size) (hk : 2 <= o.k /\ o.k <= 9 /\ o.k ≠ 6 /\ o.k ≠ 8) (hAsk : AskOK o.k) (hM0 : 0 < M.length) (hMl : M.length < 900000000000)
  (hE : E.length < 900000000000) (hF : F.length < 900000000000) (hX : mb.Small) :
  Calls Tryz.prog 31 #[.pointer (some ⟨bw, 0, none⟩), .agg #[.int .i64 o.k, .int .i64 o.a, .int .i64 o.b, .string o.s, .slice o.ap o.ts.length o.cap]] w fun r w' => r = .returned (.bool true) /\ jR bw T M E F mb w w' := by
 have hbl := (Array.getElem?_eq_some_iff.1 hW.blk).1
 obtain ⟨g, cm, hvm, lg⟩ : ∃ g cm, vms = .slice (some ⟨g, 0, none⟩) M.length cm /\ g < w.heap.size := by
  rcases hW.ms.2 with ⟨h, h0⟩ | ⟨g, cap, cur, h, _, hg, _⟩
  ·omega
  ·exact ⟨g, cap, h, (Array.getElem?_eq_some_iff.1 hg).1⟩
 subst hvm
 obtain ⟨hp1, hp2⟩ := pickI_lt o.a M.length (by omega)
 obtain ⟨q, hq⟩ : ∃ q : Nat, pickI o.a M.length = q := ⟨(pickI o.a M.length).toNat, by omega⟩
 have hqM : q < M.length := by omega
 obtain ⟨e, he⟩ : ∃ e, M[q]? = some e := ⟨_, List.getElem?_eq_getElem hqM⟩
 have hem : e ∈ M := List.mem_of_getElem? he
 obtain ⟨g1, g2⟩ := pairCells_get M q e he
 have hpl := pairCells_len M
 have HPK : Hid (∀ W, Calls Tryz.prog 51 #[.int .i64 o.a, .int .i64 M.length] W fun e w' => e = .returned (.int .i64 q) /\ w' = W) := zB (fun W => by
  have := lawPick_any o.a M.length W (by omega) (by omega) hO.ab
  rw [hq] at this
  exact this)
 have hs : o.s.size < 1000000000000 := by have := hO.ss; omega
 have HRD : Hid (∀ T' vby' vli' E' F' mb' W, LW W bw T' M (.slice (some ⟨g, 0, none⟩) M.length cm) vby' vli' E' F' mb' -> W.cell? ⟨bw, 0, none⟩ = some (.slice (some ⟨g, 0, none⟩) M.length cm) /\ W.cell? ⟨g, q * 2, none⟩ = some (.pointer (some ⟨e.bm, 0, none⟩)) /\ W.cell? ⟨g, q * 2 + 1, none⟩ = some (.pointer (some ⟨e.br, 0, none⟩))) := zB (fun T' vby' vli' E' F' mb' W h => by
  refine ⟨by rw [zC h.blk]; rfl, ?_, ?_⟩
  ·rw [h.ms.cellAt (q * 2) (by omega)]; exact g1
  ·rw [h.ms.cellAt (q * 2 + 1) (by omega)]; exact g2)
 have HASK : Hid (∀ ob n, Calls Tryz.prog 52 #[.pointer (some ⟨bw, 0, none⟩), .agg #[.pointer (some ⟨e.bm, 0, none⟩), .pointer (some ⟨e.br, 0, none⟩)], .agg #[.int .i64 o.k, .int .i64 o.a, .int .i64 o.b, .string o.s, .slice o.ap o.ts.length o.cap]] ((w.alloc ob).drewN n) fun r w' => r = .returned (.bool true) /\ jR bw T M E F mb w w' /\ w'.heap[w.heap.size]? = some ob /\ w'.cell? ⟨bw, 0, none⟩ = some (.slice (some ⟨g, 0, none⟩) M.length cm) /\ w'.cell? ⟨g, q * 2, none⟩ = some (.pointer (some ⟨e.bm, 0, none⟩)) /\ w'.cell? ⟨g, q * 2 + 1, none⟩ = some (.pointer (some ⟨e.br, 0, none⟩))) := zB (fun ob n => by
  obtain ⟨hz, hfz⟩ := hW.zero ob
  have hbd : Below (w.alloc ob).heap.size (w.alloc ob) ((w.alloc ob).drewN n) := below_drewN (Below.refl _ _) n
  refine (hAsk bw (tag0 T w.heap.size) M _ vby vli E F mb o e _ hem (hz.below hbd) rfl hs hE hF hX).mono ?_
  rintro r w' ⟨rfl, T', vby', vli', E', F', mb', k1, k2, k3, k4, k5⟩
  refine ⟨rfl, ⟨T', M, _, vby', vli', E', F', mb', k1, (hfz.trans (zl hbd)).trans k2, by omega, k3, k4, k5⟩, ?_, zA HRD _ _ _ _ _ _ _ k1⟩
  have := (k2.zero w.heap.size (by simp) (by unfold tag0; rw [if_pos rfl])).1
  rw [this]
  exact heap_alloc_new w ob)
 obtain ⟨r1, r2, r3⟩ := zA HRD _ _ _ _ _ _ w hW
 have x1 : ∀ o1, (w.alloc o1).cell? ⟨bw, 0, none⟩ = some (.slice (some ⟨g, 0, none⟩) M.length cm) := fun o1 => (((Below.refl w.heap.size w).alloc (Nat.le_refl _) o1).cell (p := ⟨bw, 0, none⟩) hbl).trans r1
 have x2 : ∀ o1, (w.alloc o1).cell? ⟨g, q * 2, none⟩ = some (.pointer (some ⟨e.bm, 0, none⟩)) := fun o1 => (((Below.refl w.heap.size w).alloc (Nat.le_refl _) o1).cell (p := ⟨g, q * 2, none⟩) lg).trans r2
 have x3 : ∀ o1, (w.alloc o1).cell? ⟨g, q * 2 + 1, none⟩ = some (.pointer (some ⟨e.br, 0, none⟩)) := fun o1 => (((Below.refl w.heap.size w).alloc (Nat.le_refl _) o1).cell (p := ⟨g, q * 2 + 1, none⟩) lg).trans r3
 have i0 : ((M.length : Int) == 0) = false := by simp only [beq_eq_false_iff_ne, ne_eq]; omega
 have i1 : (q : Int) < (M.length : Int) := by omega
 have i2 : (0 : Int) <= (q : Int) := by omega
 clear hW hO g1 g2 hpl he hem hq hp1 hp2 r1 r2 r3 hAsk
 obtain ⟨k, a, b, s, ap, ts, cap⟩ := o
 simp only [] at hk HASK HPK ⊢
 have b1 : (k == 1) = false := by simp only [beq_eq_false_iff_ne, ne_eq]; omega
 have b6 : (k == 6) = false := by simp only [beq_eq_false_iff_ne, ne_eq]; omega
 have b8 : (k == 8) = false := by simp only [beq_eq_false_iff_ne, ne_eq]; omega
 have j1 : ¬ k < 2 := by omega
 have j2 : ¬ 9 < k := by omega
 clear hk
 go_enter Tryz.func31, Tryz.ntmps31
 go_wp2_with fail
 go_region_held3 (fun w' => w'.cell? ⟨w.heap.size, 0, none⟩ = some (.int .i64 k) /\ w'.cell? ⟨w.heap.size, 1, none⟩ = some (.int .i64 a) /\ w'.cell? ⟨w.heap.size, 2, none⟩ = some (.int .i64 b) /\ w'.cell? ⟨w.heap.size, 3, none⟩ = some (.string s) /\ w'.cell? ⟨w.heap.size, 4, none⟩ = some (.slice ap ts.length cap) /\ w'.cell? ⟨bw, 0, none⟩ = some (.slice (some ⟨g, 0, none⟩) M.length cm) /\ w'.cell? ⟨g, q * 2, none⟩ = some (.pointer (some ⟨e.bm, 0, none⟩)) /\ w'.cell? ⟨g, q * 2 + 1, none⟩ = some (.pointer (some ⟨e.br, 0, none⟩))) (go_keep)
  (first | (go_at_call 51; refine (zA HPK _).mono ?_; rintro e w' ⟨rfl, hw⟩; have hw' := hw.symm; clear hw; subst hw') | (go_at_call 52; refine (zA HASK _ _).mono ?_; rintro e w' ⟨rfl, hA, hb0, k1, k2, k3⟩; have HA := zB hA; have y0 := zC hb0 0; have y1 := zC hb0 1; have y2 := zC hb0 2; have y3 := zC hb0 3; have y4 := zC hb0 4; simp at y0 y1 y2 y3 y4; clear hA hb0))
 go_wp2
 go_ret
 exact ⟨rfl, zA HA⟩
theorem step_any (bw : Nat) (T : Nat -> Nat) (M : List Ent) (vms vby vli : Value) (E F : List Sl) (mb : Ext) (o : OpD) (w : World) (hW : LW w bw T M vms vby vli E F mb) (hO : o.OK w w.heap.size) (hk : o.k ∈ [(1 : Int), 2, 3, 4]) (hMl : M.length < 900000000000)
  (hE : E.length < 900000000000) (hF : F.length < 900000000000) (hX : mb.Small) :
  Calls Tryz.prog 31 #[.pointer (some ⟨bw, 0, none⟩), .agg #[.int .i64 o.k, .int .i64 o.a, .int .i64 o.b, .string o.s, .slice o.ap o.ts.length o.cap]] w fun r w' => r = .returned (.bool true) /\ jR bw T M E F mb w w' := by
 have h4 : o.k = 1 \/ o.k = 2 \/ o.k = 3 \/ o.k = 4 := by simpa using hk
 rcases h4 with h1 | h4
 ·exact step_compile bw T M vms vby vli E F mb o w hW hO h1 hMl
 ·cases M with
  | nil => exact step_none bw T vms vby vli E F mb o w hW (by omega)
  | cons x M => exact step_asked bw T (x :: M) vms vby vli E F mb o w hW hO (by omega) (fun bw T M vms vby vli E F mb o' e w he hW hk hs hE hF _ => asked_any bw T M vms vby vli E F mb o' e he w hW (by omega) hs hE hF) (by simp) hMl hE hF hX
end Go.Proofs.YtfpohfifdfbpkaaGreatDoor
namespace Go.Proofs.YtfpohfifdfbpkaaGreatDoor
open Go.ChangeShapes Go.WideShapes Go.ChangeAt Go.RowKit Scour
theorem bytes_eta (s : ByteArray) : (⟨s.data.toList.toArray⟩ : ByteArray) = s := by cases s; simp
set_option maxRecDepth 100000 in
theorem open_op {H : Type} {enc : TypeId × Value -> H} {W : World} {sp : Nat -> Bool} {hd : Bool} {fuel : Nat} {cs : List Value} {x : DataW H × List MemPlace} (h : DataW.trod enc Tryz.prog W 0 sp hd fuel 70 cs = some x) (hb : Rows.uptoBulk x.1 <= 1048576) :
  ∃ o : OpD, cs = o.vals /\ o.OK W W.heap.size := by
 obtain ⟨xs, n, rfl, rfl, hl, hxs, hf⟩ := DataW.trod_struct Tryz.underlying70 h
 have hl5 : cs.length = 5 := hl.trans (by kernel_rfl)
 obtain ⟨c0, c1, c2, c3, c4, rfl⟩ : ∃ c0 c1 c2 c3 c4, cs = [c0, c1, c2, c3, c4] := by
  match cs, hl5 with
  | [c0, c1, c2, c3, c4], _ => exact ⟨c0, c1, c2, c3, c4, rfl⟩
 have hx5 : xs.length = 5 := hxs.trans rfl
 obtain ⟨y0, y1, y2, y3, y4, rfl⟩ : ∃ y0 y1 y2 y3 y4, xs = [y0, y1, y2, y3, y4] := by
  match xs, hx5 with
  | [c0, c1, c2, c3, c4], _ => exact ⟨c0, c1, c2, c3, c4, rfl⟩
 have f0 : DataW.trod enc Tryz.prog W 0 sp hd n 3 (([c0, c1, c2, c3, c4].drop 0).take (Tryz.prog.cellsOf 3)) = some y0 := hf 0 _ rfl
 have f1 : DataW.trod enc Tryz.prog W 0 sp hd n 3 (([c0, c1, c2, c3, c4].drop 1).take (Tryz.prog.cellsOf 3)) = some y1 := hf 1 _ rfl
 have f2 : DataW.trod enc Tryz.prog W 0 sp hd n 3 (([c0, c1, c2, c3, c4].drop 2).take (Tryz.prog.cellsOf 3)) = some y2 := hf 2 _ rfl
 have f3 : DataW.trod enc Tryz.prog W 0 sp hd n 9 (([c0, c1, c2, c3, c4].drop 3).take (Tryz.prog.cellsOf 9)) = some y3 := hf 3 _ rfl
 have f4 : DataW.trod enc Tryz.prog W 0 sp hd n 26 (([c0, c1, c2, c3, c4].drop 4).take (Tryz.prog.cellsOf 26)) = some y4 := hf 4 _ rfl
 clear hf
 have e0 : Tryz.prog.cellsOf 3 = 1 := by kernel_rfl
 have e3 : Tryz.prog.cellsOf 9 = 1 := by kernel_rfl
 have e4 : Tryz.prog.cellsOf 26 = 1 := by kernel_rfl
 simp only [e0, e3, e4, List.drop, List.take] at f0 f1 f2 f3 f4
 obtain ⟨k, hk, _, _⟩ := DataW.trod_int Tryz.underlying3 f0
 obtain ⟨a, ha, _, wa⟩ := DataW.trod_int Tryz.underlying3 f1
 obtain ⟨b, hb2, _, _⟩ := DataW.trod_int Tryz.underlying3 f2
 obtain ⟨s, hs, hy3, _⟩ := DataW.trod_string Tryz.underlying9 f3
 obtain rfl : c0 = .int .i64 k := by simpa using hk
 obtain rfl : c1 = .int .i64 a := by simpa using ha
 obtain rfl : c2 = .int .i64 b := by simpa using hb2
 obtain rfl : c3 = .string s := by simpa using hs
 have hab := bounds_i64 wa
 simp only [Rows.uptoBulk, List.map, Rows.uptoBulkAll] at hb
 have hss : s.size < 100000000 := by
  rw [hy3] at hb
  simp only [Rows.uptoBulk] at hb
  have : s.data.toList.length = s.size := by simp
  omega
 rcases open_strings Tryz.underlying26 Tryz.underlying9 e3 f4 with ⟨hcs, _⟩ | ⟨x, l, c, ss, hcs, _, hl, hm, hz, hy4, hcell, hws⟩
 ·obtain rfl : c4 = .slice none 0 0 := by simpa using hcs
  exact ⟨⟨k, a, b, s, none, [], 0⟩, rfl, ⟨by omega, hss, fun h => absurd h (Nat.lt_irrefl _), fun _ => ⟨rfl, rfl⟩, Nat.zero_le _, fun i h => absurd h (Nat.not_lt_zero _)⟩⟩
 ·obtain rfl : c4 = .slice (some x) l c := by simpa using hcs
  have hll : l <= ss.length := by rw [hz]; split <;> omega
  have hb4 : Rows.uptoBulk y4.1 <= 1048576 := by omega
  rw [hy4] at hb4
  simp only [Rows.uptoBulk] at hb4
  have hlen := bulk_len (strs (H := H) (ss.take l))
  rw [show (strs (H := H) (ss.take l)).length = l by simp [strs]; omega] at hlen
  have htl : ((ss.take l).map (fun t => t.data.toList)).length = l := by simp; omega
  have hpat : ∀ i, i < l -> pat ((ss.take l).map (fun t => t.data.toList)) i = (ss.getD i ByteArray.empty).data.toList := fun i hi => by
   simp [pat, List.getD, hi, show i < ss.length by omega]
  refine ⟨⟨k, a, b, s, some x, (ss.take l).map (fun t => t.data.toList), c⟩, ?_, ⟨by omega, hss, ?_, fun h => (by cases h), ?_, ?_⟩⟩
  ·unfold OpD.vals; rw [htl]
  ·intro h0
   rw [htl] at h0
   obtain ⟨b', off, spot⟩ := x
   have hc := hcell 0 (by omega)
   have hspot : spot = none := by simpa [Addr.add] using World.cell?_spot hc
   subst hspot
   refine ⟨b', off, ?_, rfl, fun i hi => ?_⟩
   ·have := World.block_lt_of_cell? W _ hc
    rw [zg] at this
    exact this
   ·have hi' : i < l := by rw [htl] at hi; exact hi
    have := hcell i (by omega)
    rw [zg] at this
    rw [this, hpat i hi', bytes_eta]
  ·simp only [] at htl ⊢
   rw [htl]
   omega
  ·intro i hi
   simp only [] at hi ⊢
   rw [htl] at hi
   rw [hpat i hi]
   have hmem : (DataW.lit (H := H) (.string (ss.getD i ByteArray.empty).data.toList)) ∈ strs (H := H) (ss.take l) := by
    unfold strs
    refine List.mem_map.2 ⟨ss.getD i ByteArray.empty, ?_, rfl⟩
    have : (ss.take l)[i]? = some (ss.getD i ByteArray.empty) := by simp [List.getD, hi, show i < ss.length by omega]
    exact List.mem_of_getElem? this
   have h1 := bulk_mem hmem
   simp only [Rows.uptoBulk] at h1
   omega
structure OpsIn (W : World) (ap : Option Addr) (ops : List OpD) : Prop where
 at' : 0 < ops.length -> ∃ b o, b < W.heap.size /\ ap = some ⟨b, o, none⟩ /\ ∀ i p, ops[i]? = some p -> ∀ j, j < 5 -> W.cell? ⟨b, o + (i * 5 + j), none⟩ = p.vals[j]?
 ok : ∀ p, p ∈ ops -> p.OK W W.heap.size
 len : ops.length <= 1048576
set_option maxRecDepth 100000 in
theorem open_ops {H : Type} {enc : TypeId × Value -> H} {W : World} {sp : Nat -> Bool} {hd : Bool} {fuel : Nat} {ap : Option Addr} {len cap : Nat} {x : DataW H × List MemPlace} (h : DataW.trod enc Tryz.prog W 0 sp hd fuel 22 [.slice ap len cap] = some x) (hb : Rows.uptoBulk x.1 <= 1048576) :
  ∃ ops : List OpD, ops.length = len /\ OpsIn W ap ops /\ (ap = none -> cap = 0) := by
 rcases DataW.trod_slice Tryz.underlying22 h with ⟨h0, _⟩ | ⟨a, l, c, elems, rest, n, _, hcs, rfl, _, hlc, hm, hlen, hel, _, _⟩
 ·obtain ⟨rfl, rfl, rfl⟩ : ap = none /\ len = 0 /\ cap = 0 := by simpa using h0
  exact ⟨[], rfl, ⟨fun h => absurd h (Nat.lt_irrefl _), fun p hp => absurd hp List.not_mem_nil, Nat.zero_le _⟩, fun _ => rfl⟩
 ·obtain ⟨rfl, rfl, rfl⟩ : ap = some a /\ len = l /\ cap = c := by simpa using hcs
  have e5 : Tryz.prog.cellsOf 70 = 5 := by kernel_rfl
  rw [e5] at hel
  simp only [Rows.uptoBulk] at hb
  have hbl := bulk_len (elems.map (·.1))
  have hone : ∀ i, i < len -> ∃ o : OpD, o.OK W W.heap.size /\ ∀ j, j < 5 -> W.cell? ((a.add (i * 5)).add j) = o.vals[j]? := by
   intro i hi
   have h1 := hel i hi
   rw [List.getElem?_eq_getElem (by omega), Option.bind_eq_some_iff] at h1
   obtain ⟨cs', hcs', ht⟩ := h1
   have hmem : (elems[i]'(by omega)).1 ∈ elems.map (·.1) := List.mem_map.2 ⟨_, List.getElem_mem _, rfl⟩
   have hb1 := bulk_mem hmem
   obtain ⟨o, rfl, hok⟩ := open_op ht (by omega)
   exact ⟨o, hok, cells_get hcs'⟩
  obtain ⟨f, hf⟩ : ∃ f : Nat -> OpD, ∀ i, i < len -> (f i).OK W W.heap.size /\ ∀ j, j < 5 -> W.cell? ((a.add (i * 5)).add j) = (f i).vals[j]? := by
   refine ⟨fun i => if hi : i < len then (hone i hi).choose else ⟨0, 0, 0, ByteArray.empty, none, [], 0⟩, fun i hi => ?_⟩
   simp only [dif_pos hi]
   exact (hone i hi).choose_spec
  refine ⟨(List.range len).map f, by simp, ⟨fun h0 => ?_, fun p hp => ?_, by simp only [List.length_map, List.length_range] at hbl ⊢; omega⟩, fun h => by cases h⟩
  ·simp only [List.length_map, List.length_range] at h0
   obtain ⟨b, off, spot⟩ := a
   have hc := (hf 0 h0).2 0 (by omega)
   have hv : (f 0).vals[0]? = some (.int .i64 (f 0).k) := rfl
   rw [hv] at hc
   have hspot : spot = none := by simpa [Addr.add] using World.cell?_spot hc
   subst hspot
   refine ⟨b, off, ?_, rfl, fun i p hp j hj => ?_⟩
   ·have := World.block_lt_of_cell? W _ hc
    simpa [Addr.add] using this
   ·have hi : i < len := by
     have := (List.getElem?_eq_some_iff.1 hp).1
     simpa using this
    simp [hi] at hp
    have := (hf i hi).2 j hj
    rw [zg, zg] at this
    rw [← hp, ← this]
    congr 2
    omega
  ·obtain ⟨i, hi, rfl⟩ := List.mem_map.1 hp
   exact (hf i (by simpa using hi)).1
end Go.Proofs.YtfpohfifdfbpkaaGreatDoor
