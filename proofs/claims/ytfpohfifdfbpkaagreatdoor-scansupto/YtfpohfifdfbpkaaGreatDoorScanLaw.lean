import Derived.Test.YtfpohfifdfbpkaaGreatDoorFed
import Derived.Test.YtfpohfifdfbpkaaGreatDoorLwL
import Derived.Test.YtfpohfifdfbpkaaGreatDoorPlays
namespace Go.Proofs.YtfpohfifdfbpkaaGreatDoor
open Go.RowKit Scour Go.Lib
theorem Tryz.infoFl : (Tryz.prog.info? 104).map (fun i => (i.zero, i.size, i.bytes)) = some (some (.agg #[.pointer none, .pointer none]), 2, 16) := by kernel_rfl
theorem ScanM.below {w w' : World} {bs : Nat} {g gm : List Nat} {ps S : List Str} {t : Str} (h : ScanM w bs g gm ps S t) (hb : Below w.heap.size w w') : ScanM w' bs g gm ps S t := h.same hb.size (fun k hk _ => hb.block k hk)
theorem LW.scan {w w2 W w' : World} {bw : Nat} {T : Nat -> Nat} {M : List Ent} {vms vby vli fs' : Value} {E F : List Sl} {mb : Ext} {e : Ent} {bs : Nat} {g' gm g : List Nat} {bt be : Nat}
  (h : LW w bw T M vms vby vli E F mb) (he : e ∈ M) (hb2 : Below w.heap.size w w2) (hM : yV w e.bm bt be g e.ps e.S) (hT : T e.bm = 1 /\ T bt = 1 /\ T be = 1 /\ ∀ k, k ∈ g -> T k = 1)
  (hS : ScanM w2 bs g' gm e.ps e.S []) (hgm : ∀ k, k ∈ gm -> k = e.bm \/ k = bt \/ k = be \/ k ∈ g) (hbs : w.heap.size <= bs) (hg' : ∀ k, k ∈ g' -> w.heap.size <= k)
  (hW : W = w2.alloc (.cells #[.pointer (some ⟨e.br, 0, none⟩), .string ⟨#[]⟩] 188))
  (hst : zw W w' bw 1 #[vms, mb.fs, vby, vli, mb.ma] 68 104 2 mb.fs fs' (mb.L.length + 1) (zY mb.L ++ [.pointer (some ⟨bs, 0, none⟩), .pointer (some ⟨w2.heap.size, 0, none⟩)])) :
  ∃ T' mb', LW w' bw T' M vms vby vli E F mb' /\ Fr T w w' T' /\ mb.Le mb' := by
 have hb3 : Below w.heap.size w W := by rw [hW]; exact hb2.alloc hb2.size _
 have hb23 : Below w2.heap.size w2 W := by rw [hW]; exact (Below.refl _ _).alloc (Nat.le_refl _) _
 have hL := h.below hb3
 have hs2 := hb2.size
 obtain ⟨vL, gS, cS, hR, r1, r2, r3⟩ := (hL.ents e he).rmach
 have hX : W.heap[w2.heap.size]? = some (.cells #[.pointer (some ⟨e.br, 0, none⟩), .string ⟨([] : Str).toArray⟩] 188 (0, 0)) := by rw [hW]; exact heap_alloc_new w2 _
 obtain ⟨l1, l2, l3⟩ := hS.lts
 have k := hL.flow (f := ⟨bs, w2.heap.size, e.br, e.ps, e.S, []⟩) (g := g') (gm := gm) (L := bs :: g') (gS := gS) (cS := cS) (vL := vL) (fs' := fs') (w' := w') (hS.below hb23) rfl hX hR (hL.ents e he).ok (fun k hk => by
  rcases List.mem_cons.1 hk with rfl | hk
  ·exact h.fresh _ hbs
  ·exact h.fresh k (hg' k hk)) (h.fresh _ hs2) (fun hk => by
  rcases List.mem_cons.1 hk with e1 | hk
  ·simp only [] at e1; omega
  ·have := l2 _ hk; simp only [] at this; omega) ⟨List.mem_cons_self, fun k hk => List.mem_cons_of_mem _ hk, fun k hk => by
  rcases hgm k hk with rfl | rfl | rfl | hk
  ·exact hT.1
  ·exact hT.2.1
  ·exact hT.2.2.1
  ·exact hT.2.2.2 k hk, r1, r2, r3⟩ hst
 exact ⟨_, _, k.1, (zl hb3).trans k.2, ⟨by simp [Ext.flow], by simp [Ext.flow], by simp [Ext.flow]⟩⟩
set_option maxHeartbeats 4000000 in
set_option maxRecDepth 100000 in
theorem asked_scan (hSC : yl) (bw : Nat) (T : Nat -> Nat) (M : List Ent) (vms vby vli : Value) (E F : List Sl) (mb : Ext) (e : Ent) (he : e ∈ M) (vl : Value) (a b : Int) (s : ByteArray) (w : World) (hW : LW w bw T M vms vby vli E F mb) (hX : mb.Small) :
  Calls Tryz.prog 52 #[.pointer (some ⟨bw, 0, none⟩), .agg #[.pointer (some ⟨e.bm, 0, none⟩), .pointer (some ⟨e.br, 0, none⟩)], .agg #[.int .i64 7, .int .i64 a, .int .i64 b, .string s, vl]] w fun r w' => r = .returned (.bool true) /\ ∃ T' mb', LW w' bw T' M vms vby vli E F mb' /\ Fr T w w' T' /\ mb.Le mb' := by
 obtain ⟨i0, hi, hz0, hz1, hz2⟩ := info_parts Tryz.infoFl
 obtain ⟨bt, be, g, hM, hT⟩ := (hW.ents e he).mach
 have hc := (hW.ents e he).ok
 have hbl := (Array.getElem?_eq_some_iff.1 hW.blk).1
 have HSC : Hid (∀ W, Below w.heap.size w W -> Calls Tryz.prog 25 #[.pointer (some ⟨e.bm, 0, none⟩)] W fun r w' => ∃ bs g' gm, r = .returned (.pointer (some ⟨bs, 0, none⟩)) /\ ScanM w' bs g' gm e.ps e.S [] /\ (∀ k, k ∈ gm -> k = e.bm \/ k = bt \/ k = be \/ k ∈ g) /\ W.heap.size <= bs /\ (∀ k, k ∈ g' -> W.heap.size <= k) /\ Below W.heap.size W w') := zB (fun W hb => hSC W e.bm bt be g e.ps e.S (hM.below hb) hc)
 have HW := zB hW
 have HM := zB hM
 have HT := zB hT
 have HE := zB he
 clear hSC hM hT hc hW he
 go_enter Tryz.func52, Tryz.ntmps52
 go_wp2_with fail
 refine (zA HSC _ (zf w _ _)).mono ?_
 rintro r w2 ⟨bs, g', gm, rfl, hS, hgm, hbs, hg', hb⟩
 have hs0 := hb.size
 simp only [World.alloc, Array.size_push] at hs0 hbs hg'
 have p1 := hb.cell (p := ⟨w.heap.size, 1, none⟩) (by simp only [World.alloc, Array.size_push]; omega)
 simp at p1
 have HB2 : Hid (Below w.heap.size w w2) := zB ((zf w _ _).trans (hb.mono (zf w _ _).size))
 have hL2 := (zA HW).below (zA HB2)
 have c1 : w2.cell? ⟨bw, 1, none⟩ = some mb.fs := by rw [zC hL2.blk]; rfl
 have HLW : Hid (LW (w2.alloc (.cells #[.pointer (some ⟨e.br, 0, none⟩), .string ⟨#[]⟩] 188)) bw T M vms vby vli E F mb) := zB (hL2.below ((Below.refl _ _).alloc (Nat.le_refl _) _))
 have HAF : Hid (∀ w' fs', zw (w2.alloc (.cells #[.pointer (some ⟨e.br, 0, none⟩), .string ⟨#[]⟩] 188)) w' bw 1 #[vms, mb.fs, vby, vli, mb.ma] 68 104 2 mb.fs fs' (mb.L.length + 1) (zY mb.L ++ [.pointer (some ⟨bs, 0, none⟩), .pointer (some ⟨w2.heap.size, 0, none⟩)]) -> ∃ T' mb', LW w' bw T' M vms vby vli E F mb' /\ Fr T w w' T' /\ mb.Le mb') := zB (fun w' fs' hst => (zA HW).scan (zA HE) (zA HB2) (zA HM) (zA HT) hS hgm (by omega) (fun k hk => by have := hg' k hk; omega) rfl hst)
 have HR4 := zB (zw.start (o := 1) (zA HLW).blk rfl (zA HLW).ext.row)
 have hXl := hX.l
 have HRD := zB ((zA HR4).ready #[.pointer (some ⟨bs, 0, none⟩), .pointer (some ⟨w2.heap.size, 0, none⟩)] (w2.heap.size + 1) (by simp))
 have hbw2 : bw < w2.heap.size := by omega
 clear hS hgm hbs hg' hb hL2
 obtain ⟨vf, hvf⟩ : ∃ vf, vf = mb.fs := ⟨_, rfl⟩
 rw [← hvf] at c1 HR4 HRD HAF
 clear hvf
 obtain ⟨xf, hxf⟩ : ∃ xf, xf = zY mb.L := ⟨_, rfl⟩
 rw [← hxf] at HR4 HRD HAF
 clear hxf
 obtain ⟨nL, hnL⟩ : ∃ nL, nL = mb.L.length := ⟨_, rfl⟩
 rw [← hnL] at HR4 HRD HAF hXl
 clear hnL HLW
 go_wp2_with fail
 go_region_law (refine step_append_lies _ rfl (.tmp 145) (.tmp 152) 62 rfl 0 104 i0 (.agg #[.pointer none, .pointer none]) 2 16 Tryz.underlying62 hi hz0 hz1 hz2 rfl (by decide) _ nL xf (by simp [Act.eval]) (zA HRD).1 ⟨w2.heap.size + 1, 0, none⟩ 1 1 [.pointer (some ⟨bs, 0, none⟩), .pointer (some ⟨w2.heap.size, 0, none⟩)] (by simp [Act.eval]) rfl (zA HRD).2 (by intro u hu; simp at hu; rcases hu with rfl | rfl <;> rfl) (by omega) (by unfold maxLen; omega) (by omega) (Nat.zero_le _) (w2.heap.size + 2) (by simp) ?_; intro g5 cg5 w5 ho5 hg5 hat5 hl5; obtain ⟨c5, f5⟩ := (zA HR4).behind (by decide) (by simp) _ (grown_drew hg5); have HR5 := zB ((zA HR4).step (by decide) #[.pointer (some ⟨bs, 0, none⟩), .pointer (some ⟨w2.heap.size, 0, none⟩)] (w2.heap.size + 1) (by simp) ho5 (grown_drew hg5) hat5); clear ho5 hg5 hat5 hl5)
 all_goals go_wp2_with fail
 all_goals go_ret
 all_goals exact ⟨rfl, zA HAF _ _ (zA HR5)⟩
end Go.Proofs.YtfpohfifdfbpkaaGreatDoor
namespace Go.Proofs.YtfpohfifdfbpkaaGreatDoor
open Go.RowKit Scour Go.Lib
theorem fed_any (hFD : yU) (bw : Nat) (T : Nat -> Nat) (M : List Ent) (vms vby vli : Value) (E F : List Sl) (mb : Ext) (i : Nat) (f : Flow) (o : OpD) (w : World) (hW : LW w bw T M vms vby vli E F mb) (hf : mb.L[i]? = some f) (hs : o.s.size < 100000000) (hX : mb.Small) :
  Calls Tryz.prog 50 #[.pointer (some ⟨bw, 0, none⟩), .agg #[.pointer (some ⟨f.bs, 0, none⟩), .pointer (some ⟨f.bx, 0, none⟩)], .agg #[.int .i64 o.k, .int .i64 o.a, .int .i64 o.b, .string o.s, .slice o.ap o.ts.length o.cap]] w fun r w' => r = .returned (.bool true) /\ FedAfter bw T M vms vby vli E F mb w w' := by
 have htx : o.s = ⟨(o.s.data.toList).toArray⟩ := rfl
 have hsl : o.s.data.toList.length < 100000000 := by rw [Array.length_toList]; exact hs
 by_cases h0 : o.s.toList = []
 ·by_cases h2 : (o.b.tmod 2 == 0) = true
  ·exact fed_lent hFD bw T M vms vby vli E F mb i f o.k o.a o.b o.s.data.toList o.s htx _ w hW hf hsl hX (Or.inr ⟨h0, h2⟩)
  ·have e0 : o.s.data.toList = [] := by rw [← ByteArray.toList_eq]; exact h0
   exact fed_nil hFD bw T M vms vby vli E F mb i f o.k o.a o.b o.s (by rw [e0] at htx; exact htx) _ w hW hf hX (by simpa using h2)
 ·exact fed_lent hFD bw T M vms vby vli E F mb i f o.k o.a o.b o.s.data.toList o.s htx _ w hW hf hsl hX (Or.inl h0)
theorem ask_scan (hSC : yl) : AskOK 7 := by
 intro bw T M vms vby vli E F mb o e w he hW hk hs hE hF hX
 obtain ⟨k, a, b, s, ap, ts, cap⟩ := o
 simp only [] at hk
 subst hk
 refine (asked_scan hSC bw T M vms vby vli E F mb e he _ a b s w hW hX).mono ?_
 rintro r w' ⟨rfl, T', mb', k1, k2, k3⟩
 exact ⟨rfl, T', vby, vli, E, F, mb', k1, k2, by omega, by omega, k3⟩
set_option maxHeartbeats 4000000 in
set_option maxRecDepth 100000 in
theorem step_feed0 (bw : Nat) (T : Nat -> Nat) (M : List Ent) (vms vby vli : Value) (E F : List Sl) (mb : Ext) (o : OpD) (w : World) (hW : LW w bw T M vms vby vli E F mb) (hk : o.k = 8) (h0 : mb.L.length = 0) :
  Calls Tryz.prog 31 #[.pointer (some ⟨bw, 0, none⟩), .agg #[.int .i64 o.k, .int .i64 o.a, .int .i64 o.b, .string o.s, .slice o.ap o.ts.length o.cap]] w fun r w' => r = .returned (.bool true) /\ jR bw T M E F mb w w' := by
 have hbl := (Array.getElem?_eq_some_iff.1 hW.blk).1
 obtain ⟨am, cm, hvm⟩ : ∃ am cm, mb.fs = .slice am 0 cm := by
  rcases hW.ext.row.2 with ⟨h, h0⟩ | ⟨g, cap, cur, h, _⟩
  ·exact ⟨none, 0, by rw [h]⟩
  ·exact ⟨_, cap, by rw [h, h0]⟩
 have c0 : w.cell? ⟨bw, 1, none⟩ = some (.slice am 0 cm) := by rw [zC hW.blk, ← hvm]; rfl
 have cb : ∀ o1, (w.alloc o1).cell? ⟨bw, 1, none⟩ = some (.slice am 0 cm) := fun o1 => (((Below.refl w.heap.size w).alloc (Nat.le_refl _) o1).cell (p := ⟨bw, 1, none⟩) hbl).trans c0
 have HA : Hid (∀ o1, jR bw T M E F mb w (w.alloc o1)) := zB (fun o1 => by
  have hb : Below w.heap.size w (w.alloc o1) := (Below.refl _ _).alloc (Nat.le_refl _) _
  exact ⟨T, M, _, vby, vli, E, F, mb, hW.below hb, zl hb, by omega, by omega, by omega, Ext.Le.refl _⟩)
 clear hW hvm
 obtain ⟨k, a, b, s, ap, ts, cap⟩ := o
 simp only [] at hk ⊢
 subst hk
 go_enter Tryz.func31, Tryz.ntmps31
 go_wp2
 go_ret
 exact ⟨rfl, zA HA _⟩
set_option maxHeartbeats 4000000 in
set_option maxRecDepth 100000 in
theorem step_feed (hFD : yU) (bw : Nat) (T : Nat -> Nat) (M : List Ent) (vms vby vli : Value) (E F : List Sl) (mb : Ext) (o : OpD) (w : World) (hW : LW w bw T M vms vby vli E F mb) (hO : o.OK w w.heap.size) (hk : o.k = 8) (hL0 : 0 < mb.L.length) (hX : mb.Small) :
  Calls Tryz.prog 31 #[.pointer (some ⟨bw, 0, none⟩), .agg #[.int .i64 o.k, .int .i64 o.a, .int .i64 o.b, .string o.s, .slice o.ap o.ts.length o.cap]] w fun r w' => r = .returned (.bool true) /\ jR bw T M E F mb w w' := by
 have hbl := (Array.getElem?_eq_some_iff.1 hW.blk).1
 have hXl := hX.l
 obtain ⟨g, cm, hvm, lg⟩ : ∃ g cm, mb.fs = .slice (some ⟨g, 0, none⟩) mb.L.length cm /\ g < w.heap.size := by
  rcases hW.ext.row.2 with ⟨h, h0⟩ | ⟨g, cap, cur, h, _, hg, _⟩
  ·omega
  ·exact ⟨g, cap, h, (Array.getElem?_eq_some_iff.1 hg).1⟩
 obtain ⟨hp1, hp2⟩ := pickI_lt o.a mb.L.length (by omega)
 obtain ⟨q, hq⟩ : ∃ q : Nat, pickI o.a mb.L.length = q := ⟨(pickI o.a mb.L.length).toNat, by omega⟩
 have hqM : q < mb.L.length := by omega
 obtain ⟨f, hf⟩ : ∃ f, mb.L[q]? = some f := ⟨_, List.getElem?_eq_getElem hqM⟩
 obtain ⟨g1, g2⟩ := flowCells_get mb.L q f hf
 have hpl := flowCells_len mb.L
 have HPK : Hid (∀ W, Calls Tryz.prog 51 #[.int .i64 o.a, .int .i64 mb.L.length] W fun e w' => e = .returned (.int .i64 q) /\ w' = W) := zB (fun W => by
  have := lawPick_any o.a mb.L.length W (by omega) (by omega) hO.ab
  rw [hq] at this
  exact this)
 have hs := hO.ss
 have HRD : Hid (∀ T' mb' W, LW W bw T' M vms vby vli E F mb' -> mb'.fs = mb.fs -> mb'.L.length = mb.L.length -> zY mb'.L = zY mb.L -> W.cell? ⟨bw, 1, none⟩ = some (.slice (some ⟨g, 0, none⟩) mb.L.length cm) /\ W.cell? ⟨g, q * 2, none⟩ = some (.pointer (some ⟨f.bs, 0, none⟩)) /\ W.cell? ⟨g, q * 2 + 1, none⟩ = some (.pointer (some ⟨f.bx, 0, none⟩))) := zB (fun T' mb' W h e1 e2 e3 => by
  have hr := h.ext.row
  rw [e1, e2, e3, hvm] at hr
  refine ⟨by rw [zC h.blk, ← hvm, ← e1]; rfl, ?_, ?_⟩
  ·rw [hr.cellAt (q * 2) (by omega)]; exact g1
  ·rw [hr.cellAt (q * 2 + 1) (by omega)]; exact g2)
 have HASK : Hid (∀ ob n, Calls Tryz.prog 50 #[.pointer (some ⟨bw, 0, none⟩), .agg #[.pointer (some ⟨f.bs, 0, none⟩), .pointer (some ⟨f.bx, 0, none⟩)], .agg #[.int .i64 o.k, .int .i64 o.a, .int .i64 o.b, .string o.s, .slice o.ap o.ts.length o.cap]] ((w.alloc ob).drewN n) fun r w' => r = .returned (.bool true) /\ jR bw T M E F mb w w' /\ w'.heap[w.heap.size]? = some ob /\ w'.cell? ⟨bw, 1, none⟩ = some (.slice (some ⟨g, 0, none⟩) mb.L.length cm) /\ w'.cell? ⟨g, q * 2, none⟩ = some (.pointer (some ⟨f.bs, 0, none⟩)) /\ w'.cell? ⟨g, q * 2 + 1, none⟩ = some (.pointer (some ⟨f.bx, 0, none⟩))) := zB (fun ob n => by
  obtain ⟨hz, hfz⟩ := hW.zero ob
  have hbd : Below (w.alloc ob).heap.size (w.alloc ob) ((w.alloc ob).drewN n) := below_drewN (Below.refl _ _) n
  refine (fed_any hFD bw (tag0 T w.heap.size) M _ vby vli E F mb q f o _ (hz.below hbd) hf hs hX).mono ?_
  rintro r w' ⟨rfl, T', mb', k1, k2, k3, k4, k5, k6⟩
  refine ⟨rfl, ⟨T', M, _, vby, vli, E, F, mb', k1, (hfz.trans (zl hbd)).trans k2, by omega, by omega, by omega, k3⟩, ?_, zA HRD _ _ _ k1 k4 k5 k6⟩
  have := (k2.zero w.heap.size (by simp) (by unfold tag0; rw [if_pos rfl])).1
  rw [this]
  exact heap_alloc_new w ob)
 obtain ⟨r1, r2, r3⟩ := zA HRD _ _ w hW rfl rfl rfl
 have x1 : ∀ o1, (w.alloc o1).cell? ⟨bw, 1, none⟩ = some (.slice (some ⟨g, 0, none⟩) mb.L.length cm) := fun o1 => (((Below.refl w.heap.size w).alloc (Nat.le_refl _) o1).cell (p := ⟨bw, 1, none⟩) hbl).trans r1
 have x2 : ∀ o1, (w.alloc o1).cell? ⟨g, q * 2, none⟩ = some (.pointer (some ⟨f.bs, 0, none⟩)) := fun o1 => (((Below.refl w.heap.size w).alloc (Nat.le_refl _) o1).cell (p := ⟨g, q * 2, none⟩) lg).trans r2
 have x3 : ∀ o1, (w.alloc o1).cell? ⟨g, q * 2 + 1, none⟩ = some (.pointer (some ⟨f.bx, 0, none⟩)) := fun o1 => (((Below.refl w.heap.size w).alloc (Nat.le_refl _) o1).cell (p := ⟨g, q * 2 + 1, none⟩) lg).trans r3
 have i0 : (0 : Int) < (mb.L.length : Int) := by omega
 have i1 : (q : Int) < (mb.L.length : Int) := by omega
 have i2 : (0 : Int) <= (q : Int) := by omega
 have i3 : decide ((0 : Int) < (mb.L.length : Int)) = true := decide_eq_true i0
 clear hW hO g1 g2 hpl hf hq hp1 hp2 r1 r2 r3 HRD hvm hX hL0
 obtain ⟨k, a, b, s, ap, ts, cap⟩ := o
 simp only [] at hk HASK HPK ⊢
 subst hk
 generalize mb.L.length = nL at *
 go_enter Tryz.func31, Tryz.ntmps31
 go_wp2_with fail
 go_region_held3 (fun w' => w'.cell? ⟨w.heap.size, 0, none⟩ = some (.int .i64 8) /\ w'.cell? ⟨w.heap.size, 1, none⟩ = some (.int .i64 a) /\ w'.cell? ⟨w.heap.size, 2, none⟩ = some (.int .i64 b) /\ w'.cell? ⟨w.heap.size, 3, none⟩ = some (.string s) /\ w'.cell? ⟨w.heap.size, 4, none⟩ = some (.slice ap ts.length cap) /\ w'.cell? ⟨bw, 1, none⟩ = some (.slice (some ⟨g, 0, none⟩) nL cm) /\ w'.cell? ⟨g, q * 2, none⟩ = some (.pointer (some ⟨f.bs, 0, none⟩)) /\ w'.cell? ⟨g, q * 2 + 1, none⟩ = some (.pointer (some ⟨f.bx, 0, none⟩))) (go_keep)
  (first | (go_at_call 51; refine (zA HPK _).mono ?_; rintro e w' ⟨rfl, hw⟩; have hw' := hw.symm; clear hw; subst hw') | (go_at_call 50; refine (zA HASK _ _).mono ?_; rintro e w' ⟨rfl, hA, hb0, k1, k2, k3⟩; have HA := zB hA; have y0 := zC hb0 0; have y1 := zC hb0 1; have y2 := zC hb0 2; have y3 := zC hb0 3; have y4 := zC hb0 4; simp at y0 y1 y2 y3 y4; clear hA hb0))
 go_wp2
 go_ret
 exact ⟨rfl, zA HA⟩
end Go.Proofs.YtfpohfifdfbpkaaGreatDoor
