import Derived.Test.YtfpohfifdfbpkaaGreatDoorLwL
namespace Go.Proofs.YtfpohfifdfbpkaaGreatDoor
open Go.RowKit Scour Go.Lib
set_option maxHeartbeats 16000000 in
set_option maxRecDepth 100000 in
theorem step_again (bw : Nat) (T : Nat -> Nat) (M : List Ent) (vms vby vli : Value) (E F : List Sl) (mb : Ext) (o : OpD) (w : World) (hW : LW w bw T M vms vby vli E F mb) (hO : o.OK w w.heap.size) (hk : o.k = 9) (hT : ErrT w) (hM0 : 0 < M.length) (hMl : M.length < 900000000000)
  (hE : E.length < 900000000000) :
  Calls Tryz.prog 31 #[.pointer (some ⟨bw, 0, none⟩), .agg #[.int .i64 o.k, .int .i64 o.a, .int .i64 o.b, .string o.s, .slice o.ap o.ts.length o.cap]] w fun r w' => r = .returned (.bool true) /\ jR bw T M E F mb w w' := by
 have hbl := (Array.getElem?_eq_some_iff.1 hW.blk).1
 obtain ⟨g, cm, hvm, lg⟩ : ∃ g cm, vms = .slice (some ⟨g, 0, none⟩) M.length cm /\ g < w.heap.size := by
  rcases hW.ms.2 with ⟨h, h0⟩ | ⟨g, cap, cur, h, _, hg, _⟩
  ·omega
  ·exact ⟨g, cap, h, (Array.getElem?_eq_some_iff.1 hg).1⟩
 subst hvm
 obtain ⟨hp1, hp2⟩ := pickI_lt o.a M.length (by omega)
 obtain ⟨q, hq⟩ : ∃ q : Nat, pickI o.a M.length = q := ⟨(pickI o.a M.length).toNat, by omega⟩
 have hqM : q < M.length := by omega
 obtain ⟨e, he⟩ : ∃ e, M[q]? = some e := ⟨_, List.getElem?_eq_getElem hqM⟩
 have hem : e ∈ M := List.mem_of_getElem? he
 obtain ⟨g1, g2⟩ := pairCells_get M q e he
 have hpl := pairCells_len M
 have HPK : Hid (∀ W, Calls Tryz.prog 51 #[.int .i64 o.a, .int .i64 M.length] W fun e w' => e = .returned (.int .i64 q) /\ w' = W) := zB (fun W => by
  have := lawPick_any o.a M.length W (by omega) (by omega) hO.ab
  rw [hq] at this
  exact this)
 have hs : o.s.size < 1000000000000 := by have := hO.ss; omega
 have HRD : Hid (∀ T' vby' vli' E' F' mb' W, LW W bw T' M (.slice (some ⟨g, 0, none⟩) M.length cm) vby' vli' E' F' mb' -> W.cell? ⟨bw, 0, none⟩ = some (.slice (some ⟨g, 0, none⟩) M.length cm) /\ W.cell? ⟨g, q * 2, none⟩ = some (.pointer (some ⟨e.bm, 0, none⟩)) /\ W.cell? ⟨g, q * 2 + 1, none⟩ = some (.pointer (some ⟨e.br, 0, none⟩))) := zB (fun T' vby' vli' E' F' mb' W h => by
  refine ⟨by rw [zC h.blk]; rfl, ?_, ?_⟩
  ·rw [h.ms.cellAt (q * 2) (by omega)]; exact g1
  ·rw [h.ms.cellAt (q * 2 + 1) (by omega)]; exact g2)
 have HASK : Hid (∀ ob n, Calls Tryz.prog 52 #[.pointer (some ⟨bw, 0, none⟩), .agg #[.pointer (some ⟨e.bm, 0, none⟩), .pointer (some ⟨e.br, 0, none⟩)], .agg #[.int .i64 9, .int .i64 o.a, .int .i64 o.b, .string o.s, .slice o.ap o.ts.length o.cap]] ((w.alloc ob).drewN n) fun r w' => r = .returned (.bool true) /\ jR bw T M E F mb w w') := zB (fun ob n => by
  have hb : Below w.heap.size w ((w.alloc ob).drewN n) := below_drewN ((Below.refl _ _).alloc (Nat.le_refl _) _) n
  refine (asked_again bw T M _ vby vli E F mb e hem _ o.a o.b o.s _ (hW.below hb) (hT.below hb) hMl hE).mono ?_
  rintro r w' ⟨rfl, hA⟩
  exact ⟨rfl, hA.below hb⟩)
 obtain ⟨r1, r2, r3⟩ := zA HRD _ _ _ _ _ _ w hW
 have x1 : ∀ o1, (w.alloc o1).cell? ⟨bw, 0, none⟩ = some (.slice (some ⟨g, 0, none⟩) M.length cm) := fun o1 => (((Below.refl w.heap.size w).alloc (Nat.le_refl _) o1).cell (p := ⟨bw, 0, none⟩) hbl).trans r1
 have x2 : ∀ o1, (w.alloc o1).cell? ⟨g, q * 2, none⟩ = some (.pointer (some ⟨e.bm, 0, none⟩)) := fun o1 => (((Below.refl w.heap.size w).alloc (Nat.le_refl _) o1).cell (p := ⟨g, q * 2, none⟩) lg).trans r2
 have x3 : ∀ o1, (w.alloc o1).cell? ⟨g, q * 2 + 1, none⟩ = some (.pointer (some ⟨e.br, 0, none⟩)) := fun o1 => (((Below.refl w.heap.size w).alloc (Nat.le_refl _) o1).cell (p := ⟨g, q * 2 + 1, none⟩) lg).trans r3
 have i0 : ((M.length : Int) == 0) = false := by simp only [beq_eq_false_iff_ne, ne_eq]; omega
 have i1 : (q : Int) < (M.length : Int) := by omega
 have i2 : (0 : Int) <= (q : Int) := by omega
 clear hW hO g1 g2 hpl he hem hq hp1 hp2 r1 r2 r3 hT hs
 obtain ⟨k, a, b, s, ap, ts, cap⟩ := o
 simp only [] at hk HASK HPK ⊢
 subst hk
 go_enter Tryz.func31, Tryz.ntmps31
 go_wp2_with fail
 go_region_with (first | (go_at_call 51; refine (zA HPK _).mono ?_; rintro e w' ⟨rfl, hw⟩; have hw' := hw.symm; clear hw; subst hw') | (go_at_call 52; refine (zA HASK _ 1).mono ?_; rintro e w' ⟨rfl, hA⟩; have HA := zB hA; clear hA))
 all_goals go_wp2
 all_goals go_ret
 all_goals exact ⟨rfl, zA HA⟩
end Go.Proofs.YtfpohfifdfbpkaaGreatDoor
