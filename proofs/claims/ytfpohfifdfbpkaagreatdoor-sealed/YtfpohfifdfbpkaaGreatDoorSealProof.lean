import Derived.Test.YtfpohfifdfbpkaaGreatDoorBulk
import Derived.Test.YtfpohfifdfbpkaaGreatDoorErrT
import Derived.Test.YtfpohfifdfbpkaaGreatDoorSealed
import Derived.ChangeSlices
namespace Go.Proofs.YtfpohfifdfbpkaaGreatDoor
open Go.ChangeShapes Go.WideShapes Go.ChangeAt Go.RowKit Scour
open Go.ChangeMaps (open_string shut_string)
set_option linter.unusedVariables false
theorem sealLaidOut : laidOutB Tryz.prog = true := by kernel_rfl
theorem sealReads (os : Os) {H : Type} (enc : TypeId × Value -> H) : ∃ places, DataW.whole enc Tryz.prog ((handWorld os).forCall (fun _ _ => 0) ⟨#[], #[.slice none 0 0, .int .i64 0, .int .i64 0, .int .i64 0, .int .u8 0], []⟩).memory Tryz.f7.params.toList Rows.sealedSpec.vars false #[Value.slice none 0 0, .int .i64 0, .int .i64 0, .int .i64 0, .int .u8 0].toList 8 = some ([.nil, .lit (.int .i64 0), .lit (.int .i64 0), .lit (.int .i64 0), .lit (.int .u8 0)], [], places) :=
 ⟨[], by kernel_rfl⟩
set_option maxRecDepth 100000 in
theorem sealLifted (os : Os) (started : os.Started) (H : Type) (enc : TypeId × Value -> H) (F : Stop.Interp) :
  ReturnsInHanded {} Tryz.checked os 7 .any ((OpenSpec.ofChange Rows.sealedSpec).preRow enc Tryz.prog Tryz.f7 Rows.sealedRow.domain false Rows.sealedRow.laid) (((OpenSpec.ofChange Rows.sealedSpec).at F).post enc Tryz.prog Tryz.f7 false true false false) := by
 obtain ⟨places, hx⟩ := sealReads os enc
 refine returnsInHanded_of_row (C := Tryz.checked) (s := OpenSpec.ofChange Rows.sealedSpec) handOwn started (by kernel_rfl) Tryz.func7
  (witness_row_at (enc := enc) (C := Tryz.checked) false (handWorld os) #[.slice none 0 0, .int .i64 0, .int .i64 0, .int .i64 0, .int .u8 0] rfl (by kernel_rfl) (by kernel_rfl) (by kernel_rfl)
   (OpenSpec.preRow_of_cond 8 hx (by kernel_rfl) (fun k hk => by cases hk) (by kernel_rfl) (hand_met os _))) ?_
 intro W base args ds gs before hval0 hW _ hcond _ hL _ _
 have hval : ∀ (j : Nat) t v, Tryz.f7.params[j]? = some t -> args[j]? = some v -> Value.okWide Tryz.prog W .any base t v := hval0
 have hW' := hW
 obtain ⟨p, q, hA0, hV, rfl, hfz, hnd⟩ := hW
 have hA : DataW.TrodAll enc Tryz.prog W 0 (fun _ => true) true Tryz.f7.params.toList args.toList ds p := hA0
 rw [Tryz.params7] at hA hval
 obtain ⟨v0, vs0, d0, ds0, p0, q0, hargs, rfl, rfl, h0, r0⟩ := trodAll_cons hA
 obtain ⟨v1, vs1, d1, ds1, p1, q1, rfl, rfl, rfl, h1, r1⟩ := trodAll_cons r0
 obtain ⟨v2, vs2, d2, ds2, p2, q2, rfl, rfl, rfl, h2, r2⟩ := trodAll_cons r1
 obtain ⟨v3, vs3, d3, ds3, p3, q3, rfl, rfl, rfl, h3, r3⟩ := trodAll_cons r2
 obtain ⟨v4, vs4, d4, ds4, p4, q4, rfl, rfl, rfl, h4, r4⟩ := trodAll_cons r3
 obtain ⟨rfl, rfl, rfl⟩ := trodAll_nil r4
 obtain rfl : args = #[v0, v1, v2, v3, v4] := by cases args; simp_all
 obtain ⟨rfl, rfl⟩ := trodVars_none hV
 obtain ⟨a0, len0, cap0, rfl⟩ := okWide_slice Tryz.underlying26 (hval 0 26 v0 rfl rfl)
 have k0 := h0
 have lt0 : ∀ x ∈ p0, x.block < W.heap.size := by obtain ⟨m, hm⟩ := k0; exact DataW.trod_lt m _ _ _ hm
 obtain ⟨ss, w0, w00, w01, w02⟩ : ∃ ss, StrsIn W W.heap.size a0 len0 ss /\ len0 <= ss.length /\ len0 <= maxLen /\ ∀ i, i < len0 -> (ss.getD i .empty).size <= maxLen := by
  obtain ⟨fuel, hf⟩ := h0
  rcases open_strings Tryz.underlying26 Tryz.underlying9 (by kernel_rfl) hf with ⟨hcs, _⟩ | ⟨x, l, c, ss, hcs, _, hl, hm, hz, _, hcell, hws⟩
  ·simp [Value.cells] at hcs
   obtain ⟨rfl, rfl, rfl⟩ := hcs
   exact ⟨[], fun h => absurd h (Nat.lt_irrefl _), Nat.le_refl _, Nat.zero_le _, fun i h => absurd h (Nat.not_lt_zero _)⟩
  ·simp [Value.cells] at hcs
   obtain ⟨rfl, rfl, rfl⟩ := hcs
   have hz' : ss.length = cap0 := by simpa using hz
   refine ⟨ss, fun hp => ?_, by omega, by omega, fun i hi => hws _ (by simp [List.getD, show i < ss.length by omega])⟩
   obtain ⟨b, off, spot⟩ := x
   have hc := hcell 0 (by omega)
   have hspot : spot = none := by simpa [Addr.add] using World.cell?_spot hc
   subst hspot
   refine ⟨b, off, ?_, rfl, fun i hi => ?_⟩
   ·have := World.block_lt_of_cell? W _ hc
    rw [zg] at this
    exact this
   ·have := hcell i (by omega)
    rw [zg] at this
    exact this
 obtain ⟨a1, rfl, rfl, rfl, x1⟩ := open_int Tryz.underlying3 (hval 1 3 v1 rfl rfl) h1
 obtain ⟨a2, rfl, rfl, rfl, x2⟩ := open_int Tryz.underlying3 (hval 2 3 v2 rfl rfl) h2
 obtain ⟨a3, rfl, rfl, rfl, x3⟩ := open_int Tryz.underlying3 (hval 3 3 v3 rfl rfl) h3
 obtain ⟨a4, rfl, rfl, rfl, x4⟩ := open_int Tryz.underlying5 (hval 4 5 v4 rfl rfl) h4
 have hm : a4 = ((UInt8.ofNat a4.toNat).toNat : Int) := by
  have e3 : IntKind.u8.min = 0 := rfl
  have e4 : IntKind.u8.max = 255 := rfl
  have x5 := x4
  simp only [Lit.wf, Bool.and_eq_true, decide_eq_true_eq] at x5
  rw [UInt8.toNat_ofNat']
  omega
 clear hA0 hval0
 have hany := sealed_any a0 len0 cap0 ss a1 a2 a3 (UInt8.ofNat a4.toNat) W w0 w00 w01 w02 (by have := bounds_i64 x1; omega) (by have := bounds_i64 x2; omega) (by have := bounds_i64 x3; omega) (yj hL)
 rw [← hm] at hany
 refine hany.mono fun e W' ⟨he, bel⟩ => ?_
 subst he
 exact ⟨_, rfl, _, _, _, [], _, [], hW', trodAll_mk1 (shut_bool Tryz.underlying4 _), (trodAll_cons_mk (Below.trod sealLaidOut (by kernel_rfl) (of_decide_eq_true (by kernel_rfl)) k0 bel lt0) (trodAll_cons_mk (shut_int Tryz.underlying3 x1) (trodAll_cons_mk (shut_int Tryz.underlying3 x2) (trodAll_cons_mk (shut_int Tryz.underlying3 x3) (trodAll_cons_mk (shut_int Tryz.underlying5 x4) trodAll_mk0))))), rfl, bel.frame _, fun h => by cases h⟩
theorem sealOver : Rows.SealedSaid :=
 OpenClaim.holds_of_cond 7 Tryz.f7 rfl rfl rfl rfl rfl rfl rfl ⟨rfl, rfl, rfl, rfl, rfl⟩ rfl rfl rfl rfl rfl (by kernel_rfl) Tryz.func7 (by kernel_rfl)
  (of_decide_eq_true (by kernel_rfl)) (by unfold Func.isWrapper; first | (rw [if_pos (by decide +kernel)]; kernel_rfl) | (rw [if_neg (by decide +kernel)]; exact ⟨rfl, rfl⟩))
  (fun os started H enc _ F => by rw [OpenClaim.pre_eq_preRow]; exact sealLifted os started H enc F)
theorem sealPlain (f : FuncId) (fn : Func) (hf : Tryz.pinned.checked.prog.funcNamed "scour/scourkeep.Sealed" = some f) (hfn : Tryz.pinned.checked.prog.funcs[f]? = some fn) :
  true = Tryz.pinned.checked.prog.looks [] /\ ∀ (j : Nat) t, fn.params[j]? = some t -> Tryz.pinned.checked.prog.wantsStandIn t = false := by
 obtain rfl : f = 7 := Option.some.inj ((show Tryz.prog.funcNamed "scour/scourkeep.Sealed" = some 7 by kernel_rfl).symm.trans hf) |>.symm
 obtain rfl : fn = Tryz.f7 := (Option.some.inj (Tryz.func7.symm.trans hfn)).symm
 refine ⟨by kernel_rfl, fun j t ht => ?_⟩
 rw [Tryz.params7] at ht
 have h2 : t = 26 \/ t = 3 \/ t = 5 := by have := Array.mem_of_getElem? ht; simp at this; omega
 rcases h2 with rfl | rfl | rfl
 ·exact (show Tryz.prog.wantsStandIn 26 = false by kernel_rfl)
 ·exact (show Tryz.prog.wantsStandIn 3 = false by kernel_rfl)
 ·exact (show Tryz.prog.wantsStandIn 5 = false by kernel_rfl)
theorem sealed_card : Rows.SealedCardSaid :=
 Claim7.holds_tied_plain_at .later [] _ _ _ _ sealOver (fun _ h => by cases h) (by kernel_rfl) (fun _ h => by cases h) sealed_row_tie rfl ⟨rfl, rfl⟩ (by kernel_rfl) rfl sealPlain (by kernel_rfl)
#print axioms sealed_card
end Go.Proofs.YtfpohfifdfbpkaaGreatDoor
