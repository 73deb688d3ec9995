import Derived.Test.YtfpohfifdfbpkaaGreatDoorBulk
import Derived.Test.YtfpohfifdfbpkaaGreatDoorErrT
import Derived.Test.YtfpohfifdfbpkaaGreatDoorCanon
import Derived.ChangeSlices
namespace Go.Proofs.YtfpohfifdfbpkaaGreatDoor
open Go.ChangeShapes Go.WideShapes Go.ChangeAt Go.RowKit Scour
open Go.ChangeMaps (open_string shut_string)
set_option linter.unusedVariables false
theorem open_bytes {H : Type} {enc : TypeId × Value -> H} {W : World} {fuel : Nat} {cs : List Value} {x : DataW H × List MemPlace} (h : DataW.trod enc Tryz.prog W 0 (fun _ => true) true fuel 27 cs = some x) : ∃ ao c s, cs = [.slice ao s.length c] /\ zh W ao c s /\ s.length <= c /\ c <= 9223372036854775807 /\ s.length <= 9223372036854775807 := by
 rcases open_ints Tryz.underlying27 Tryz.underlying5 (by kernel_rfl) h with ⟨rfl, rfl⟩ | ⟨a, len, cap, zs, rfl, _, hl, hm, hz, rfl, hcell, hwf⟩
 ·exact ⟨none, 0, [], rfl, Or.inl ⟨rfl, fun _ => rfl⟩, Nat.le_refl _, by omega, by simp⟩
 ·have hzl : zs.length = cap := by simpa using hz
  have hsl : ((zs.take len).map fun n => UInt8.ofNat n.toNat).length = len := by simp; omega
  refine ⟨some a, cap, (zs.take len).map fun n => UInt8.ofNat n.toNat, by rw [hsl], ?_, by omega, by unfold maxLen at hm; omega, by unfold maxLen at hm; omega⟩
  by_cases h0 : len = 0
  ·subst h0
   exact Or.inl ⟨by simp, fun e => by cases e⟩
  ·obtain ⟨b, off, spot⟩ := a
   have hc := hcell 0 (by omega)
   have hspot : spot = none := by simpa [Addr.add] using World.cell?_spot hc
   subst hspot
   refine Or.inr ⟨b, off, rfl, ?_, fun j hj => ?_⟩
   ·have := World.block_lt_of_cell? W _ hc
    rw [zg] at this
    exact this
   ·rw [hsl] at hj
    have h1 := hcell j (by omega)
    rw [zg] at h1
    rw [h1]
    have hj2 : j < zs.length := by omega
    have hw := hwf _ (List.getElem_mem hj2)
    have e1 : zs.getD j 0 = zs[j] := by simp [List.getD, hj2]
    have e2 : ((zs.take len).map fun n => UInt8.ofNat n.toNat).getD j 0 = UInt8.ofNat (zs[j]).toNat := by
     simp [List.getD, hj, hj2]
    rw [e1, e2]
    have hr : 0 <= zs[j] /\ zs[j] < 256 := by
     have e3 : IntKind.u8.min = 0 := rfl
     have e4 : IntKind.u8.max = 255 := rfl
     simp only [Lit.wf, Bool.and_eq_true, decide_eq_true_eq] at hw
     omega
    rw [UInt8.toNat_ofNat']
    congr 2
    omega
theorem canonLaidOut : laidOutB Tryz.prog = true := by kernel_rfl
theorem canonReads (os : Os) {H : Type} (enc : TypeId × Value -> H) : ∃ places, DataW.whole enc Tryz.prog ((handWorld os).forCall (fun _ _ => 0) ⟨#[], #[.slice none 0 0, .slice none 0 0], []⟩).memory Tryz.f6.params.toList Rows.canonicalSpec.vars false #[Value.slice none 0 0, Value.slice none 0 0].toList 8 = some ([.nil, .nil], [], places) :=
 ⟨[], by kernel_rfl⟩
set_option maxRecDepth 100000 in
theorem canonLifted (os : Os) (started : os.Started) (H : Type) (enc : TypeId × Value -> H) (F : Stop.Interp) :
  ReturnsInHanded {} Tryz.checked os 6 .any ((OpenSpec.ofChange Rows.canonicalSpec).preRow enc Tryz.prog Tryz.f6 Rows.canonicalRow.domain false Rows.canonicalRow.laid) (((OpenSpec.ofChange Rows.canonicalSpec).at F).post enc Tryz.prog Tryz.f6 false true false false) := by
 obtain ⟨places, hx⟩ := canonReads os enc
 refine returnsInHanded_of_row (C := Tryz.checked) (s := OpenSpec.ofChange Rows.canonicalSpec) handOwn started (by kernel_rfl) Tryz.func6
  (witness_row_at (enc := enc) (C := Tryz.checked) false (handWorld os) #[.slice none 0 0, .slice none 0 0] rfl (by kernel_rfl) (by kernel_rfl) (by kernel_rfl)
   (OpenSpec.preRow_of_cond 8 hx (by kernel_rfl) (fun k hk => by cases hk) (by kernel_rfl) (hand_met os _))) ?_
 intro W base args ds gs before hval0 hW _ hcond _ hL _ _
 have hval : ∀ (j : Nat) t v, Tryz.f6.params[j]? = some t -> args[j]? = some v -> Value.okWide Tryz.prog W .any base t v := hval0
 have hW' := hW
 obtain ⟨p, q, hA0, hV, rfl, hfz, hnd⟩ := hW
 have hA : DataW.TrodAll enc Tryz.prog W 0 (fun _ => true) true Tryz.f6.params.toList args.toList ds p := hA0
 rw [Tryz.params6] at hA hval
 obtain ⟨v0, vs0, d0, ds0, p0, q0, hargs, rfl, rfl, h0, r0⟩ := trodAll_cons hA
 obtain ⟨v1, vs1, d1, ds1, p1, q1, rfl, rfl, rfl, h1, r1⟩ := trodAll_cons r0
 obtain ⟨rfl, rfl, rfl⟩ := trodAll_nil r1
 obtain rfl : args = #[v0, v1] := by cases args; simp_all
 obtain ⟨rfl, rfl⟩ := trodVars_none hV
 obtain ⟨a0, len0, cap0, rfl⟩ := okWide_slice Tryz.underlying26 (hval 0 26 v0 rfl rfl)
 obtain ⟨a1, len1, cap1, rfl⟩ := okWide_slice Tryz.underlying27 (hval 1 27 v1 rfl rfl)
 have k0 := h0
 have k1 := h1
 have lt0 : ∀ x ∈ p0, x.block < W.heap.size := by obtain ⟨m, hm⟩ := k0; exact DataW.trod_lt m _ _ _ hm
 have lt1 : ∀ x ∈ p1, x.block < W.heap.size := by obtain ⟨m, hm⟩ := k1; exact DataW.trod_lt m _ _ _ hm
 obtain ⟨ss, w0, w00, w01, w02⟩ : ∃ ss, StrsIn W W.heap.size a0 len0 ss /\ len0 <= ss.length /\ len0 <= maxLen /\ ∀ i, i < len0 -> (ss.getD i .empty).size <= maxLen := by
  obtain ⟨fuel, hf⟩ := h0
  rcases open_strings Tryz.underlying26 Tryz.underlying9 (by kernel_rfl) hf with ⟨hcs, _⟩ | ⟨x, l, c, ss, hcs, _, hl, hm, hz, _, hcell, hws⟩
  ·simp [Value.cells] at hcs
   obtain ⟨rfl, rfl, rfl⟩ := hcs
   exact ⟨[], fun h => absurd h (Nat.lt_irrefl _), Nat.le_refl _, Nat.zero_le _, fun i h => absurd h (Nat.not_lt_zero _)⟩
  ·simp [Value.cells] at hcs
   obtain ⟨rfl, rfl, rfl⟩ := hcs
   have hz' : ss.length = cap0 := by simpa using hz
   refine ⟨ss, fun hp => ?_, by omega, by omega, fun i hi => hws _ (by simp [List.getD, show i < ss.length by omega])⟩
   obtain ⟨b, off, spot⟩ := x
   have hc := hcell 0 (by omega)
   have hspot : spot = none := by simpa [Addr.add] using World.cell?_spot hc
   subst hspot
   refine ⟨b, off, ?_, rfl, fun i hi => ?_⟩
   ·have := World.block_lt_of_cell? W _ hc
    rw [zg] at this
    exact this
   ·have := hcell i (by omega)
    rw [zg] at this
    exact this
 obtain ⟨s, hs1, hs2, hs3, hs4, hs5⟩ : ∃ s : Str, s.length = len1 /\ zh W a1 cap1 s /\ s.length <= cap1 /\ cap1 <= 9223372036854775807 /\ s.length <= 9223372036854775807 := by
  obtain ⟨fuel, hf⟩ := h1
  obtain ⟨ao, c, s, e, e2, e3, e4, e5⟩ := open_bytes hf
  simp [Value.cells] at e
  obtain ⟨rfl, rfl, rfl⟩ := e
  exact ⟨s, rfl, e2, e3, e4, e5⟩
 subst hs1
 clear hA0 hval0
 refine (canonical_any a0 len0 cap0 ss a1 cap1 s W w0 w00 w01 w02 hs2 hs3 hs4 hs5 (yj hL)).mono fun e W' ⟨he, bel⟩ => ?_
 subst he
 exact ⟨_, rfl, _, _, _, [], _, [], hW', trodAll_mk1 (shut_bool Tryz.underlying4 _), (trodAll_cons_mk (Below.trod canonLaidOut (by kernel_rfl) (of_decide_eq_true (by kernel_rfl)) k0 bel lt0) (trodAll_cons_mk (Below.trod canonLaidOut (by kernel_rfl) (of_decide_eq_true (by kernel_rfl)) k1 bel lt1) trodAll_mk0)), rfl, bel.frame _, fun h => by cases h⟩
theorem canonOver : Rows.CanonicalSaid :=
 OpenClaim.holds_of_cond 6 Tryz.f6 rfl rfl rfl rfl rfl rfl rfl ⟨rfl, rfl, rfl, rfl, rfl⟩ rfl rfl rfl rfl rfl (by kernel_rfl) Tryz.func6 (by kernel_rfl)
  (of_decide_eq_true (by kernel_rfl)) (by unfold Func.isWrapper; first | (rw [if_pos (by decide +kernel)]; kernel_rfl) | (rw [if_neg (by decide +kernel)]; exact ⟨rfl, rfl⟩))
  (fun os started H enc _ F => by rw [OpenClaim.pre_eq_preRow]; exact canonLifted os started H enc F)
theorem canonPlain (f : FuncId) (fn : Func) (hf : Tryz.pinned.checked.prog.funcNamed "scour/scourkeep.Canonical" = some f) (hfn : Tryz.pinned.checked.prog.funcs[f]? = some fn) :
  true = Tryz.pinned.checked.prog.looks [] /\ ∀ (j : Nat) t, fn.params[j]? = some t -> Tryz.pinned.checked.prog.wantsStandIn t = false := by
 obtain rfl : f = 6 := Option.some.inj ((show Tryz.prog.funcNamed "scour/scourkeep.Canonical" = some 6 by kernel_rfl).symm.trans hf) |>.symm
 obtain rfl : fn = Tryz.f6 := (Option.some.inj (Tryz.func6.symm.trans hfn)).symm
 refine ⟨by kernel_rfl, fun j t ht => ?_⟩
 rw [Tryz.params6] at ht
 have h2 : t = 26 \/ t = 27 := by simpa using Array.mem_of_getElem? ht
 rcases h2 with rfl | rfl
 ·exact (show Tryz.prog.wantsStandIn 26 = false by kernel_rfl)
 ·exact (show Tryz.prog.wantsStandIn 27 = false by kernel_rfl)
theorem canonical_card : Rows.CanonicalCardSaid :=
 Claim7.holds_tied_plain_at .later [] _ _ _ _ canonOver (fun _ h => by cases h) (by kernel_rfl) (fun _ h => by cases h) canonical_row_tie rfl ⟨rfl, rfl⟩ (by kernel_rfl) rfl canonPlain (by kernel_rfl)
#print axioms canonical_card
end Go.Proofs.YtfpohfifdfbpkaaGreatDoor
