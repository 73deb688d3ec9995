import Derived.Test.YtfpohfifdfbpkaaGreatDoorBulk
import Derived.Test.YtfpohfifdfbpkaaGreatDoorErrT
import Derived.Test.YtfpohfifdfbpkaaGreatDoorQuietW
import Derived.ChangeSlices
import Derived.Test.YtfpohfifdfbpkaaGreatDoorFedDef
namespace Go.Proofs.YtfpohfifdfbpkaaGreatDoor
open Go.ChangeShapes Go.WideShapes Go.ChangeAt Go.RowKit Scour
open Go.ChangeMaps (open_string shut_string)
set_option linter.unusedVariables false
theorem open_nums {H : Type} {enc : TypeId × Value -> H} {W : World} {fuel : Nat} {cs : List Value} {x : DataW H × List MemPlace} (h : DataW.trod enc Tryz.prog W 0 (fun _ => true) true fuel 24 cs = some x) (hb : Rows.uptoBulk x.1 <= 1048576) : ∃ ao c zs, cs = [.slice ao (zs : List Int).length c] /\ IntsIn W W.heap.size ao zs /\ zs.length <= 1048576 := by
 rcases open_ints Tryz.underlying24 Tryz.underlying3 (by kernel_rfl) h with ⟨rfl, rfl⟩ | ⟨a, len, cap, zs, rfl, _, hl, hm, hz, rfl, hcell, hwf⟩
 ·exact ⟨none, 0, [], rfl, fun i hi => absurd hi (Nat.not_lt_zero _), Nat.zero_le _⟩
 ·have hzl : zs.length = cap := by simpa using hz
  have hsl : (zs.take len).length = len := by rw [List.length_take]; omega
  refine ⟨some a, cap, zs.take len, by rw [hsl], fun j hj => ?_, ?_⟩
  ·rw [hsl] at hj
   have h1 := hcell j (by omega)
   obtain ⟨b, off, spot⟩ := a
   have hc := hcell 0 (by omega)
   have hspot : spot = none := by simpa [Addr.add] using World.cell?_spot hc
   subst hspot
   have hj2 : j < zs.length := by omega
   have e1 : zs.getD j 0 = zs[j] := by simp [List.getD, hj2]
   have e2 : (zs.take len).getD j 0 = zs[j] := by simp [List.getD, hj, hj2]
   have hw := hwf _ (List.getElem_mem hj2)
   have hbd := bounds_i64 hw
   rw [zg] at h1
   refine ⟨b, off, World.block_lt_of_cell? W _ h1, rfl, by rw [h1, e1, e2], by rw [e2]; omega, by rw [e2]; omega⟩
  ·rw [hsl]
   have h2 := bulk_len (H := H) (lits .i64 (zs.take len))
   simp only [Rows.uptoBulk] at hb
   have h3 : (lits (H := H) .i64 (zs.take len)).length = len := by simp [lits]; omega
   omega
theorem open_texts {H : Type} {enc : TypeId × Value -> H} {W : World} {fuel : Nat} {a0 : Option Addr} {len0 cap0 : Nat} {x : DataW H × List MemPlace} (hf : DataW.trod enc Tryz.prog W 0 (fun _ => true) true fuel 26 (Value.slice a0 len0 cap0).cells.toList = some x) : ∃ ss, StrsIn W W.heap.size a0 len0 ss /\ len0 <= ss.length /\ len0 <= maxLen /\ ∀ i, i < len0 -> (ss.getD i .empty).size <= maxLen := by
 rcases open_strings Tryz.underlying26 Tryz.underlying9 (by kernel_rfl) hf with ⟨hcs, _⟩ | ⟨x, l, c, ss, hcs, _, hl, hm, hz, _, hcell, hws⟩
 ·simp [Value.cells] at hcs
  obtain ⟨rfl, rfl, rfl⟩ := hcs
  exact ⟨[], fun h => absurd h (Nat.lt_irrefl _), Nat.le_refl _, Nat.zero_le _, fun i h => absurd h (Nat.not_lt_zero _)⟩
 ·simp [Value.cells] at hcs
  obtain ⟨rfl, rfl, rfl⟩ := hcs
  have hz' : ss.length = cap0 := by simpa using hz
  refine ⟨ss, fun hp => ?_, by omega, by omega, fun i hi => hws _ (by simp [List.getD, show i < ss.length by omega])⟩
  obtain ⟨b, off, spot⟩ := x
  have hc := hcell 0 (by omega)
  have hspot : spot = none := by simpa [Addr.add] using World.cell?_spot hc
  subst hspot
  refine ⟨b, off, ?_, rfl, fun i hi => ?_⟩
  ·have := World.block_lt_of_cell? W _ hc
   rw [zg] at this
   exact this
  ·have := hcell i (by omega)
   rw [zg] at this
   exact this
theorem text_eta (s : ByteArray) : s = ⟨(s.data.toList).toArray⟩ := rfl
theorem fndLaidOut : laidOutB Tryz.prog = true := by kernel_rfl
theorem fndReads (os : Os) {H : Type} (enc : TypeId × Value -> H) : ∃ ds places, DataW.whole enc Tryz.prog ((handWorld os).forCall (fun _ _ => 0) ⟨#[], #[Value.slice none 0 0, Value.string ⟨#[]⟩, Value.slice none 0 0], []⟩).memory Tryz.f9.params.toList Rows.foundSpec.vars false #[Value.slice none 0 0, Value.string ⟨#[]⟩, Value.slice none 0 0].toList 8 = some (ds, [], places) /\ ds = [.nil, .lit (.string []), .nil] :=
 ⟨_, [], by kernel_rfl, rfl⟩
set_option maxRecDepth 100000 in
theorem fndLifted (hSC : yl) (hFD : yU) (os : Os) (started : os.Started) (H : Type) (enc : TypeId × Value -> H) (F : Stop.Interp) :
  ReturnsInHanded {} Tryz.checked os 9 .any ((Rows.OpenSpec.upto Rows.foundSpec).preRow enc Tryz.prog Tryz.f9 Rows.foundUptoRow.domain false Rows.foundUptoRow.laid) (((Rows.OpenSpec.upto Rows.foundSpec).at F).post enc Tryz.prog Tryz.f9 false true false false) := by
 obtain ⟨ds0, places, hx, rfl⟩ := fndReads os enc
 refine returnsInHanded_of_row (C := Tryz.checked) (s := Rows.OpenSpec.upto Rows.foundSpec) handOwn started (by kernel_rfl) Tryz.func9
  (witness_row_at (enc := enc) (C := Tryz.checked) false (handWorld os) #[Value.slice none 0 0, Value.string ⟨#[]⟩, Value.slice none 0 0] rfl (by kernel_rfl) (by kernel_rfl) (by kernel_rfl)
   (OpenSpec.preRow_of_cond 8 hx (by kernel_rfl) (fun k hk => by cases hk; kernel_rfl) (by kernel_rfl) (hand_met os _))) ?_
 intro W base args ds gs before hval0 hW _ hcond _ hL _ _
 have hk := hcond _ rfl
 have hval : ∀ (j : Nat) t v, Tryz.f9.params[j]? = some t -> args[j]? = some v -> Value.okWide Tryz.prog W .any base t v := hval0
 have hW' := hW
 obtain ⟨p, q, hA0, hV, rfl, hfz, hnd⟩ := hW
 have hA : DataW.TrodAll enc Tryz.prog W 0 (fun _ => true) true Tryz.f9.params.toList args.toList ds p := hA0
 rw [Tryz.params9] at hA hval
 obtain ⟨v0, vs0, d0, ds0, p0, q0, hargs, rfl, rfl, h0, r0⟩ := trodAll_cons hA
 obtain ⟨v1, vs1, d1, ds1, p1, q1, rfl, rfl, rfl, h1, r1⟩ := trodAll_cons r0
 obtain ⟨v2, vs2, d2, ds2, p2, q2, rfl, rfl, rfl, h2, r2⟩ := trodAll_cons r1
 obtain ⟨rfl, rfl, rfl⟩ := trodAll_nil r2
 obtain rfl : args = #[v0, v1, v2] := by cases args; simp_all
 obtain ⟨rfl, rfl⟩ := trodVars_none hV
 obtain ⟨a0, len0, cap0, rfl⟩ := okWide_slice Tryz.underlying26 (hval 0 26 v0 rfl rfl)
 obtain ⟨a2, len2, cap2, rfl⟩ := okWide_slice Tryz.underlying24 (hval 2 24 v2 rfl rfl)
 have k0 := h0
 have k2 := h2
 have lt0 : ∀ x ∈ p0, x.block < W.heap.size := by obtain ⟨m, hm⟩ := k0; exact DataW.trod_lt m _ _ _ hm
 have lt2 : ∀ x ∈ p2, x.block < W.heap.size := by obtain ⟨m, hm⟩ := k2; exact DataW.trod_lt m _ _ _ hm
 have hbk := of_decide_eq_true hk
 simp only [List.append_nil, Rows.uptoBulkAll] at hbk
 obtain ⟨ss, w0, w00, w01, w02⟩ : ∃ ss, StrsIn W W.heap.size a0 len0 ss /\ len0 <= ss.length /\ len0 <= maxLen /\ ∀ i, i < len0 -> (ss.getD i .empty).size <= maxLen := by
  obtain ⟨fuel, hf⟩ := h0
  exact open_texts hf
 obtain ⟨s1, rfl, rfl, rfl, w1⟩ := open_string Tryz.underlying9 (hval 1 9 v1 rfl rfl) h1
 simp only [Rows.uptoBulk] at hbk
 obtain ⟨zs, z1, z2, z3⟩ : ∃ zs : List Int, zs.length = len2 /\ IntsIn W W.heap.size a2 zs /\ zs.length <= 1048576 := by
  obtain ⟨fuel, hf⟩ := h2
  obtain ⟨ao, c, zs, e, e2, e3⟩ := open_nums hf (by simp only []; omega)
  simp [Value.cells] at e
  obtain ⟨rfl, rfl, rfl⟩ := e
  exact ⟨zs, rfl, e2, e3⟩
 subst z1
 clear hA0 hval0
 refine (found_any hSC hFD a0 len0 cap0 ss s1.data.toList a2 cap2 zs W w0 w00 w01 w02 (by omega) (by omega) z2 (yj hL)).mono fun e W' ⟨he, bel⟩ => ?_
 subst he
 exact ⟨_, rfl, _, _, _, [], _, [], hW', trodAll_mk1 (shut_bool Tryz.underlying4 _), (trodAll_cons_mk (Below.trod fndLaidOut (by kernel_rfl) (of_decide_eq_true (by kernel_rfl)) k0 bel lt0) (trodAll_cons_mk (shut_string Tryz.underlying9 w1) (trodAll_cons_mk (Below.trod fndLaidOut (by kernel_rfl) (of_decide_eq_true (by kernel_rfl)) k2 bel lt2) trodAll_mk0))), rfl, bel.frame _, fun h => by cases h⟩
theorem fndOver (hSC : yl) (hFD : yU) : Rows.FoundUptoSaid :=
 OpenClaim.holds_of_cond 9 Tryz.f9 rfl rfl rfl rfl rfl rfl rfl ⟨rfl, rfl, rfl, rfl, rfl⟩ rfl rfl rfl rfl rfl (by kernel_rfl) Tryz.func9 (by kernel_rfl)
  (of_decide_eq_true (by kernel_rfl)) (by unfold Func.isWrapper; first | (rw [if_pos (by decide +kernel)]; kernel_rfl) | (rw [if_neg (by decide +kernel)]; exact ⟨rfl, rfl⟩))
  (fun os started H enc _ F => by rw [OpenClaim.pre_eq_preRow]; exact fndLifted hSC hFD os started H enc F)
theorem fndPlain (f : FuncId) (fn : Func) (hf : Tryz.pinned.checked.prog.funcNamed "scour/scourkeep.Found" = some f) (hfn : Tryz.pinned.checked.prog.funcs[f]? = some fn) :
  true = Tryz.pinned.checked.prog.looks [] /\ ∀ (j : Nat) t, fn.params[j]? = some t -> Tryz.pinned.checked.prog.wantsStandIn t = false := by
 obtain rfl : f = 9 := Option.some.inj ((show Tryz.prog.funcNamed "scour/scourkeep.Found" = some 9 by kernel_rfl).symm.trans hf) |>.symm
 obtain rfl : fn = Tryz.f9 := (Option.some.inj (Tryz.func9.symm.trans hfn)).symm
 refine ⟨by kernel_rfl, fun j t ht => ?_⟩
 rw [Tryz.params9] at ht
 have hm : t = 26 \/ t = 9 \/ t = 24 := by
  have := Array.mem_of_getElem? ht
  simp at this
  omega
 rcases hm with rfl | rfl | rfl
 ·exact (show Tryz.prog.wantsStandIn 26 = false by kernel_rfl)
 ·exact (show Tryz.prog.wantsStandIn 9 = false by kernel_rfl)
 ·exact (show Tryz.prog.wantsStandIn 24 = false by kernel_rfl)
theorem foundUpto_of (hSC : yl) (hFD : yU) : Rows.FoundUptoCardSaid :=
 Claim7.holds_tied_plain_at .later [] _ _ _ _ (fndOver hSC hFD) (fun _ h => by cases h) (by kernel_rfl) (fun _ h => by cases h) foundUpto_row_tie rfl ⟨rfl, rfl⟩ (by kernel_rfl) rfl fndPlain (by kernel_rfl)
end Go.Proofs.YtfpohfifdfbpkaaGreatDoor
namespace Go.Proofs.YtfpohfifdfbpkaaGreatDoor
theorem foundUpto_card : Rows.FoundUptoCardSaid := foundUpto_of scan_ok feed_ok
end Go.Proofs.YtfpohfifdfbpkaaGreatDoor
