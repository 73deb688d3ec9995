import Derived.Test.YtfpohfifdfbpkaaGreatDoorBulk
import Derived.Test.YtfpohfifdfbpkaaGreatDoorErrT
import Derived.Test.YtfpohfifdfbpkaaGreatDoorFoundCard
import Derived.ChangeSlices
import Derived.Test.YtfpohfifdfbpkaaGreatDoorFedDef
namespace Go.Proofs.YtfpohfifdfbpkaaGreatDoor
open Go.ChangeShapes Go.WideShapes Go.ChangeAt Go.RowKit Scour
open Go.ChangeMaps (open_string shut_string)
set_option linter.unusedVariables false
theorem quiLaidOut : laidOutB Tryz.prog = true := by kernel_rfl
theorem quiReads (os : Os) {H : Type} (enc : TypeId × Value -> H) : ∃ ds places, DataW.whole enc Tryz.prog ((handWorld os).forCall (fun _ _ => 0) ⟨#[], #[Value.slice none 0 0, Value.string ⟨#[]⟩, Value.slice none 0 0, Value.string ⟨#[]⟩], []⟩).memory Tryz.f10.params.toList Rows.quietSpec.vars false #[Value.slice none 0 0, Value.string ⟨#[]⟩, Value.slice none 0 0, Value.string ⟨#[]⟩].toList 8 = some (ds, [], places) /\ ds = [.nil, .lit (.string []), .nil, .lit (.string [])] :=
 ⟨_, [], by kernel_rfl, rfl⟩
set_option maxRecDepth 100000 in
theorem quiLifted (hSC : yl) (hFD : yU) (os : Os) (started : os.Started) (H : Type) (enc : TypeId × Value -> H) (F : Stop.Interp) :
  ReturnsInHanded {} Tryz.checked os 10 .any ((Rows.OpenSpec.upto Rows.quietSpec).preRow enc Tryz.prog Tryz.f10 Rows.quietUptoRow.domain false Rows.quietUptoRow.laid) (((Rows.OpenSpec.upto Rows.quietSpec).at F).post enc Tryz.prog Tryz.f10 false true false false) := by
 obtain ⟨ds0, places, hx, rfl⟩ := quiReads os enc
 refine returnsInHanded_of_row (C := Tryz.checked) (s := Rows.OpenSpec.upto Rows.quietSpec) handOwn started (by kernel_rfl) Tryz.func10
  (witness_row_at (enc := enc) (C := Tryz.checked) false (handWorld os) #[Value.slice none 0 0, Value.string ⟨#[]⟩, Value.slice none 0 0, Value.string ⟨#[]⟩] rfl (by kernel_rfl) (by kernel_rfl) (by kernel_rfl)
   (OpenSpec.preRow_of_cond 8 hx (by kernel_rfl) (fun k hk => by cases hk; kernel_rfl) (by kernel_rfl) (hand_met os _))) ?_
 intro W base args ds gs before hval0 hW _ hcond _ hL _ _
 have hk := hcond _ rfl
 have hval : ∀ (j : Nat) t v, Tryz.f10.params[j]? = some t -> args[j]? = some v -> Value.okWide Tryz.prog W .any base t v := hval0
 have hW' := hW
 obtain ⟨p, q, hA0, hV, rfl, hfz, hnd⟩ := hW
 have hA : DataW.TrodAll enc Tryz.prog W 0 (fun _ => true) true Tryz.f10.params.toList args.toList ds p := hA0
 rw [Tryz.params10] at hA hval
 obtain ⟨v0, vs0, d0, ds0, p0, q0, hargs, rfl, rfl, h0, r0⟩ := trodAll_cons hA
 obtain ⟨v1, vs1, d1, ds1, p1, q1, rfl, rfl, rfl, h1, r1⟩ := trodAll_cons r0
 obtain ⟨v2, vs2, d2, ds2, p2, q2, rfl, rfl, rfl, h2, r2⟩ := trodAll_cons r1
 obtain ⟨v3, vs3, d3, ds3, p3, q3, rfl, rfl, rfl, h3, r3⟩ := trodAll_cons r2
 obtain ⟨rfl, rfl, rfl⟩ := trodAll_nil r3
 obtain rfl : args = #[v0, v1, v2, v3] := by cases args; simp_all
 obtain ⟨rfl, rfl⟩ := trodVars_none hV
 obtain ⟨a0, len0, cap0, rfl⟩ := okWide_slice Tryz.underlying26 (hval 0 26 v0 rfl rfl)
 obtain ⟨a2, len2, cap2, rfl⟩ := okWide_slice Tryz.underlying24 (hval 2 24 v2 rfl rfl)
 have k0 := h0
 have k2 := h2
 have lt0 : ∀ x ∈ p0, x.block < W.heap.size := by obtain ⟨m, hm⟩ := k0; exact DataW.trod_lt m _ _ _ hm
 have lt2 : ∀ x ∈ p2, x.block < W.heap.size := by obtain ⟨m, hm⟩ := k2; exact DataW.trod_lt m _ _ _ hm
 have hbk := of_decide_eq_true hk
 simp only [List.append_nil, Rows.uptoBulkAll] at hbk
 obtain ⟨ss, w0, w00, w01, w02⟩ : ∃ ss, StrsIn W W.heap.size a0 len0 ss /\ len0 <= ss.length /\ len0 <= maxLen /\ ∀ i, i < len0 -> (ss.getD i .empty).size <= maxLen := by
  obtain ⟨fuel, hf⟩ := h0
  exact open_texts hf
 obtain ⟨s1, rfl, rfl, rfl, w1⟩ := open_string Tryz.underlying9 (hval 1 9 v1 rfl rfl) h1
 obtain ⟨s3, rfl, rfl, rfl, w3⟩ := open_string Tryz.underlying9 (hval 3 9 v3 rfl rfl) h3
 simp only [Rows.uptoBulk] at hbk
 obtain ⟨zs, z1, z2, z3⟩ : ∃ zs : List Int, zs.length = len2 /\ IntsIn W W.heap.size a2 zs /\ zs.length <= 1048576 := by
  obtain ⟨fuel, hf⟩ := h2
  obtain ⟨ao, c, zs, e, e2, e3⟩ := open_nums hf (by simp only []; omega)
  simp [Value.cells] at e
  obtain ⟨rfl, rfl, rfl⟩ := e
  exact ⟨zs, rfl, e2, e3⟩
 subst z1
 clear hA0 hval0
 refine (quiet_any hSC hFD a0 len0 cap0 ss s1.data.toList a2 cap2 zs s3.data.toList W w0 w00 w01 w02 (by omega) (by omega) z2 (by omega) (yj hL)).mono fun e W' ⟨he, bel⟩ => ?_
 subst he
 exact ⟨_, rfl, _, _, _, [], _, [], hW', trodAll_mk1 (shut_bool Tryz.underlying4 _), (trodAll_cons_mk (Below.trod quiLaidOut (by kernel_rfl) (of_decide_eq_true (by kernel_rfl)) k0 bel lt0) (trodAll_cons_mk (shut_string Tryz.underlying9 w1) (trodAll_cons_mk (Below.trod quiLaidOut (by kernel_rfl) (of_decide_eq_true (by kernel_rfl)) k2 bel lt2) (trodAll_cons_mk (shut_string Tryz.underlying9 w3) trodAll_mk0)))), rfl, bel.frame _, fun h => by cases h⟩
theorem quiOver (hSC : yl) (hFD : yU) : Rows.QuietUptoSaid :=
 OpenClaim.holds_of_cond 10 Tryz.f10 rfl rfl rfl rfl rfl rfl rfl ⟨rfl, rfl, rfl, rfl, rfl⟩ rfl rfl rfl rfl rfl (by kernel_rfl) Tryz.func10 (by kernel_rfl)
  (of_decide_eq_true (by kernel_rfl)) (by unfold Func.isWrapper; first | (rw [if_pos (by decide +kernel)]; kernel_rfl) | (rw [if_neg (by decide +kernel)]; exact ⟨rfl, rfl⟩))
  (fun os started H enc _ F => by rw [OpenClaim.pre_eq_preRow]; exact quiLifted hSC hFD os started H enc F)
theorem quiPlain (f : FuncId) (fn : Func) (hf : Tryz.pinned.checked.prog.funcNamed "scour/scourkeep.Quiet" = some f) (hfn : Tryz.pinned.checked.prog.funcs[f]? = some fn) :
  true = Tryz.pinned.checked.prog.looks [] /\ ∀ (j : Nat) t, fn.params[j]? = some t -> Tryz.pinned.checked.prog.wantsStandIn t = false := by
 obtain rfl : f = 10 := Option.some.inj ((show Tryz.prog.funcNamed "scour/scourkeep.Quiet" = some 10 by kernel_rfl).symm.trans hf) |>.symm
 obtain rfl : fn = Tryz.f10 := (Option.some.inj (Tryz.func10.symm.trans hfn)).symm
 refine ⟨by kernel_rfl, fun j t ht => ?_⟩
 rw [Tryz.params10] at ht
 have hm : t = 26 \/ t = 9 \/ t = 24 := by
  have := Array.mem_of_getElem? ht
  simp only [List.mem_toArray, List.mem_cons, List.not_mem_nil, or_false] at this
  rcases this with h | h | h | h
  ·exact Or.inl h
  ·exact Or.inr (Or.inl h)
  ·exact Or.inr (Or.inr h)
  ·exact Or.inr (Or.inl h)
 rcases hm with rfl | rfl | rfl
 ·exact (show Tryz.prog.wantsStandIn 26 = false by kernel_rfl)
 ·exact (show Tryz.prog.wantsStandIn 9 = false by kernel_rfl)
 ·exact (show Tryz.prog.wantsStandIn 24 = false by kernel_rfl)
theorem quietUpto_of (hSC : yl) (hFD : yU) : Rows.QuietUptoCardSaid :=
 Claim7.holds_tied_plain_at .later [] _ _ _ _ (quiOver hSC hFD) (fun _ h => by cases h) (by kernel_rfl) (fun _ h => by cases h) quietUpto_row_tie rfl ⟨rfl, rfl⟩ (by kernel_rfl) rfl quiPlain (by kernel_rfl)
end Go.Proofs.YtfpohfifdfbpkaaGreatDoor
namespace Go.Proofs.YtfpohfifdfbpkaaGreatDoor
theorem quietUpto_card : Rows.QuietUptoCardSaid := quietUpto_of scan_ok feed_ok
end Go.Proofs.YtfpohfifdfbpkaaGreatDoor
