import Derived.Test.YtfpohfifdfbpkaaGreatDoorStep
import Derived.Test.YtfpohfifdfbpkaaGreatDoorErrT
import Derived.Test.YtfpohfifdfbpkaaGreatDoorFlI
import Derived.Test.YtfpohfifdfbpkaaGreatDoorSaveLaw
namespace Go.Proofs.YtfpohfifdfbpkaaGreatDoor
open Go.ChangeShapes Go.WideShapes Go.ChangeAt Go.RowKit Scour
set_option linter.unusedVariables false
set_option maxHeartbeats 1000000 in
theorem files_any (ap : Option Addr) (cap : Nat) (ops : List OpD) (w : World) (hI : OpsIn w ap ops) (hnil : ap = none -> cap = 0) (hET : ErrT w) :
  Calls Tryz.prog 4 #[.slice ap ops.length cap] w fun e w' => e = .returned (.bool true) /\ Below w.heap.size w w' := by
 have hn2 : ap = none -> cap = 0 /\ ops.length = 0 := fun h => ⟨hnil h, by
  rcases Nat.eq_zero_or_pos ops.length with e | e
  ·exact e
  ·obtain ⟨b, o, _, h2, _⟩ := hI.at' e
   rw [h] at h2; cases h2⟩
 have HC : Hid (Calls Tryz.prog 12 #[.slice ap ops.length cap, .slice (some ⟨w.heap.size, 0, none⟩) 2 2] (w.alloc (.cells #[.int .i64 1, .int .i64 5] 3)) fun e w' => e = .returned (.bool true) /\ Below w.heap.size w w') := zB (by
  have hb : Below w.heap.size w (w.alloc (.cells #[.int .i64 1, .int .i64 5] 3)) := (Below.refl _ _).alloc (Nat.le_refl _) _
  have hs : (w.alloc (.cells #[.int .i64 1, .int .i64 5] 3)).heap.size = w.heap.size + 1 := by simp
  refine (plays_any [1, 5] (by decide) (steps_save save_ok) ap cap ops _ (fun h0 => ?_) (fun p hp => ((hI.ok p hp).below hb (Nat.le_refl _)).up hb.size) hI.len hn2 (hET.below hb) w.heap.size (by omega) (fun i hi => ?_)).mono ?_
  ·obtain ⟨b, o, h1, h2, h3⟩ := hI.at' h0
   exact ⟨b, o, by omega, h2, fun i p hp j hj => (hb.cell (p := ⟨b, o + (i * 5 + j), none⟩) h1).trans (h3 i p hp j hj)⟩
  ·rw [zC (heap_alloc_new w _)]
   have : i < 2 := hi
   rcases i with _ | _ | i
   ·rfl
   ·rfl
   ·omega
  ·rintro e w' ⟨rfl, h⟩
   exact ⟨rfl, hb.trans (h.mono (by omega))⟩)
 clear hI hnil hn2
 go_enter Tryz.func4, Tryz.ntmps4
 go_wp2_with (go_at_call 12; refine (zA HC).mono ?_; rintro e w' ⟨rfl, hb⟩)
 go_ret
 exact ⟨rfl, hb⟩
theorem fileLaidOut : laidOutB Tryz.prog = true := by kernel_rfl
theorem fileReads (os : Os) {H : Type} (enc : TypeId × Value -> H) : ∃ places, DataW.whole enc Tryz.prog ((handWorld os).forCall (fun _ _ => 0) ⟨#[], #[.slice none 0 0], []⟩).memory Tryz.f4.params.toList Rows.filesSpec.vars false #[Value.slice none 0 0].toList 8 = some ([.nil], [], places) :=
 ⟨[], by kernel_rfl⟩
set_option maxRecDepth 100000 in
theorem fileLifted (os : Os) (started : os.Started) (H : Type) (enc : TypeId × Value -> H) (F : Stop.Interp) :
  ReturnsInHanded {} Tryz.checked os 4 .any ((Rows.OpenSpec.upto Rows.filesSpec).preRow enc Tryz.prog Tryz.f4 Rows.filesUptoRow.domain false Rows.filesUptoRow.laid) (((Rows.OpenSpec.upto Rows.filesSpec).at F).post enc Tryz.prog Tryz.f4 false true false false) := by
 obtain ⟨places, hx⟩ := fileReads os enc
 refine returnsInHanded_of_row (C := Tryz.checked) (s := Rows.OpenSpec.upto Rows.filesSpec) handOwn started (by kernel_rfl) Tryz.func4
  (witness_row_at (enc := enc) (C := Tryz.checked) false (handWorld os) #[.slice none 0 0] rfl (by kernel_rfl) (by kernel_rfl) (by kernel_rfl)
   (OpenSpec.preRow_of_cond 8 hx (by kernel_rfl) (fun k hk => by cases hk; kernel_rfl) (by kernel_rfl) (hand_met os _))) ?_
 intro W base args ds gs before hval0 hW _ hcond _ hL _ _
 have hk := hcond _ rfl
 have hval : ∀ (j : Nat) t v, Tryz.f4.params[j]? = some t -> args[j]? = some v -> Value.okWide Tryz.prog W .any base t v := hval0
 have hW' := hW
 obtain ⟨p, q, hA0, hV, rfl, hfz, hnd⟩ := hW
 have hA : DataW.TrodAll enc Tryz.prog W 0 (fun _ => true) true Tryz.f4.params.toList args.toList ds p := hA0
 rw [Tryz.params4] at hA hval
 obtain ⟨v0, vs0, d0, ds0, p0, q0, hargs, rfl, rfl, h0, r0⟩ := trodAll_cons hA
 obtain ⟨rfl, rfl, rfl⟩ := trodAll_nil r0
 obtain rfl : args = #[v0] := by cases args; simp_all
 obtain ⟨rfl, rfl⟩ := trodVars_none hV
 obtain ⟨a0, len0, cap0, rfl⟩ := okWide_slice Tryz.underlying22 (hval 0 22 v0 rfl rfl)
 have k0 := h0
 have lt0 : ∀ x ∈ p0, x.block < W.heap.size := by obtain ⟨m, hm⟩ := k0; exact DataW.trod_lt m _ _ _ hm
 have hb : Rows.uptoBulk d0 <= 1048576 := by
  have h1 := of_decide_eq_true hk
  simp only [List.append_nil, Rows.uptoBulkAll] at h1
  omega
 obtain ⟨ops, w0, w1, w2⟩ : ∃ ops : List OpD, ops.length = len0 /\ OpsIn W a0 ops /\ (a0 = none -> cap0 = 0) := by
  obtain ⟨fuel, hf⟩ := h0
  exact open_ops hf hb
 subst w0
 clear hA0 hval0
 refine (files_any a0 cap0 ops W w1 w2 (yj hL)).mono fun e W' ⟨he, bel⟩ => ?_
 subst he
 exact ⟨_, rfl, _, _, _, [], _, [], hW', trodAll_mk1 (shut_bool Tryz.underlying4 _), (trodAll_cons_mk (Below.trod fileLaidOut (by kernel_rfl) (of_decide_eq_true (by kernel_rfl)) k0 bel lt0) trodAll_mk0), rfl, bel.frame _, fun h => by cases h⟩
theorem fileOver : Rows.FilesUptoSaid :=
 OpenClaim.holds_of_cond 4 Tryz.f4 rfl rfl rfl rfl rfl rfl rfl ⟨rfl, rfl, rfl, rfl, rfl⟩ rfl rfl rfl rfl rfl (by kernel_rfl) Tryz.func4 (by kernel_rfl)
  (of_decide_eq_true (by kernel_rfl)) (by unfold Func.isWrapper; first | (rw [if_pos (by decide +kernel)]; kernel_rfl) | (rw [if_neg (by decide +kernel)]; exact ⟨rfl, rfl⟩))
  (fun os started H enc _ F => by rw [OpenClaim.pre_eq_preRow]; exact fileLifted os started H enc F)
theorem filePlain (f : FuncId) (fn : Func) (hf : Tryz.pinned.checked.prog.funcNamed "scour/scourlaw.Files" = some f) (hfn : Tryz.pinned.checked.prog.funcs[f]? = some fn) :
  true = Tryz.pinned.checked.prog.looks [] /\ ∀ (j : Nat) t, fn.params[j]? = some t -> Tryz.pinned.checked.prog.wantsStandIn t = false := by
 obtain rfl : f = 4 := Option.some.inj ((show Tryz.prog.funcNamed "scour/scourlaw.Files" = some 4 by kernel_rfl).symm.trans hf) |>.symm
 obtain rfl : fn = Tryz.f4 := (Option.some.inj (Tryz.func4.symm.trans hfn)).symm
 refine ⟨by kernel_rfl, fun j t ht => ?_⟩
 rw [Tryz.params4] at ht
 obtain rfl : t = 22 := by simpa using Array.mem_of_getElem? ht
 exact (show Tryz.prog.wantsStandIn 22 = false by kernel_rfl)
theorem filesUpto_card : Rows.FilesUptoCardSaid :=
 Claim7.holds_tied_plain_at .later [] _ _ _ _ fileOver (fun _ h => by cases h) (by kernel_rfl) (fun _ h => by cases h) filesUpto_row_tie rfl ⟨rfl, rfl⟩ (by kernel_rfl) rfl filePlain (by kernel_rfl)
#print axioms filesUpto_card
end Go.Proofs.YtfpohfifdfbpkaaGreatDoor
