import Derived.Test.YtfpohfifdfbpkaaGreatDoorBoth
import Derived.Test.YtfpohfifdfbpkaaGreatDoorCards
import Derived.Test.YtfpohfifdfbpkaaGreatDoorTie
import Derived.WalkKit
import Derived.ProofKit
import Derived.OpenShut
import Derived.Deep.DeepHandedRow
import Derived.Lib.LaidTab
import Derived.LaidLaws
import Derived.LaidHandle
import Derived.Stop.Joined
namespace Go.Proofs.YtfpohfifdfbpkaaGreatDoor
open Go.RowKit Scour Go.Lib
def ErrT (w : World) : Prop := w.cell? ⟨0, 0, none⟩ = some (.iface 193 (.agg #[.pointer (some ⟨2, 81, none⟩)]))
theorem ErrT.pos {w : World} (h : ErrT w) : 0 < w.heap.size := by
 rcases Nat.eq_zero_or_pos w.heap.size with h0 | h1
 ·unfold ErrT at h
  simp [World.cell?, h0] at h
 ·exact h1
theorem ErrT.same {w w' : World} (h : ErrT w) (hb : w'.heap[0]? = w.heap[0]?) : ErrT w' := by
 unfold ErrT World.cell? at h ⊢
 simp only [hb]
 exact h
theorem ErrT.below {w w' : World} (h : ErrT w) (hb : Below w.heap.size w w') : ErrT w' := h.same (hb.block 0 h.pos)
end Go.Proofs.YtfpohfifdfbpkaaGreatDoor
namespace Go.Proofs.YtfpohfifdfbpkaaGreatDoor
open Go.ChangeShapes Go.WideShapes Go.ChangeAt Go.RowKit Scour
theorem handOwn : ownKnob Tryz.prog.godebug = none := by kernel_rfl
theorem handEt : Tryz.prog.globalNamed "errors.errorType" = some 0 := by kernel_rfl
theorem handRt : (Tryz.prog.cutTypes.find? (·.1 == "internal/reflectlite.rtype")).map (·.2) = some 193 := by kernel_rfl
theorem handSize : ∃ n, Tryz.prog.types.size = n /\ ((List.range n).filter fun t => Tryz.prog.rowNamed t [101, 114, 114, 111, 114]) = [81] := ⟨_, rfl, by kernel_rfl⟩
theorem yj {W : World} (h : laidMetH Tryz.prog [("errors.errorType", Rows.laid_errors_errorType)] W) : ErrT W := by
 have h' : laidMet Tryz.prog [] W /\ handlesMet Tryz.prog [("errors.errorType", Rows.laid_errors_errorType)] W := h
 obtain ⟨name, u, ty, e1, e2, e3, e4, e5⟩ := h'.2 _ (List.mem_singleton.2 rfl)
 have en : name = [101, 114, 114, 111, 114] := (Option.some.inj e1).symm
 subst en
 obtain rfl := Option.some.inj (handRt.symm.trans e2)
 obtain ⟨n, hn, hone⟩ := handSize
 have hm : ty ∈ (List.range n).filter fun t => Tryz.prog.rowNamed t [101, 114, 114, 111, 114] := List.mem_filter.2 ⟨List.mem_range.2 (by rw [← hn]; exact e3), e4⟩
 rw [hone] at hm
 obtain rfl := List.mem_singleton.1 hm
 have hh : typeHandle Tryz.prog 81 = .pointer (some ⟨2, 81, none⟩) := by kernel_rfl
 rw [hh] at e5
 simpa [ErrT] using World.var?_cell handEt e5 0
noncomputable def handWorld (os : Os) : World :=
 { World.holding Tryz.prog os ⟨#[], #[], []⟩ with heap := (World.holding Tryz.prog os ⟨#[], #[], []⟩).heap.modify 0 fun
  | .cells _ t frozen => .cells #[.iface 193 (.agg #[.pointer (some ⟨2, 81, none⟩)])] t frozen
  | o => o }
theorem hand_met (os : Os) (args : Array Value) : laidMetH Tryz.prog [("errors.errorType", Rows.laid_errors_errorType)] ((handWorld os).forCall (fun _ _ => 0) ⟨#[], args, []⟩).memory :=
 laidMetH_of_parts (laidMet_nil _ _) (by kernel_rfl)
end Go.Proofs.YtfpohfifdfbpkaaGreatDoor
