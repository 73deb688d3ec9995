import Derived.Test.YtmmmhmdjcpajgaaLeafB
import Derived.Deep.RegionHeld3
namespace Go.Proofs.Ytmmmhmdjcpajgaa
open Go.RowKit

/-- What compare answers. -/
def cmpS (pa la pb lb : Int) : Int := orI (cmpI pa pb) (cmpI la lb)

set_option maxHeartbeats 1000000 in
theorem compare_any (pa la fa pb lb fb : Int) (w : World) :
    Calls Try.prog 55 #[.agg #[.int .i64 pa, .int .u8 la, .int .i64 fa], .agg #[.int .i64 pb, .int .u8 lb, .int .i64 fb]] w fun e w' => e = .returned (.int .i64 (cmpS pa la pb lb)) ∧ Below w.heap.size w w' := by
  go_enter Try.func55, Try.ntmps55
  go_wp2_with fail
  go_region_held3 (fun w' => w'.cell? ⟨w.heap.size, 0, none⟩ = some (.int .i64 pa) ∧ w'.cell? ⟨w.heap.size, 1, none⟩ = some (.int .u8 la) ∧ w'.cell? ⟨w.heap.size + 1, 0, none⟩ = some (.int .i64 pb) ∧ w'.cell? ⟨w.heap.size + 1, 1, none⟩ = some (.int .u8 lb)) (go_keep)
    (first | (go_at_call 72; refine (compareInt_any _ _ _).mono ?_; rintro e w' ⟨rfl, rfl⟩) | (go_at_call 73; refine (compareByte_any _ _ _).mono ?_; rintro e w' ⟨rfl, rfl⟩) | (go_at_call 71; refine (or_any _ (cmpI pa pb) (cmpI la lb) _ (by go_simp) (by go_simp)).mono ?_; rintro e w' ⟨rfl, rfl⟩))
  all_goals go_wp2
  all_goals go_ret
  all_goals exact ⟨rfl, ((((Below.refl _ _).alloc (Nat.le_refl _) _).alloc (by simp) _).alloc (by simp; omega) _).drew⟩
end Go.Proofs.Ytmmmhmdjcpajgaa
