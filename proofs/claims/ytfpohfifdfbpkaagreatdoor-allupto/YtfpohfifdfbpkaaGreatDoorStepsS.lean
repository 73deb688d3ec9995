import Derived.Test.YtfpohfifdfbpkaaGreatDoorScanLaw
import Derived.Test.YtfpohfifdfbpkaaGreatDoorFlI
import Derived.Test.YtfpohfifdfbpkaaGreatDoorSaveLaw
import Derived.Test.YtfpohfifdfbpkaaGreatDoorLwT
namespace Go.Proofs.YtfpohfifdfbpkaaGreatDoor
open Go.RowKit Scour Go.Lib
theorem steps_every (hSC : yl) (hFD : yU) : StepOK [1, 2, 3, 4, 5, 6, 9, 7, 8] := by
 intro bw T M vms vby vli E F mb o w hW hO hk hMl hE hF hX hT h0
 have h7 : o.k = 1 \/ o.k = 5 \/ o.k = 6 \/ o.k = 9 \/ o.k = 7 \/ o.k = 8 \/ o.k = 2 \/ o.k = 3 \/ o.k = 4 := by
  have : o.k = 1 \/ o.k = 2 \/ o.k = 3 \/ o.k = 4 \/ o.k = 5 \/ o.k = 6 \/ o.k = 9 \/ o.k = 7 \/ o.k = 8 := by simpa using hk
  omega
 rcases h7 with h | h | h | h | h | h | h
 ·exact step_any bw T M vms vby vli E F mb o w hW hO (by simp [h]) hMl hE hF hX
 ·exact steps_save save_ok bw T M vms vby vli E F mb o w hW hO (by simp [h]) hMl hE hF hX hT h0
 ·exact step_load bw T M vms vby vli E F mb o w hW hO.ss h hMl hT
 ·cases M with
  | nil => exact step_none bw T vms vby vli E F mb o w hW (by omega)
  | cons x M => exact step_again bw T (x :: M) vms vby vli E F mb o w hW hO h hT (by simp) hMl hE
 ·cases M with
  | nil => exact step_none bw T vms vby vli E F mb o w hW (by omega)
  | cons x M => exact step_asked bw T (x :: M) vms vby vli E F mb o w hW hO (by omega) (by rw [h]; exact ask_scan hSC) (by simp) hMl hE hF hX
 ·by_cases hl : mb.L.length = 0
  ·exact step_feed0 bw T M vms vby vli E F mb o w hW h hl
  ·exact step_feed hFD bw T M vms vby vli E F mb o w hW hO h (by omega) hX
 ·exact step_any bw T M vms vby vli E F mb o w hW hO (by rcases h with h | h | h <;> simp [h]) hMl hE hF hX
theorem StepOK.sub {ks js : List Int} (h : StepOK ks) (hj : ∀ k, k ∈ js -> k ∈ ks) : StepOK js :=
 fun bw T M vms vby vli E F mb o w hW hO hk => h bw T M vms vby vli E F mb o w hW hO (hj _ hk)
theorem steps_scan (hSC : yl) (hFD : yU) : StepOK [1, 6, 9, 7, 8] := (steps_every hSC hFD).sub (fun k hk => by
 have : k = 1 \/ k = 6 \/ k = 9 \/ k = 7 \/ k = 8 := by simpa using hk
 rcases this with rfl | rfl | rfl | rfl | rfl <;> simp)
end Go.Proofs.YtfpohfifdfbpkaaGreatDoor
