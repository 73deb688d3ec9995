import Derived.Test.YtmmmhmdjcpajgaaCompile
namespace Go.Proofs.Ytmmmhmdjcpajgaa
open Go.RowKit Scour

set_option maxHeartbeats 1000000 in
theorem states_any (bm bt be g : Nat) (ps S : List Str) (w : World) (hM : Mach w bm bt be g ps S) :
    Calls Try.prog 8 #[.pointer (some ⟨bm, 0, none⟩)] w fun e w' => e = .returned (.int .i64 S.length) ∧ w' = w := by
  obtain ⟨cap, par, lst, E, hT, hS⟩ := hM.ex
  have c0 : w.cell? ⟨bm, 0, none⟩ = some (.pointer (some ⟨bt, 0, none⟩)) := by rw [cell_of_blk hM.blk]; rfl
  have c1 : w.cell? ⟨bt, 0, none⟩ = some (.slice (some ⟨g, 0, none⟩) S.length cap) := by rw [cell_of_blk hT.blk]; rfl
  clear hT hS hM
  go_enter Try.func8, Try.ntmps8
  go_wp2
  go_ret
  exact ⟨rfl, rfl⟩

set_option maxHeartbeats 1000000 in
theorem mnext_low (b : Int) (bmp : Value) (n : Int) (w : World) (hn : n < 0) :
    Calls Try.prog 9 #[bmp, .int .i64 n, .int .u8 b] w fun e w' => e = .returned (.tuple #[.int .i64 0, .int .i64 1]) ∧ w' = w := by
  go_enter Try.func9, Try.ntmps9
  go_wp2
  go_ret2
  exact ⟨rfl, rfl⟩

set_option maxHeartbeats 1000000 in
theorem mnext_high (bm bt be g : Nat) (ps S : List Str) (w : World) (hM : Mach w bm bt be g ps S) (n b : Int) (hn : (S.length : Int) ≤ n) :
    Calls Try.prog 9 #[.pointer (some ⟨bm, 0, none⟩), .int .i64 n, .int .u8 b] w fun e w' => e = .returned (.tuple #[.int .i64 0, .int .i64 1]) ∧ w' = w := by
  obtain ⟨cap, par, lst, E, hT, hS⟩ := hM.ex
  have c0 : w.cell? ⟨bm, 0, none⟩ = some (.pointer (some ⟨bt, 0, none⟩)) := by rw [cell_of_blk hM.blk]; rfl
  have c1 : w.cell? ⟨bt, 0, none⟩ = some (.slice (some ⟨g, 0, none⟩) S.length cap) := by rw [cell_of_blk hT.blk]; rfl
  have h0 : 0 ≤ n := by omega
  clear hT hS hM
  go_enter Try.func9, Try.ntmps9
  go_wp2
  go_ret2
  exact ⟨rfl, rfl⟩

set_option maxHeartbeats 1000000 in
theorem mnext_in (bm bt be g : Nat) (ps S : List Str) (w : World) (hM : Mach w bm bt be g ps S) (n : Nat) (b : UInt8) (hn : n < S.length) :
    Calls Try.prog 9 #[.pointer (some ⟨bm, 0, none⟩), .int .i64 n, .int .u8 b.toNat] w fun e w' => e = .returned (.tuple #[.int .i64 (nextN S n b), .int .i64 0]) ∧ Below w.heap.size w w' := by
  have hl := hM.lts
  obtain ⟨cap, par, lst, E, hT, hS⟩ := hM.ex
  have hsl := hS.len
  have c0 : w.cell? ⟨bm, 0, none⟩ = some (.pointer (some ⟨bt, 0, none⟩)) := by rw [cell_of_blk hM.blk]; rfl
  have c1 : w.cell? ⟨bt, 0, none⟩ = some (.slice (some ⟨g, 0, none⟩) S.length cap) := by rw [cell_of_blk hT.blk]; rfl
  have HC := hide (next_any bt g cap S par lst (fun k => (failN S k : Nat)) n b w hT.rep hn (by omega) (by omega) (by omega) (owns_lt hT.row hT.rep.pos).2.2 c1 (sts_of_owns hT.row) (fun k _ => rfl))
  clear hT hS hM
  have i1 : ¬ (S.length : Int) ≤ (n : Int) := by omega
  go_enter Try.func9, Try.ntmps9
  go_wp2_with (first | (go_at_call 20; refine (unhide HC).mono ?_; rintro e w' ⟨rfl, hbw⟩) | go_in)
  go_ret2
  exact ⟨rfl, hbw⟩
end Go.Proofs.Ytmmmhmdjcpajgaa
