import Derived.Test.YtfpohfifdfbpkaaKeep
namespace Go.Proofs.Ytfpohfifdfbpkaa
open Go.RowKit Scour Go.Lib

set_option maxHeartbeats 1000000 in
theorem walk_any (bm bt be : Nat) (g : List Nat) (ps S : List Str) (w : World) (hM : Mach w bm bt be g ps S) (s : Nat) (hs : s < S.length) (text : ByteArray) (htx : text.size ≤ maxLen) :
    Calls Try.prog 9 #[.pointer (some ⟨bm, 0, none⟩), .int .i64 s, .string text] w fun e w' => e = .returned (.tuple #[.int .i64 (walkN S s text.data.toList), .bool true]) ∧ Below w.heap.size w w' := by
  unfold maxLen at htx
  have hnl := hM.next_lt
  have HNL := hide hnl
  have HM := hide hM
  clear hM hnl
  go_enter Try.func9, Try.ntmps9
  go_wp2
  go_loopw [1, 8] (fun v1 v8 wr => ∃ k : Nat, v8 = .int .i64 k ∧ k ≤ text.size ∧ v1 = .int .i64 (walkN S s (text.data.toList.take k)) ∧ Below w.heap.size w wr) (fun _ v8 _ => text.size - (intOf v8).toNat)
  case atStart => exact ⟨0, rfl, Nat.zero_le _, rfl, Below.refl _ _⟩
  case round =>
    obtain ⟨k, rfl, hk, rfl, hnx⟩ := hrel
    have hsz := hnx.size
    have hlt' := walkN_lt (unhide HNL) hs (text.data.toList.take k)
    by_cases hlt : k < text.size
    · have HTS := hide ((congrArg (walkN S s) (take_snocB text k hlt)).trans (walkN_snoc S s _ _))
      generalize walkN S s (text.data.toList.take k) = q at hlt' HTS ⊢
      have hM2 : Mach wr bm bt be g ps S := by
        exact (unhide HM).below hnx
      have HC := hide (mnext_in bm bt be g ps S wr hM2 q text[k] hlt')
      clear hM2
      go_wp2_with (go_at_call 7; refine (unhide HC).mono ?_; rintro e w' ⟨rfl, hbw⟩)
      go_roundw
      case rel => exact ⟨k + 1, by go_num, hlt, by rw [unhide HTS], hnx.trans (hbw.mono hsz)⟩
      case measure => simp [intOf]; omega
    · obtain rfl : k = text.size := by omega
      go_wp2
      go_ret2
      exact ⟨by rw [List.take_of_length_le (by simp)]; rfl, hnx⟩
end Go.Proofs.Ytfpohfifdfbpkaa
