import Derived.Test.YtmmmhmdjcpajgaaOuts
namespace Go.Proofs.Ytmmmhmdjcpajgaa
open Go.RowKit Scour

/-- Where bytes lead from a state. -/
def walkN (S : List Str) (s : Nat) (l : Str) : Nat := l.foldl (nextN S) s

theorem walkN_snoc (S : List Str) (s : Nat) (l : Str) (c : UInt8) : walkN S s (l ++ [c]) = nextN S (walkN S s l) c := by unfold walkN; simp

theorem Mach.next_lt {w : World} {bm bt be g : Nat} {ps S : List Str} (h : Mach w bm bt be g ps S) (k : Nat) (b : UInt8) : nextN S k b < S.length := by
  obtain ⟨_, _, _, _, hT, _⟩ := h.ex
  exact hT.rep.next_lt k b

theorem walkN_lt {S : List Str} (h : ∀ k b, nextN S k b < S.length) {s : Nat} (hs : s < S.length) (l : Str) : walkN S s l < S.length := by
  induction l generalizing s with
  | nil => exact hs
  | cons c l ih => exact ih (h s c)

theorem take_snocB (s : ByteArray) (k : Nat) (h : k < s.size) : s.data.toList.take (k + 1) = s.data.toList.take k ++ [s[k]] := by
  rw [List.take_succ_eq_append_getElem (by simpa using h)]; rfl

set_option maxHeartbeats 1000000 in
theorem walk_any (bm bt be g : Nat) (ps S : List Str) (w : World) (hM : Mach w bm bt be g ps S) (s : Nat) (hs : s < S.length) (text : ByteArray) (htx : text.size ≤ maxLen) :
    Calls Try.prog 11 #[.pointer (some ⟨bm, 0, none⟩), .int .i64 s, .string text] w fun e w' => e = .returned (.tuple #[.int .i64 (walkN S s text.data.toList), .bool true]) ∧ Below w.heap.size w w' := by
  unfold maxLen at htx
  have hnl := hM.next_lt
  have HNL := hide hnl
  have HM := hide hM
  clear hM hnl
  go_enter Try.func11, Try.ntmps11
  go_wp2
  go_loopw [1, 8] (fun v1 v8 wr => ∃ k : Nat, v8 = .int .i64 k ∧ k ≤ text.size ∧ v1 = .int .i64 (walkN S s (text.data.toList.take k)) ∧ Below w.heap.size w wr) (fun _ v8 _ => text.size - (intOf v8).toNat)
  case atStart => exact ⟨0, rfl, Nat.zero_le _, rfl, Below.refl _ _⟩
  case round =>
    obtain ⟨k, rfl, hk, rfl, hnx⟩ := hrel
    have hsz := hnx.size
    have hlt' := walkN_lt (unhide HNL) hs (text.data.toList.take k)
    by_cases hlt : k < text.size
    · have HTS := hide ((congrArg (walkN S s) (take_snocB text k hlt)).trans (walkN_snoc S s _ _))
      generalize walkN S s (text.data.toList.take k) = q at hlt' HTS ⊢
      have hM2 : Mach wr bm bt be g ps S := by
        have hl := (unhide HM).lts
        exact (unhide HM).same hnx.size (fun j hj => hnx.block j (by omega))
      have HC := hide (mnext_in bm bt be g ps S wr hM2 q text[k] hlt')
      clear hM2
      go_wp2_with (go_at_call 9; refine (unhide HC).mono ?_; rintro e w' ⟨rfl, hbw⟩)
      go_roundw
      case rel => exact ⟨k + 1, by go_num, hlt, by rw [unhide HTS], hnx.trans (hbw.mono hsz)⟩
      case measure => simp [intOf]; omega
    · obtain rfl : k = text.size := by omega
      go_wp2
      go_ret2
      exact ⟨by rw [List.take_of_length_le (by simp)]; rfl, hnx⟩

/-- Which of n things a raw number speaks of. -/
def pickI (c n : Int) : Int := (if c < 0 then -(c + 1) else c) % n

theorem pickI_lt (c n : Int) (hn : 0 < n) : 0 ≤ pickI c n ∧ pickI c n < n := ⟨Int.emod_nonneg _ (by omega), Int.emod_lt_of_pos _ hn⟩

set_option maxHeartbeats 400000 in
theorem pick_any (c n : Int) (w : World) (hn : 0 < n) (hn2 : n ≤ 9223372036854775807) (hc : -9223372036854775808 ≤ c ∧ c ≤ 9223372036854775807) :
    Calls Try.prog 12 #[.int .i64 c, .int .i64 n] w fun e w' => e = .returned (.int .i64 (pickI c n)) ∧ w' = w := by
  have hnz : (n == 0) = false := by simp; omega
  obtain ⟨hc1, hc2⟩ := hc
  by_cases h : c < 0
  · have HP : Hid (pickI c n = (-(c + 1)) % n) := hide (by unfold pickI; rw [if_pos h])
    go_enter Try.func12, Try.ntmps12
    go_wp2
    go_ret
    exact ⟨by rw [unhide HP, ← Int.tmod_eq_emod_of_nonneg (by omega), Int.neg_tmod]; rfl, rfl⟩
  · have HP : Hid (pickI c n = c % n) := hide (by unfold pickI; rw [if_neg h])
    go_enter Try.func12, Try.ntmps12
    go_wp2
    go_ret
    exact ⟨by rw [unhide HP]; rfl, rfl⟩

set_option maxHeartbeats 1000000 in
theorem made_any (ap : Option Addr) (cp : Nat) (ps : List Str) (w : World) (hP : PatsIn w w.heap.size ap ps) (hc : (chk ps).1 = 0) :
    Calls Try.prog 7 #[.slice ap ps.length cp] w fun e w' => ∃ (bm bt be g : Nat) (S : List Str), e = .returned (.pointer (some ⟨bm, 0, none⟩)) ∧ Mach w' bm bt be g ps S ∧ (w.heap.size ≤ bm ∧ w.heap.size ≤ bt ∧ w.heap.size ≤ be ∧ w.heap.size ≤ g) ∧ Below w.heap.size w w' := by
  have HC := hide (compile_ok ap cp ps w hP hc)
  clear hP hc
  go_enter Try.func7, Try.ntmps7
  go_wp2_with (go_at_call 18; refine (unhide HC).mono ?_; rintro e w' ⟨bm, bt, be, g, S, rfl, hM, hz, hb⟩; have HM := hide hM; have HZ := hide hz; have HB := hide hb; clear hM hz hb)
  go_ret
  exact ⟨bm, bt, be, g, S, rfl, unhide HM, unhide HZ, unhide HB⟩
end Go.Proofs.Ytmmmhmdjcpajgaa
