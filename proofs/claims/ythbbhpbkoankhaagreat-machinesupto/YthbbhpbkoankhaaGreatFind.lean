import Derived.Test.YthbbhpbkoankhaaGreatSearch
namespace Go.Proofs.YthbbhpbkoankhaaGreat
open Go.RowKit

set_option maxHeartbeats 1000000 in
theorem search_none (ao : Option Addr) (cap : Nat) (tp tl tf : Int) (w : World) :
    Calls Tryz.prog 95 #[.slice ao 0 cap, .agg #[.int .i64 tp, .int .u8 tl, .int .i64 tf], .func (.func 85) #[] #[]] w fun e w' => e = .returned (.tuple #[.int .i64 0, .bool false]) ∧ Below w.heap.size w w' := by
  go_enter Tryz.func95, Tryz.ntmps95
  go_wp2
  refine wp_loop_rounds 1 ?_
  rw [rounds_succ]
  go_wp2
  go_quiet (fail)
  go_wp2
  go_ret2
  exact ⟨rfl, below_drewN ((Below.refl _ _).alloc (Nat.le_refl _) _) _⟩

set_option maxHeartbeats 1000000 in
theorem find_any (bt bs n cap : Nat) (par lst fl : Nat → Int) (p b : Int) (w : World) (hbs : bs < w.heap.size) (hn : n < 1000000) (hcap : n + 1 ≤ cap)
    (ht : w.cell? ⟨bt, 0, none⟩ = some (.slice (some ⟨bs, 0, none⟩) (n + 1) cap)) (hs : Sts w bs (n + 1) par lst fl)
    (hmono : ∀ k k', k ≤ k' → k' < n → stand par lst p b k' < 0 → stand par lst p b k < 0) :
    Calls Tryz.prog 69 #[.pointer (some ⟨bt, 0, none⟩), .int .i64 p, .int .u8 b] w fun e w' => ∃ i : Nat, e = .returned (.tuple #[.int .i64 (i + 1), .bool (okB par lst p b n i)]) ∧ SEnd par lst p b n i ∧ Below w.heap.size w w' := by
  by_cases hc : cap = 1
  · subst hc
    obtain rfl : n = 0 := by omega
    clear hmono hs hcap
    go_enter Tryz.func69, Tryz.ntmps69
    go_wp2_with (go_at_call 95; refine (search_none _ _ _ _ _ _).mono ?_; rintro e w' ⟨rfl, hbw⟩)
    go_ret2
    exact ⟨0, by rw [okB_ge]; rfl, ⟨Nat.le_refl _, fun k hk => absurd hk (Nat.not_lt_zero k), fun k _ hk => absurd hk (Nat.not_lt_zero k)⟩, hbw⟩
  · have HS := hide (search_any bs n (cap - 1) par lst fl p b 0 w hbs hn hs hmono)
    clear hmono hs
    go_enter Tryz.func69, Tryz.ntmps69
    go_wp2_with (go_at_call 95; refine (unhide HS).mono ?_; rintro e w' ⟨i, rfl, hse, hbw⟩; have hile := hse.le)
    go_ret2
    exact ⟨_, rfl, by assumption, by assumption⟩
end Go.Proofs.YthbbhpbkoankhaaGreat
