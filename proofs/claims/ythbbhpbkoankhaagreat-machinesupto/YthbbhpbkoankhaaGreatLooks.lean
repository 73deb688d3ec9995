import Derived.Test.YthbbhpbkoankhaaGreatKeepsL
namespace Go.Proofs.YthbbhpbkoankhaaGreat
open Go.RowKit Scour Go.Lib

/-- An entry of the book, and its elements. -/
theorem BookOK.entry {w : World} {T : Nat → Nat} {rt et tr : Nat} {tg : Nat → Nat} {x : Nat → Value} {v : Value} {E : List Sl} (h : BookOK w T rt et tr tg x v E) (i : Nat) (hi : i < E.length) :
    ∃ (g cap : Nat) (ao : Option Addr) (n c : Nat), v = .slice (some ⟨g, 0, none⟩) E.length cap ∧ E[i]? = some ⟨ao, n, c⟩ ∧ w.cell? ⟨g, i, none⟩ = some (.slice ao n c) ∧ n < 1000000000 ∧ ∀ j, j < n → ∃ b, ao = some ⟨b, 0, none⟩ ∧ T b = tg i ∧ w.cell? ⟨b, j, none⟩ = some (x i) ∧ w.frozen? ⟨b, j, none⟩ = false := by
  obtain ⟨g, cap, hv, _, _⟩ := h.row.form (by omega)
  have hs : E[i]? = some E[i] := List.getElem?_eq_getElem hi
  have hm := h.each i E[i] hs
  have hl := h.lens E[i] (List.getElem_mem _)
  have hc : w.cell? ⟨g, i, none⟩ = some (E[i]).val := by
    have hr := h.row
    rw [hv] at hr
    rw [hr.cellAt i (by omega)]
    simp [hi]
  generalize E[i] = s at *
  obtain ⟨ao, n, c⟩ := s
  refine ⟨g, cap, ao, n, c, hv, hs, hc, hl, fun j hj => ?_⟩
  obtain ⟨b, cap2, hv2, _, _⟩ := hm.row.form (by simp only []; omega)
  simp only [Sl.val, Value.slice.injEq, true_and] at hv2
  obtain ⟨rfl, rfl⟩ := hv2
  have hr := hm.row
  simp only [Sl.val] at hr
  refine ⟨b, rfl, hm.own b rfl, ?_, hr.frozenAt j⟩
  rw [hr.cellAt j (by omega), List.getElem?_replicate, if_pos hj]

set_option maxHeartbeats 4000000 in
set_option maxRecDepth 100000 in
theorem looks_any (bw : Nat) (T : Nat → Nat) (M : List Ent) (vms vby vli : Value) (E F : List Sl) (mb : Nat → Nat) (w : World) (hW : LW w bw T M vms vby vli E F mb) (hE : E.length < 900000000000) (hFl : F.length < 900000000000) :
    Calls Tryz.prog 9 #[.pointer (some ⟨bw, 2, none⟩)] w fun e w' => e = .returned (.bool true) ∧ Below w.heap.size w w' := by
  have c2 : w.cell? ⟨bw, 2, none⟩ = some vby := by rw [cell_of_blk hW.blk]; rfl
  have c3 : w.cell? ⟨bw, 3, none⟩ = some vli := by rw [cell_of_blk hW.blk]; rfl
  have c4 : w.cell? ⟨bw, 4, none⟩ = some (.slice none 0 0) := by rw [cell_of_blk hW.blk]; rfl
  have HB := hide hW.bytes
  have HL := hide hW.lists
  obtain ⟨aby, cby, hvby⟩ : ∃ aby cby, vby = .slice aby E.length cby := by
    rcases hW.bytes.row.2 with ⟨h, h0⟩ | ⟨g, cap, cur, h, _⟩
    · exact ⟨none, 0, by rw [h, h0]⟩
    · exact ⟨_, cap, h⟩
  subst hvby
  obtain ⟨ali, cli, hvli⟩ : ∃ ali cli, vli = .slice ali F.length cli := by
    rcases hW.lists.row.2 with ⟨h, h0⟩ | ⟨g, cap, cur, h, _⟩
    · exact ⟨none, 0, by rw [h, h0]⟩
    · exact ⟨_, cap, h⟩
  subst hvli
  clear hW
  go_enter Tryz.func9, Tryz.ntmps9
  go_wp2
  go_loopw [3] (fun v wr => ∃ k m : Nat, v = .int .i64 k ∧ wr = w.drewN m ∧ k ≤ E.length) (fun v _ => E.length - (intOf v).toNat)
  case atStart => exact ⟨0, 0, rfl, rfl, Nat.zero_le _⟩
  case round =>
    obtain ⟨k, m, rfl, rfl, hk⟩ := hrel
    by_cases hlt : k < E.length
    · obtain ⟨g, cap, ao, n, c, hv, hEk, ce, hn, hall⟩ := (unhide HB).entry k hlt
      obtain ⟨rfl, rfl⟩ : aby = some ⟨g, 0, none⟩ ∧ cby = cap := by simpa using hv
      have HALL := hide hall
      have i1 : (k : Int) < (E.length : Int) := by omega
      have i2 : (0 : Int) ≤ (k : Int) := by omega
      clear hv hall hEk
      go_wp2
      go_loopw [4] (fun v wz => ∃ j m : Nat, v = .int .i64 j ∧ wz = w.drewN m ∧ j ≤ n) (fun v _ => n - (intOf v).toNat)
      case atStart => exact ⟨0, m, rfl, rfl, Nat.zero_le _⟩
      case round =>
        obtain ⟨j, m2, rfl, rfl, hj⟩ := hrel
        by_cases hjn : j < n
        · obtain ⟨b, rfl, _, cj, _⟩ := unhide HALL j hjn
          unfold bx at cj
          have j1 : (j : Int) < (n : Int) := by omega
          have j2 : (0 : Int) ≤ (j : Int) := by omega
          have hkm : k < 9000000000000000000 := by omega
          have z2 : (w.drewN m2).cell? ⟨bw, 2, none⟩ = some (.slice (some ⟨g, 0, none⟩) E.length cby) := c2
          have z3 : (w.drewN m2).cell? ⟨g, k, none⟩ = some (.slice (some ⟨b, 0, none⟩) n c) := ce
          have z4 : (w.drewN m2).cell? ⟨b, j, none⟩ = some (.int .u8 (markN k)) := cj
          obtain ⟨wz, hwz⟩ : ∃ wz, w.drewN m2 = wz := ⟨_, rfl⟩
          rw [hwz] at z2 z3 z4 ⊢
          have HWZ := hide hwz
          clear hwz
          go_wp2_with fail
          go_quiet ((go_at_call 16; exact Calls.quiet_of_same (mark_any _ _ hkm)))
          go_wp2_with fail
          go_roundw
          case rel => exact ⟨j + 1, m2 + nq, by go_num, by rw [← unhide HWZ, World.drewN_drewN], hjn⟩
          case measure => simp [intOf]; omega
        · obtain rfl : j = n := by omega
          have j1 : ¬ (j : Int) < (j : Int) := by omega
          go_wp2_with fail
          go_roundw
          case rel => exact ⟨k + 1, m2, by go_num, rfl, hlt⟩
          case measure => simp [intOf]; omega
    · obtain rfl : k = E.length := by omega
      have i1 : ¬ (E.length : Int) < (E.length : Int) := by omega
      go_wp2
      go_loopw [5] (fun v wr => ∃ k m : Nat, v = .int .i64 k ∧ wr = w.drewN m ∧ k ≤ F.length) (fun v _ => F.length - (intOf v).toNat)
      case atStart => exact ⟨0, m, rfl, rfl, Nat.zero_le _⟩
      case round =>
        obtain ⟨k, m, rfl, rfl, hk⟩ := hrel
        by_cases hlt : k < F.length
        · obtain ⟨g, cap, ao, n, c, hv, hEk, ce, hn, hall⟩ := (unhide HL).entry k hlt
          obtain ⟨rfl, rfl⟩ : ali = some ⟨g, 0, none⟩ ∧ cli = cap := by simpa using hv
          have HALL := hide hall
          have i1 : (k : Int) < (F.length : Int) := by omega
          have i2 : (0 : Int) ≤ (k : Int) := by omega
          clear hv hall hEk
          go_wp2
          go_loopw [6] (fun v wz => ∃ j m : Nat, v = .int .i64 j ∧ wz = w.drewN m ∧ j ≤ n) (fun v _ => n - (intOf v).toNat)
          case atStart => exact ⟨0, m, rfl, rfl, Nat.zero_le _⟩
          case round =>
            obtain ⟨j, m2, rfl, rfl, hj⟩ := hrel
            by_cases hjn : j < n
            · obtain ⟨b, rfl, _, cj, _⟩ := unhide HALL j hjn
              unfold lxs at cj
              have j1 : (j : Int) < (n : Int) := by omega
              have j2 : (0 : Int) ≤ (j : Int) := by omega
              have hkm : k < 9000000000000000000 := by omega
              go_wp2_with fail
              go_roundw
              case rel => exact ⟨j + 1, m2, by go_num, rfl, hjn⟩
              case measure => simp [intOf]; omega
            · obtain rfl : j = n := by omega
              have j1 : ¬ (j : Int) < (j : Int) := by omega
              go_wp2_with fail
              go_roundw
              case rel => exact ⟨k + 1, m2, by go_num, rfl, hlt⟩
              case measure => simp [intOf]; omega
        · obtain rfl : k = F.length := by omega
          have i1 : ¬ (F.length : Int) < (F.length : Int) := by omega
          go_wp2
          go_loopw [7] (fun v wr => ∃ k m : Nat, v = .int .i64 k ∧ wr = w.drewN m ∧ k = 0) (fun v _ => (intOf v).toNat)
          case atStart => exact ⟨0, m, rfl, rfl, rfl⟩
          case round =>
            obtain ⟨k, m, rfl, rfl, rfl⟩ := hrel
            go_wp2
            go_ret
            exact ⟨rfl, below_drewN (Below.refl _ _) _⟩
end Go.Proofs.YthbbhpbkoankhaaGreat
