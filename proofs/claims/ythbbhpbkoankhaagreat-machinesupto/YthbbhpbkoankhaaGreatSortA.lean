import Derived.Test.YthbbhpbkoankhaaGreatLevel
import Derived.Test.YthbbhpbkoankhaaGreatShelf
import Derived.Test.YthbbhpbkoankhaaGreatMath2
import Derived.Lib.Bytealg
import Derived.Lib.BytesEntry
import Derived.Deep.QuietTactic
import Derived.BigQuiet
namespace Go.Proofs.YthbbhpbkoankhaaGreat
open Go.RowKit Scour Go.Shelf Go.Lib Go.Sort

theorem cmpB_neg : ∀ a b : Str, compareBytes a b < 0 ↔ blt a b = true
  | [], [] => by simp [compareBytes, blt]
  | [], _ :: _ => by simp [compareBytes, blt]
  | _ :: _, [] => by simp [compareBytes, blt]
  | a :: xs, b :: ys => by
    unfold compareBytes blt
    rcases u8_tri a b with g | g | g
    · simp [g]
    · subst g; simp only [u8_lt_irrefl, if_false]; exact cmpB_neg xs ys
    · simp [g, u8_lt_asymm g]

/-- The numbers of bytes. -/
def nums (s : Str) : List Int := s.map fun b => (b.toNat : Int)
theorem nums_length (s : Str) : (nums s).length = s.length := by simp [nums]
theorem bytesOf_nums (s : Str) : Lib.bytesOf (nums s) = s := by
  unfold Lib.bytesOf nums
  rw [List.map_map]
  conv => rhs; rw [← List.map_id s]
  apply List.map_congr_left
  intro b _
  simp

theorem add_addr (b o j : Nat) : (⟨b, o, none⟩ : Addr).add j = ⟨b, o + j, none⟩ := by unfold Addr.add; split <;> simp_all

theorem run_loadStr {P : Program} (w : World) (s : Str) (b o : Nat) (h : ∀ j, j < s.length → w.cell? ⟨b, o + j, none⟩ = some (.int .u8 (s.getD j 0).toNat)) :
    (Extern.Bytes.loadBytes ⟨b, o, none⟩ s.length .empty).run P w = .ok ⟨s.toArray⟩ w := by
  have := Lib.run_loadBytesX (P := P) w (nums s) ⟨b, o, none⟩ .empty (fun j x hj => by
    rw [add_addr]
    have hjl : j < s.length := by have := (List.getElem?_eq_some_iff.1 hj).1; rwa [nums_length] at this
    rw [h j hjl]
    simp [nums, hjl] at hj
    simp [List.getD, hjl, hj])
  rw [nums_length, bytesOf_nums] at this
  rw [this]
  congr
  exact Array.empty_append

theorem run_compareSl {P : Program} (w : World) (s t : Str) (b o c b' o' c' : Nat) (h : ∀ j, j < s.length → w.cell? ⟨b, o + j, none⟩ = some (.int .u8 (s.getD j 0).toNat)) (h' : ∀ j, j < t.length → w.cell? ⟨b', o' + j, none⟩ = some (.int .u8 (t.getD j 0).toNat)) :
    (Extern.BytealgCompare.compare #[.slice (some ⟨b, o, none⟩) s.length c, .slice (some ⟨b', o', none⟩) t.length c']).run P w = .ok (.int .i64 (compareBytes s t)) w := by
  change Sem.run P (do pure (goInt (Extern.BytealgCompare.cmp (← Extern.Bytes.bytesOf (.slice (some ⟨b, o, none⟩) s.length c)) (← Extern.Bytes.bytesOf (.slice (some ⟨b', o', none⟩) t.length c'))))) w = _
  simp only [Extern.Bytes.bytesOf, Sem.run_bind, Sem.run_pure, run_loadStr w s b o h, run_loadStr w t b' o' h', Result.andThen]
  rw [cmp_eq]
  rfl

set_option maxHeartbeats 1000000 in
set_option maxRecDepth 100000 in
theorem bytesCompare_any (w : World) (s t : Str) (b o c b' o' c' : Nat) (h : ∀ j, j < s.length → w.cell? ⟨b, o + j, none⟩ = some (.int .u8 (s.getD j 0).toNat)) (h' : ∀ j, j < t.length → w.cell? ⟨b', o' + j, none⟩ = some (.int .u8 (t.getD j 0).toNat)) :
    Calls Tryz.prog 83 #[.slice (some ⟨b, o, none⟩) s.length c, .slice (some ⟨b', o', none⟩) t.length c'] w fun e w' => e = .returned (.int .i64 (compareBytes s t)) ∧ w' = w := by
  have HR := hide (run_compareSl (P := Tryz.prog) w s t b o c b' o' c' h h')
  clear h h'
  generalize compareBytes s t = r at HR ⊢
  go_enter Tryz.func83, Tryz.ntmps83
  go_wp2
  rw [run_callFunc_extern Tryz.func101 (by kernel_rfl) (by kernel_rfl) (by kernel_rfl) (e := Extern.BytealgCompare.compare) (by kernel_rfl), unhide HR]
  simp only [Result.andThen]
  rw [Oper.upon_value]
  go_wp2
  go_ret
  exact ⟨rfl, rfl⟩

set_option maxHeartbeats 1000000 in
theorem cmpClosure_any (W : World) (Bs bp op m cp x y : Nat) (ps : List Str) (b o c b' o' c' : Nat) (hx : x < m) (hy : y < m)
    (h0 : W.cell? ⟨Bs, 0, none⟩ = some (.slice (some ⟨bp, op, none⟩) m cp)) (h1 : W.cell? ⟨bp, op + x, none⟩ = some (.slice (some ⟨b, o, none⟩) (pat ps x).length c)) (h2 : W.cell? ⟨bp, op + y, none⟩ = some (.slice (some ⟨b', o', none⟩) (pat ps y).length c'))
    (h3 : ∀ j, j < (pat ps x).length → W.cell? ⟨b, o + j, none⟩ = some (.int .u8 ((pat ps x).getD j 0).toNat)) (h4 : ∀ j, j < (pat ps y).length → W.cell? ⟨b', o' + j, none⟩ = some (.int .u8 ((pat ps y).getD j 0).toNat)) :
    Calls Tryz.prog 82 #[.int .i64 x, .int .i64 y, .pointer (some ⟨Bs, 0, none⟩)] W fun e w' => e = .returned (.int .i64 (compareBytes (pat ps x) (pat ps y))) ∧ ∃ q, w' = W.drewN q := by
  have HC := hide (fun q => bytesCompare_any (W.drewN q) (pat ps x) (pat ps y) b o c b' o' c' h3 h4)
  clear h3 h4
  have i1 : (x : Int) < (m : Int) := by omega
  have i2 : (y : Int) < (m : Int) := by omega
  have i3 : (0 : Int) ≤ (x : Int) := by omega
  have i4 : (0 : Int) ≤ (y : Int) := by omega
  generalize compareBytes (pat ps x) (pat ps y) = r at HC ⊢
  generalize (pat ps x).length = n1 at *
  generalize (pat ps y).length = n2 at *
  go_enter Tryz.func82, Tryz.ntmps82
  go_wp2
  go_quiet ((go_at_call 83; exact Calls.quiet_of_same (unhide HC _)))
  go_wp2
  go_ret
  exact ⟨rfl, _, rfl⟩
end Go.Proofs.YthbbhpbkoankhaaGreat
