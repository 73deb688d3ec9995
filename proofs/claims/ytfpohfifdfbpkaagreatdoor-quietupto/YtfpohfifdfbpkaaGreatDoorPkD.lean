import Derived.Test.YtfpohfifdfbpkaaGreatDoorPkA
namespace Go.Proofs.YtfpohfifdfbpkaaGreatDoor
open Go.RowKit Scour Go.Lib Go.Shelf Go.Sort
def yW (es : Nat -> Value) (l : List Nat) : List Value := l.flatMap fun s => [.int .i64 (s : Nat), es s]
theorem rowsV_append (es : Nat -> Value) (l r : List Nat) : yW es (l ++ r) = yW es l ++ yW es r := by simp [yW]
theorem rowsV_len (es : Nat -> Value) (l : List Nat) : (yW es l).length = l.length * 2 := by
 induction l with
 | nil => rfl
 | cons x l ih =>
   have : yW es (x :: l) = [.int .i64 (x : Nat), es x] ++ yW es l := rfl
   rw [this, List.length_append, ih]; simp; omega
theorem rowsV_get (es : Nat -> Value) : ∀ (l : List Nat) (i : Nat) (p : Nat), l[i]? = some p -> (yW es l)[i * 2]? = some (.int .i64 (p : Nat)) /\ (yW es l)[i * 2 + 1]? = some (es p)
 | [], i, p, h => by simp at h
 | x :: l, 0, p, h => by
   obtain rfl : x = p := by simpa using h
   exact ⟨rfl, rfl⟩
 | x :: l, i + 1, p, h => by
   have := rowsV_get es l i p (by simpa using h)
   rw [show (i + 1) * 2 = i * 2 + 2 by omega]
   exact this
theorem rowsV_set (es : Nat -> Value) : ∀ (l : List Nat) (i s : Nat), ((yW es l).set (i * 2) (.int .i64 (s : Nat))).set (i * 2 + 1) (es s) = yW es (l.set i s)
 | [], i, s => by simp [yW]
 | x :: l, 0, s => rfl
 | x :: l, i + 1, s => by
   have e : yW es (x :: l) = .int .i64 (x : Nat) :: es x :: yW es l := rfl
   have e2 : yW es ((x :: l).set (i + 1) s) = .int .i64 (x : Nat) :: es x :: yW es (l.set i s) := rfl
   rw [e, e2, ← rowsV_set es l i s, show (i + 1) * 2 = i * 2 + 1 + 1 by omega]
   rfl
def goesB (L : Nat -> List (Nat × Nat)) (x y : Nat) : Bool := decide ((L y).length < (L x).length) || (decide ((L x).length = (L y).length) && decide (x < y))
def hlt (L : Nat -> List (Nat × Nat)) (x y : Nat) : Bool := goesB L y x
theorem goes_iff {L : Nat -> List (Nat × Nat)} {x y : Nat} : goesB L x y = true ↔ (L y).length < (L x).length \/ ((L x).length = (L y).length /\ x < y) := by simp [goesB]
theorem swo_hlt (L : Nat -> List (Nat × Nat)) : SWO (hlt L) where
 irrefl x := by
  cases h : hlt L x x with
  | false => rfl
  | true => have := goes_iff.1 h; omega
 trans x y z h1 h2 := by
  have := goes_iff.1 h1
  have := goes_iff.1 h2
  exact goes_iff.2 (by omega)
 ntrans x y z h1 h2 := by
  cases h : hlt L x z with
  | false => rfl
  | true =>
    have a1 : ¬ goesB L y x = true := by unfold hlt at h1; simp [h1]
    have a2 : ¬ goesB L z y = true := by unfold hlt at h2; simp [h2]
    have a3 := goes_iff.1 h
    rw [goes_iff] at a1 a2
    omega
structure EsOK (L : Nat -> List (Nat × Nat)) (es : Nat -> Value) (n : Nat) : Prop where
 form : ∀ s, s < n -> 0 < (L s).length -> ∃ b c, es s = .slice (some ⟨b, 0, none⟩) (L s).length c
 len : ∀ s, (L s).length <= 256
theorem drewN2 (w : World) (a b : Nat) : (w.drewN a).drewN b = w.drewN (a + b) := by simp [World.drewN, Nat.add_assoc]
structure zQ (w : World) (rp gh cap : Nat) (d : Array Nat) (es : Nat -> Value) : Prop where
 box : w.heap[rp]? = some (.cells #[.slice (some ⟨gh, 0, none⟩) d.size cap] 213 (0, 0))
 row : w.ownsRow 0 165 2 (.slice (some ⟨gh, 0, none⟩) d.size cap) d.size (yW es d.toList)
 ne : rp ≠ gh
theorem zQ.cells {w : World} {rp gh cap : Nat} {d : Array Nat} {es : Nat -> Value} (h : zQ w rp gh cap d es) (i : Nat) (hi : i < d.size) : w.cell? ⟨gh, i * 2, none⟩ = some (.int .i64 (d[i]! : Nat)) /\ w.cell? ⟨gh, i * 2 + 1, none⟩ = some (es d[i]!) /\ w.frozen? ⟨gh, i * 2, none⟩ = false /\ w.frozen? ⟨gh, i * 2 + 1, none⟩ = false := by
 have hg := rowsV_get es d.toList i d[i]! (by rw [getElem!_pos d i hi]; simp [hi])
 have hl := rowsV_len es d.toList
 refine ⟨?_, ?_, h.row.frozenAt _, h.row.frozenAt _⟩
 ·rw [h.row.cellAt (i * 2) (by omega)]; exact hg.1
 ·rw [h.row.cellAt (i * 2 + 1) (by omega)]; exact hg.2
theorem zQ.mem {w : World} {rp gh cap : Nat} {d : Array Nat} {es : Nat -> Value} (_h : zQ w rp gh cap d es) {i : Nat} (hi : i < d.size) : d[i]! ∈ d.toList := by rw [getElem!_pos d i hi]; simp
set_option maxHeartbeats 4000000 in
set_option maxRecDepth 100000 in
theorem rless_any (L : Nat -> List (Nat × Nat)) (rp gh cap n : Nat) (d : Array Nat) (es : Nat -> Value) (w : World) (h : zQ w rp gh cap d es) (hE : EsOK L es n) (hd : ∀ s, s ∈ d.toList -> s < n /\ 0 < (L s).length) (_hn : n < 10000) (i j : Nat) (hi : i < d.size) (hj : j < d.size) (_hds : d.size < 10000) :
 Calls Tryz.prog 208 #[.slice (some ⟨gh, 0, none⟩) d.size cap, .int .i64 i, .int .i64 j] w fun e w' => e = .returned (.bool (goesB L d[i]! d[j]!)) /\ ∃ q, w' = w.drewN q := by
 obtain ⟨a1, a2, _, _⟩ := h.cells i hi
 obtain ⟨b1, b2, _, _⟩ := h.cells j hj
 obtain ⟨ba, ca, ea⟩ := hE.form d[i]! (hd _ (h.mem hi)).1 (hd _ (h.mem hi)).2
 obtain ⟨bb, cb, eb⟩ := hE.form d[j]! (hd _ (h.mem hj)).1 (hd _ (h.mem hj)).2
 rw [ea] at a2
 rw [eb] at b2
 have hx := hE.len d[i]!
 have hy := hE.len d[j]!
 have HG : Hid (goesB L d[i]! d[j]! = (decide ((L d[j]!).length < (L d[i]!).length) || (decide ((L d[i]!).length = (L d[j]!).length) && decide (d[i]! < d[j]!)))) := zB rfl
 have i1 : (i : Int) < (d.size : Int) := by omega
 have j1 : (j : Int) < (d.size : Int) := by omega
 clear h hE hd ea eb
 generalize (L d[i]!).length = x at *
 generalize (L d[j]!).length = y at *
 generalize goesB L d[i]! d[j]! = r at *
 generalize d[i]! = p at *
 generalize d[j]! = q at *
 generalize d.size = m at *
 go_enter Tryz.func208, Tryz.ntmps208
 go_wp2
 go_quiet (fail)
 by_cases hxy : x = y
 ·subst hxy
  go_wp2
  go_quiet (fail)
  go_wp2
  go_ret
  exact ⟨by rw [zA HG]; simp, _, drewN2 _ _ _⟩
 ·go_wp2
  go_ret
  exact ⟨by rw [zA HG]; simp [hxy], _, rfl⟩
theorem rows_swap {w : World} {rp gh cap : Nat} {d : Array Nat} {es : Nat -> Value} (h : zQ w rp gh cap d es) (i j : Nat) (_hi : i < d.size) (_hj : j < d.size) :
 zQ ((((w.setCell ⟨gh, i * 2, none⟩ (.int .i64 (d[j]! : Nat))).setCell ⟨gh, i * 2 + 1, none⟩ (es d[j]!)).setCell ⟨gh, j * 2, none⟩ (.int .i64 (d[i]! : Nat))).setCell ⟨gh, j * 2 + 1, none⟩ (es d[i]!)) rp gh cap (swp d i j) es /\
 Mod (fun k => k = gh) w ((((w.setCell ⟨gh, i * 2, none⟩ (.int .i64 (d[j]! : Nat))).setCell ⟨gh, i * 2 + 1, none⟩ (es d[j]!)).setCell ⟨gh, j * 2, none⟩ (.int .i64 (d[i]! : Nat))).setCell ⟨gh, j * 2 + 1, none⟩ (es d[i]!)) := by
 have h1 := (h.row.stored (i * 2) (.int .i64 (d[j]! : Nat))).1
 have h2 := (h1.stored (i * 2 + 1) (es d[j]!)).1
 rw [rowsV_set] at h2
 have h3 := (h2.stored (j * 2) (.int .i64 (d[i]! : Nat))).1
 have h4 := (h3.stored (j * 2 + 1) (es d[i]!)).1
 rw [rowsV_set] at h4
 have hM : Mod (fun k => k = gh) w ((((w.setCell ⟨gh, i * 2, none⟩ (.int .i64 (d[j]! : Nat))).setCell ⟨gh, i * 2 + 1, none⟩ (es d[j]!)).setCell ⟨gh, j * 2, none⟩ (.int .i64 (d[i]! : Nat))).setCell ⟨gh, j * 2 + 1, none⟩ (es d[i]!)) :=
  (((Mod.setCell w gh _ _).trans (Mod.setCell _ gh _ _) (fun _ _ e => e)).trans (Mod.setCell _ gh _ _) (fun _ _ e => e)).trans (Mod.setCell _ gh _ _) (fun _ _ e => e)
 have hrp : rp < w.heap.size := (Array.getElem?_eq_some_iff.1 h.box).1
 have hsz : (swp d i j).size = d.size := size_swp d i j
 refine ⟨⟨(hM.out rp hrp h.ne).trans (by rw [hsz]; exact h.box), ?_, h.ne⟩, hM⟩
 rw [hsz]
 have e : (swp d i j).toList = (d.toList.set i d[j]!).set j d[i]! := by simp [swp]
 rw [e]
 exact h4
set_option maxHeartbeats 8000000 in
set_option maxRecDepth 100000 in
theorem rswap_any (rp gh cap : Nat) (d : Array Nat) (es : Nat -> Value) (w : World) (h : zQ w rp gh cap d es) (hes : ∀ s, s ∈ d.toList -> ∃ b m c, es s = .slice (some ⟨b, 0, none⟩) m c) (i j : Nat) (hi : i < d.size) (hj : j < d.size) (_hds : d.size < 10000) :
 Calls Tryz.prog 211 #[.slice (some ⟨gh, 0, none⟩) d.size cap, .int .i64 i, .int .i64 j] w fun e w' => e = .returned (.tuple #[]) /\ Hid (zQ w' rp gh cap (swp d i j) es) /\ Hid (Mod (fun k => k = gh) w w') := by
 obtain ⟨a1, a2, f1, f2⟩ := h.cells i hi
 obtain ⟨b1, b2, f3, f4⟩ := h.cells j hj
 obtain ⟨x1, x2, x3, ex⟩ := hes _ (h.mem hi)
 obtain ⟨y1, y2, y3, ey⟩ := hes _ (h.mem hj)
 have hs : zQ ((((w.setCell ⟨gh, i * 2, none⟩ (.int .i64 (d[j]! : Nat))).setCell ⟨gh, i * 2 + 1, none⟩ (es d[j]!)).setCell ⟨gh, j * 2, none⟩ (.int .i64 (d[i]! : Nat))).setCell ⟨gh, j * 2 + 1, none⟩ (es d[i]!)).drew rp gh cap (swp d i j) es /\
  Mod (fun k => k = gh) w ((((w.setCell ⟨gh, i * 2, none⟩ (.int .i64 (d[j]! : Nat))).setCell ⟨gh, i * 2 + 1, none⟩ (es d[j]!)).setCell ⟨gh, j * 2, none⟩ (.int .i64 (d[i]! : Nat))).setCell ⟨gh, j * 2 + 1, none⟩ (es d[i]!)).drew :=
  ⟨⟨(rows_swap h i j hi hj).1.box, (rows_swap h i j hi hj).1.row, h.ne⟩, (rows_swap h i j hi hj).2.trans (Mod.drewN _ 1) (fun _ _ e => e)⟩
 rw [ex] at a2 hs
 rw [ey] at b2 hs
 have HS := zB hs
 have i1 : (i : Int) < (d.size : Int) := by omega
 have j1 : (j : Int) < (d.size : Int) := by omega
 clear h hs ex ey hes
 generalize d[i]! = p at *
 generalize d[j]! = q at *
 generalize swp d i j = d2 at *
 generalize d.size = m at *
 rcases Nat.lt_trichotomy i j with hij | hij | hij
 ·go_enter Tryz.func211, Tryz.ntmps211
  go_wp2
  go_region
  go_wp2
  go_end0
  exact ⟨rfl, zB (zA HS).1, zB (zA HS).2⟩
 ·subst hij
  have e1 := a1.symm.trans b1
  have e2 := a2.symm.trans b2
  simp only [Option.some.injEq, Value.int.injEq, Value.slice.injEq, Addr.mk.injEq, true_and, and_true, Int.natCast_inj] at e1 e2
  obtain ⟨rfl, rfl, rfl⟩ := e2
  subst e1
  clear b1 b2 f3 f4 j1
  go_enter Tryz.func211, Tryz.ntmps211
  go_wp2
  go_region
  go_wp2
  go_end0
  exact ⟨rfl, zB (zA HS).1, zB (zA HS).2⟩
 ·go_enter Tryz.func211, Tryz.ntmps211
  go_wp2
  go_region
  go_wp2
  go_end0
  exact ⟨rfl, zB (zA HS).1, zB (zA HS).2⟩
end Go.Proofs.YtfpohfifdfbpkaaGreatDoor
namespace Go.Proofs.YtfpohfifdfbpkaaGreatDoor
open Go.RowKit Scour Go.Lib Go.Shelf Go.Sort
theorem mem_swp {d : Array Nat} {i j : Nat} (hi : i < d.size) (hj : j < d.size) {s : Nat} (h : s ∈ (swp d i j).toList) : s ∈ d.toList := by
 have e : (swp d i j).toList = (d.toList.set i d[j]!).set j d[i]! := by simp [swp]
 rw [e] at h
 have m1 : d[j]! ∈ d.toList := by rw [getElem!_pos d j hj]; simp
 have m2 : d[i]! ∈ d.toList := by rw [getElem!_pos d i hi]; simp
 rcases List.mem_or_eq_of_mem_set h with h1 | h1
 ·rcases List.mem_or_eq_of_mem_set h1 with h2 | h2
  ·exact h2
  ·rw [h2]; exact m1
 ·rw [h1]; exact m2
structure HOK (L : Nat -> List (Nat × Nat)) (es : Nat -> Value) (n : Nat) (d : Array Nat) : Prop where
 es : EsOK L es n
 mem : ∀ s, s ∈ d.toList -> s < n /\ 0 < (L s).length
 n : n < 10000
 size : d.size < 10000
theorem HOK.swp {L : Nat -> List (Nat × Nat)} {es : Nat -> Value} {n : Nat} {d : Array Nat} (h : HOK L es n d) {i j : Nat} (hi : i < d.size) (hj : j < d.size) : HOK L es n (swp d i j) :=
 ⟨h.es, fun s hs => h.mem s (mem_swp hi hj hs), h.n, by rw [size_swp]; exact h.size⟩
theorem HOK.form {L : Nat -> List (Nat × Nat)} {es : Nat -> Value} {n : Nat} {d : Array Nat} (h : HOK L es n d) (s : Nat) (hs : s ∈ d.toList) : ∃ b m c, es s = .slice (some ⟨b, 0, none⟩) m c := by
 obtain ⟨b, c, e⟩ := h.es.form s (h.mem s hs).1 (h.mem s hs).2
 exact ⟨b, _, c, e⟩
theorem zQ.drewN {w : World} {rp gh cap : Nat} {d : Array Nat} {es : Nat -> Value} (h : zQ w rp gh cap d es) (q : Nat) : zQ (w.drewN q) rp gh cap d es := ⟨h.box, h.row, h.ne⟩
theorem zQ.cell {w : World} {rp gh cap : Nat} {d : Array Nat} {es : Nat -> Value} (h : zQ w rp gh cap d es) : w.cell? ⟨rp, 0, none⟩ = some (.slice (some ⟨gh, 0, none⟩) d.size cap) := by rw [zC h.box]; rfl
theorem wrapChk (t : TypeId) (a : Addr) (nm : String) (w : World) : (Builtin.ssaWrapNilChk_ #[t] t #[.pointer (some a), strVal "", strVal nm]).run Tryz.prog w = .ok (.pointer (some a)) w := by rfl
theorem mval (nm : String) (fid rp : Nat) (v : Value) (w : World) (hk : (Array.find? (fun x => x.name == nm) Tryz.prog.types[160]!.methods).map (fun m => (m.path.size, m.func)) = some (0, some (fid, false))) (h : w.cell? ⟨rp, 0, none⟩ = some v) (f : Nat) : (method (f + 1) 160 (.pointer (some ⟨rp, 0, none⟩)) nm).run Tryz.prog w = .ok (fid, v) w := by
 obtain ⟨m, hm, hp⟩ := Option.map_eq_some_iff.1 hk
 simp only [Prod.mk.injEq] at hp
 have e1 : m.path = #[] := Array.eq_empty_of_size_eq_zero hp.1
 have e2 := hp.2
 have e : ∀ w, ((typeInfo 160).run Tryz.prog w) = .ok (Tryz.prog.types[160]!) w := fun w => by kernel_rfl
 have hu := Tryz.underlying160
 unfold method
 rw [Sem.run_bind, e]
 simp only [Result.andThen, hm, e1, e2]
 go_simp
 generalize (nm.splitOn ".").getLast?.getD nm = nn
 unfold follow receiverAt
 go_simp
 unfold Place.get
 go_simp
 rw [wrapChk]
 go_simp
theorem mptr (nm : String) (fid rp : Nat) (w : World) (hk : (Array.find? (fun x => x.name == nm) Tryz.prog.types[160]!.methods).map (fun m => (m.path.size, m.func)) = some (0, some (fid, true))) (f : Nat) : (method (f + 1) 160 (.pointer (some ⟨rp, 0, none⟩)) nm).run Tryz.prog w = .ok (fid, .pointer (some ⟨rp, 0, none⟩)) w := by
 obtain ⟨m, hm, hp⟩ := Option.map_eq_some_iff.1 hk
 simp only [Prod.mk.injEq] at hp
 have e1 : m.path = #[] := Array.eq_empty_of_size_eq_zero hp.1
 have e2 := hp.2
 have e : ∀ w, ((typeInfo 160).run Tryz.prog w) = .ok (Tryz.prog.types[160]!) w := fun w => by kernel_rfl
 have hu := Tryz.underlying160
 unfold method
 rw [Sem.run_bind, e]
 simp only [Result.andThen, hm, e1, e2]
 go_simp
 generalize (nm.splitOn ".").getLast?.getD nm = nn
 unfold follow receiverAt
 go_simp
 unfold Place.get
 go_simp
theorem mLess (rp : Nat) (v : Value) (w : World) (h : w.cell? ⟨rp, 0, none⟩ = some v) (f : Nat) : (method (f + 1) 160 (.pointer (some ⟨rp, 0, none⟩)) "Less").run Tryz.prog w = .ok (208, v) w := mval "Less" _ rp v w (by kernel_rfl) h f
theorem mSwap (rp : Nat) (v : Value) (w : World) (h : w.cell? ⟨rp, 0, none⟩ = some v) (f : Nat) : (method (f + 1) 160 (.pointer (some ⟨rp, 0, none⟩)) "Swap").run Tryz.prog w = .ok (211, v) w := mval "Swap" _ rp v w (by kernel_rfl) h f
theorem mLen (rp : Nat) (v : Value) (w : World) (h : w.cell? ⟨rp, 0, none⟩ = some v) (f : Nat) : (method (f + 1) 160 (.pointer (some ⟨rp, 0, none⟩)) "Len").run Tryz.prog w = .ok (77, v) w := mval "Len" _ rp v w (by kernel_rfl) h f
theorem mPush (rp : Nat) (w : World) (f : Nat) : (method (f + 1) 160 (.pointer (some ⟨rp, 0, none⟩)) "Push").run Tryz.prog w = .ok (210, .pointer (some ⟨rp, 0, none⟩)) w := mptr "Push" _ rp w (by kernel_rfl) f
theorem mPop (rp : Nat) (w : World) (f : Nat) : (method (f + 1) 160 (.pointer (some ⟨rp, 0, none⟩)) "Pop").run Tryz.prog w = .ok (209, .pointer (some ⟨rp, 0, none⟩)) w := mptr "Pop" _ rp w (by kernel_rfl) f
set_option maxHeartbeats 8000000 in
set_option maxRecDepth 100000 in
theorem up_any (L : Nat -> List (Nat × Nat)) (rp gh cap n m : Nat) (d : Array Nat) (es : Nat -> Value) (w : World) (h : zQ w rp gh cap d es) (hK : HOK L es n d) (hm : d.size = m) (j : Nat) (hj : j < m) :
 Calls Tryz.prog 145 #[.iface 160 (.pointer (some ⟨rp, 0, none⟩)), .int .i64 j] w fun e w' => e = .returned (.tuple #[]) /\ Hid (zQ w' rp gh cap (siftUp (hlt L) j d) es) /\ Hid (Mod (fun k => k = gh) w w') := by
 have hm1 := hK.size
 have HH := zB (And.intro h hK)
 have HM := zB hm
 clear h hK
 go_enter Tryz.func145, Tryz.ntmps145
 go_wp2
 go_loopw [1] (fun v wr => ∃ (k : Nat) (d1 : Array Nat), v = .int .i64 k /\ k < m /\ Hid (zQ wr rp gh cap d1 es /\ HOK L es n d1) /\ Hid (d1.size = m) /\ Hid (siftUp (hlt L) k d1 = siftUp (hlt L) j d) /\ Hid (Mod (fun k => k = gh) w wr)) (fun v _ => (intOf v).toNat)
 case atStart => exact ⟨j, d, rfl, hj, HH, HM, zB rfl, zB (Mod.refl _ _)⟩
 case round =>
  clear HH HM hj
  obtain ⟨k, d1, rfl, hk, HH, HM, HE, HF⟩ := hrel
  have hmm := zA HM
  have hc := (zA HH).1.cell
  rw [hmm] at hc
  rcases Nat.eq_zero_or_pos k with hk0 | hk0
  ·subst hk0
   have hq : ((0 : Int) - 1).tdiv 2 = 0 := rfl
   clear hmm
   go_wp2
   go_end0
   refine ⟨rfl, zB ?_, HF⟩
   rw [← zA HE, siftUp_zero]
   exact (zA HH).1
  ·obtain ⟨i, hi⟩ : ∃ i, i = (k - 1) / 2 := ⟨_, rfl⟩
   have hq : ((k : Int) - 1).tdiv 2 = (i : Int) := by rw [Int.tdiv_eq_ediv_of_nonneg (by omega)]; omega
   have hik : i < k := by omega
   have hd : decide ((i : Int) = (k : Int)) = false := by simp; omega
   have HI := zB hi
   have hml := mLess rp _ wr hc
   have HL : Hid (Calls Tryz.prog 208 #[.slice (some ⟨gh, 0, none⟩) m cap, .int .i64 k, .int .i64 i] wr fun e w' => e = .returned (.bool (hlt L d1[i]! d1[k]!)) /\ ∃ q, w' = wr.drewN q) := zB (by
    have := rless_any L rp gh cap n d1 es wr (zA HH).1 (zA HH).2.es (zA HH).2.mem (zA HH).2.n k i (by omega) (by omega) (by omega)
    rw [hmm] at this
    exact this)
   have HSW : Hid (∀ q, Calls Tryz.prog 211 #[.slice (some ⟨gh, 0, none⟩) m cap, .int .i64 i, .int .i64 k] (wr.drewN q) fun e w' => e = .returned (.tuple #[]) /\ Hid (zQ w' rp gh cap (swp d1 i k) es) /\ Hid (Mod (fun k => k = gh) (wr.drewN q) w')) := zB (by
    intro q
    have := rswap_any rp gh cap d1 es (wr.drewN q) ((zA HH).1.drewN q) (zA HH).2.form i k (by omega) (by omega) (by omega)
    rw [hmm] at this
    exact this)
   have hms : ∀ q f, _ := fun q f => mSwap rp _ (wr.drewN q) hc f
   cases hb : hlt L d1[i]! d1[k]! with
   | true =>
     rw [hb] at HL
     have HB := zB hb
     clear hi hmm hb
     go_wp2_with (first | (go_at_call 208; refine (zA HL).mono ?_; rintro e w1 ⟨rfl, q, rfl⟩) | (go_at_call 211; refine (zA HSW q).mono ?_; rintro e w2 ⟨rfl, HH2, HF2⟩))
     go_roundw
     case rel =>
      refine ⟨i, swp d1 i k, rfl, by omega, zB ⟨zA HH2, (zA HH).2.swp (by rw [zA HM]; omega) (by rw [zA HM]; omega)⟩, zB (by rw [size_swp]; exact zA HM), zB ?_, zB (((zA HF).trans (Mod.drewN _ q) (fun _ _ e => e)).trans (zA HF2) (fun _ _ e => e))⟩
      have hg := siftUp_go (lt := hlt L) (j := k) (d := d1) (by omega) (by rw [← zA HI]; exact zA HB)
      rw [← zA HI] at hg
      rw [← zA HE, hg]
     case measure => simp [intOf]; omega
   | false =>
     rw [hb] at HL
     have HB := zB hb
     clear hi hmm hb
     go_wp2_with (first | (go_at_call 208; refine (zA HL).mono ?_; rintro e w1 ⟨rfl, q, rfl⟩))
     go_end0
     refine ⟨rfl, zB ?_, zB ((zA HF).trans (Mod.drewN _ q) (fun _ _ e => e))⟩
     rw [← zA HE, siftUp_stop (by omega) (by rw [← zA HI]; exact zA HB)]
     exact (zA HH).1.drewN q
end Go.Proofs.YtfpohfifdfbpkaaGreatDoor
namespace Go.Proofs.YtfpohfifdfbpkaaGreatDoor
open Go.RowKit Scour Go.Lib Go.Shelf Go.Sort
theorem sdn_stop {lt : Nat -> Nat -> Bool} {hi r : Nat} {d : Array Nat} (h : hi <= 2 * r + 1) : siftDown lt hi 0 r d = d := by rw [siftDown, dif_pos h]
theorem sdn_step {lt : Nat -> Nat -> Bool} {hi r c : Nat} {d : Array Nat} (h : 2 * r + 1 < hi) (hc : (c = 2 * r + 2 /\ 2 * r + 2 < hi /\ lt d[2 * r + 1]! d[2 * r + 2]! = true) \/ (c = 2 * r + 1 /\ (¬ 2 * r + 2 < hi \/ lt d[2 * r + 1]! d[2 * r + 2]! = false))) :
 siftDown lt hi 0 r d = if lt d[r]! d[c]! then siftDown lt hi 0 c (swp d r c) else d := by
 rw [siftDown, dif_neg (by omega)]
 simp only [Nat.zero_add]
 rcases hc with ⟨rfl, h1, h2⟩ | ⟨rfl, h1⟩
 ·rw [if_pos (by rw [h2]; simp; omega), dif_pos h1]
  cases lt d[r]! d[2 * r + 2]! <;> simp
 ·rw [if_neg (by rcases h1 with h1 | h1 <;> simp [h1])]
  cases lt d[r]! d[2 * r + 1]! <;> simp
set_option maxHeartbeats 16000000 in
set_option maxRecDepth 100000 in
theorem down_any (L : Nat -> List (Nat × Nat)) (rp gh cap n m hi : Nat) (d : Array Nat) (es : Nat -> Value) (w : World) (h : zQ w rp gh cap d es) (hK : HOK L es n d) (hm : d.size = m) (hhi : hi <= m) :
 Calls Tryz.prog 122 #[.iface 160 (.pointer (some ⟨rp, 0, none⟩)), .int .i64 0, .int .i64 hi] w fun e w' => ∃ v, e = .returned v /\ Hid (zQ w' rp gh cap (siftDown (hlt L) hi 0 0 d) es) /\ Hid (Mod (fun k => k = gh) w w') := by
 have hm1 := hK.size
 have HH := zB (And.intro h hK)
 have HM := zB hm
 clear h hK
 go_enter Tryz.func122, Tryz.ntmps122
 go_wp2
 go_loopw [7] (fun v wr => ∃ (k : Nat) (d1 : Array Nat), v = .int .i64 k /\ k <= hi /\ Hid (zQ wr rp gh cap d1 es /\ HOK L es n d1) /\ Hid (d1.size = m) /\ Hid (siftDown (hlt L) hi 0 k d1 = siftDown (hlt L) hi 0 0 d) /\ Hid (Mod (fun k => k = gh) w wr)) (fun v _ => hi - (intOf v).toNat)
 case atStart => exact ⟨0, d, rfl, Nat.zero_le _, HH, HM, zB rfl, zB (Mod.refl _ _)⟩
 case round =>
  clear HH HM
  obtain ⟨k, d1, rfl, hk, HH, HM, HE, HF⟩ := hrel
  have hmm := zA HM
  have hc := (zA HH).1.cell
  rw [hmm] at hc
  by_cases hch : 2 * k + 1 < hi
  ·obtain ⟨c, hce⟩ : ∃ c : Nat, 2 * k + 1 = c := ⟨_, rfl⟩
   have hci : (2 * (k : Int) + 1) = (c : Int) := by omega
   have HCE := zB hce
   have hc1 : c < hi := by omega
   have hc2 : k < c := by omega
   have hcm : c < m := by omega
   have hml : ∀ q f, _ := fun q f => mLess rp _ (wr.drewN q) hc f
   have hml0 := mLess rp _ wr hc
   have HL : Hid (∀ q x y, x < m -> y < m -> Calls Tryz.prog 208 #[.slice (some ⟨gh, 0, none⟩) m cap, .int .i64 x, .int .i64 y] (wr.drewN q) fun e w' => e = .returned (.bool (hlt L d1[y]! d1[x]!)) /\ ∃ q2, w' = wr.drewN (q + q2)) := zB (by
    intro q x y hx hy
    have := rless_any L rp gh cap n d1 es (wr.drewN q) ((zA HH).1.drewN q) (zA HH).2.es (zA HH).2.mem (zA HH).2.n x y (by omega) (by omega) (by omega)
    rw [hmm] at this
    refine this.mono ?_
    rintro e w' ⟨rfl, q2, rfl⟩
    exact ⟨rfl, q2, drewN2 _ _ _⟩)
   have HSW : Hid (∀ q y, y < m -> Calls Tryz.prog 211 #[.slice (some ⟨gh, 0, none⟩) m cap, .int .i64 k, .int .i64 y] (wr.drewN q) fun e w' => e = .returned (.tuple #[]) /\ Hid (zQ w' rp gh cap (swp d1 k y) es) /\ Hid (Mod (fun k => k = gh) (wr.drewN q) w')) := zB (by
    intro q y hy
    have := rswap_any rp gh cap d1 es (wr.drewN q) ((zA HH).1.drewN q) (zA HH).2.form k y (by omega) (by omega) (by omega)
    rw [hmm] at this
    exact this)
   have hms : ∀ q f, _ := fun q f => mSwap rp _ (wr.drewN q) hc f
   have hng : ¬ ((c : Int) < 0) := by omega
   clear hce hch hmm hc
   by_cases h2 : c + 1 < hi
   ·have h2i : (c : Int) + 1 < (hi : Int) := by omega
    have HLa : Hid (Calls Tryz.prog 208 #[.slice (some ⟨gh, 0, none⟩) m cap, .int .i64 ((c : Int) + 1), .int .i64 c] wr fun e w' => e = .returned (.bool (hlt L d1[c]! d1[c + 1]!)) /\ ∃ q2, w' = wr.drewN q2) := zB (by
     refine (zA HL 0 (c + 1) c (by omega) (by omega)).mono ?_
     rintro e w' ⟨rfl, q2, hq⟩
     exact ⟨rfl, 0 + q2, hq⟩)
    cases hb : hlt L d1[c]! d1[c + 1]! with
    | true =>
      rw [hb] at HLa
      have HC : Hid (siftDown (hlt L) hi 0 k d1 = if hlt L d1[k]! d1[c + 1]! then siftDown (hlt L) hi 0 (c + 1) (swp d1 k (c + 1)) else d1) := zB (by
       have e := zA HCE
       subst e
       exact sdn_step (by omega) (Or.inl ⟨rfl, by omega, hb⟩))
      clear hb
      have HLb : Hid (∀ q, Calls Tryz.prog 208 #[.slice (some ⟨gh, 0, none⟩) m cap, .int .i64 ((c : Int) + 1), .int .i64 k] (wr.drewN q) fun e w' => e = .returned (.bool (hlt L d1[k]! d1[(c + 1)]!)) /\ ∃ q2, w' = wr.drewN (q + q2)) := zB (by
       intro q
       refine (zA HL q (c + 1) k (by omega) (by omega)).mono ?_
       rintro e w' ⟨rfl, q2, hq⟩
       exact ⟨rfl, q2, hq⟩)
      have HSb : Hid (∀ q, Calls Tryz.prog 211 #[.slice (some ⟨gh, 0, none⟩) m cap, .int .i64 k, .int .i64 ((c : Int) + 1)] (wr.drewN q) fun e w' => e = .returned (.tuple #[]) /\ Hid (zQ w' rp gh cap (swp d1 k (c + 1)) es) /\ Hid (Mod (fun k => k = gh) (wr.drewN q) w')) := zB fun q => zA HSW q (c + 1) (by omega)
      cases hb2 : hlt L d1[k]! d1[(c + 1)]! with
      | true =>
        rw [hb2] at HLb HC
        clear hb2
        go_wp2_with (first | (go_at_call 208; refine (zA HLb q).mono ?_; rintro e w1 ⟨rfl, q2, rfl⟩) | (go_at_call 208; refine (zA HLa).mono ?_; rintro e w1 ⟨rfl, q, rfl⟩) | (go_at_call 211; refine (zA HSb _).mono ?_; rintro e w2 ⟨rfl, HH2, HF2⟩))
        go_roundw
        case rel =>
         refine ⟨(c + 1), swp d1 k (c + 1), by congr 1, by omega, zB ⟨zA HH2, (zA HH).2.swp (by rw [zA HM]; omega) (by rw [zA HM]; omega)⟩, zB (by rw [size_swp]; exact zA HM), zB ?_, zB (((zA HF).trans (Mod.drewN _ (q + q2)) (fun _ _ e => e)).trans (zA HF2) (fun _ _ e => e))⟩
         rw [← zA HE, zA HC]
         rfl
        case measure => simp [intOf]; omega
      | false =>
        rw [hb2] at HLb HC
        clear hb2
        go_wp2_with (first | (go_at_call 208; refine (zA HLb q).mono ?_; rintro e w1 ⟨rfl, q2, rfl⟩) | (go_at_call 208; refine (zA HLa).mono ?_; rintro e w1 ⟨rfl, q, rfl⟩))
        go_ret
        refine ⟨_, rfl, zB ?_, zB ((zA HF).trans (Mod.drewN _ (q + q2)) (fun _ _ e => e))⟩
        rw [← zA HE, zA HC]
        exact (zA HH).1.drewN _
    | false =>
      rw [hb] at HLa
      have HC : Hid (siftDown (hlt L) hi 0 k d1 = if hlt L d1[k]! d1[c]! then siftDown (hlt L) hi 0 c (swp d1 k c) else d1) := zB (by
       have e := zA HCE
       subst e
       exact sdn_step (by omega) (Or.inr ⟨rfl, Or.inr hb⟩))
      clear hb
      have HLb : Hid (∀ q, Calls Tryz.prog 208 #[.slice (some ⟨gh, 0, none⟩) m cap, .int .i64 (c), .int .i64 k] (wr.drewN q) fun e w' => e = .returned (.bool (hlt L d1[k]! d1[c]!)) /\ ∃ q2, w' = wr.drewN (q + q2)) := zB (by
       intro q
       refine (zA HL q c k (by omega) (by omega)).mono ?_
       rintro e w' ⟨rfl, q2, hq⟩
       exact ⟨rfl, q2, hq⟩)
      have HSb : Hid (∀ q, Calls Tryz.prog 211 #[.slice (some ⟨gh, 0, none⟩) m cap, .int .i64 k, .int .i64 (c)] (wr.drewN q) fun e w' => e = .returned (.tuple #[]) /\ Hid (zQ w' rp gh cap (swp d1 k c) es) /\ Hid (Mod (fun k => k = gh) (wr.drewN q) w')) := zB fun q => zA HSW q c (by omega)
      cases hb2 : hlt L d1[k]! d1[c]! with
      | true =>
        rw [hb2] at HLb HC
        clear hb2
        go_wp2_with (first | (go_at_call 208; refine (zA HLb q).mono ?_; rintro e w1 ⟨rfl, q2, rfl⟩) | (go_at_call 208; refine (zA HLa).mono ?_; rintro e w1 ⟨rfl, q, rfl⟩) | (go_at_call 211; refine (zA HSb _).mono ?_; rintro e w2 ⟨rfl, HH2, HF2⟩))
        go_roundw
        case rel =>
         refine ⟨c, swp d1 k c, by congr 1, by omega, zB ⟨zA HH2, (zA HH).2.swp (by rw [zA HM]; omega) (by rw [zA HM]; omega)⟩, zB (by rw [size_swp]; exact zA HM), zB ?_, zB (((zA HF).trans (Mod.drewN _ (q + q2)) (fun _ _ e => e)).trans (zA HF2) (fun _ _ e => e))⟩
         rw [← zA HE, zA HC]
         rfl
        case measure => simp [intOf]; omega
      | false =>
        rw [hb2] at HLb HC
        clear hb2
        go_wp2_with (first | (go_at_call 208; refine (zA HLb q).mono ?_; rintro e w1 ⟨rfl, q2, rfl⟩) | (go_at_call 208; refine (zA HLa).mono ?_; rintro e w1 ⟨rfl, q, rfl⟩))
        go_ret
        refine ⟨_, rfl, zB ?_, zB ((zA HF).trans (Mod.drewN _ (q + q2)) (fun _ _ e => e))⟩
        rw [← zA HE, zA HC]
        exact (zA HH).1.drewN _
   ·have h2i : decide ((c : Int) + 1 < (hi : Int)) = false := by simp; omega
    have HC : Hid (siftDown (hlt L) hi 0 k d1 = if hlt L d1[k]! d1[c]! then siftDown (hlt L) hi 0 c (swp d1 k c) else d1) := zB (by
     have e := zA HCE
     subst e
     exact sdn_step (by omega) (Or.inr ⟨rfl, Or.inl (by omega)⟩))
    have HLb : Hid (Calls Tryz.prog 208 #[.slice (some ⟨gh, 0, none⟩) m cap, .int .i64 (c), .int .i64 k] wr fun e w' => e = .returned (.bool (hlt L d1[k]! d1[c]!)) /\ ∃ q2, w' = wr.drewN q2) := zB (by
     refine (zA HL 0 c k (by omega) (by omega)).mono ?_
     rintro e w' ⟨rfl, q2, hq⟩
     exact ⟨rfl, 0 + q2, hq⟩)
    have HSb : Hid (∀ q, Calls Tryz.prog 211 #[.slice (some ⟨gh, 0, none⟩) m cap, .int .i64 k, .int .i64 (c)] (wr.drewN q) fun e w' => e = .returned (.tuple #[]) /\ Hid (zQ w' rp gh cap (swp d1 k c) es) /\ Hid (Mod (fun k => k = gh) (wr.drewN q) w')) := zB fun q => zA HSW q c (by omega)
    cases hb2 : hlt L d1[k]! d1[c]! with
    | true =>
      rw [hb2] at HLb HC
      clear hb2
      go_wp2_with (first | (go_at_call 208; refine (zA HLb).mono ?_; rintro e w1 ⟨rfl, q2, rfl⟩) | (go_at_call 211; refine (zA HSb _).mono ?_; rintro e w2 ⟨rfl, HH2, HF2⟩))
      go_roundw
      case rel =>
       refine ⟨c, swp d1 k c, by congr 1, by omega, zB ⟨zA HH2, (zA HH).2.swp (by rw [zA HM]; omega) (by rw [zA HM]; omega)⟩, zB (by rw [size_swp]; exact zA HM), zB ?_, zB (((zA HF).trans (Mod.drewN _ q2) (fun _ _ e => e)).trans (zA HF2) (fun _ _ e => e))⟩
       rw [← zA HE, zA HC]
       rfl
      case measure => simp [intOf]; omega
    | false =>
      rw [hb2] at HLb HC
      clear hb2
      go_wp2_with (first | (go_at_call 208; refine (zA HLb).mono ?_; rintro e w1 ⟨rfl, q2, rfl⟩))
      go_ret
      refine ⟨_, rfl, zB ?_, zB ((zA HF).trans (Mod.drewN _ q2) (fun _ _ e => e))⟩
      rw [← zA HE, zA HC]
      exact (zA HH).1.drewN _
  ·go_wp2
   go_ret
   refine ⟨⟨_, rfl⟩, zB ?_, HF⟩
   rw [← zA HE, sdn_stop (by omega)]
   exact (zA HH).1
end Go.Proofs.YtfpohfifdfbpkaaGreatDoor
