import Derived.Test.YtfpohfifdfbpkaaGreatDoorCompile
import Derived.Test.YtfpohfifdfbpkaaGreatDoorMath
import Derived.Test.YtfpohfifdfbpkaaGreatDoorLdC
import Derived.Test.YtfpohfifdfbpkaaGreatDoorPkN
namespace Go.Proofs.YtfpohfifdfbpkaaGreatDoor
open Go.RowKit Scour Go.Lib
theorem Tryz.infoM : (Tryz.prog.info? 49).map (fun i => (i.zero, i.size, i.bytes)) = some (some (.agg #[.int .i64 0, .int .i64 0]), 2, 16) := by kernel_rfl
def ze (l : List (Nat × Nat)) : List Value := l.flatMap fun m => [.int .i64 m.1, .int .i64 m.2]
theorem mcell_len (l : List (Nat × Nat)) : (ze l).length = l.length * 2 := by
 induction l with
 | nil => rfl
 | cons x l ih =>
   have : ze (x :: l) = [.int .i64 x.1, .int .i64 x.2] ++ ze l := rfl
   rw [this, List.length_append, ih]; simp; omega
theorem mcell_append (l m : List (Nat × Nat)) : ze (l ++ m) = ze l ++ ze m := by simp [ze]
theorem mcell_get : ∀ (l : List (Nat × Nat)) (q : Nat) (m : Nat × Nat), l[q]? = some m -> (ze l)[q * 2]? = some (.int .i64 m.1) /\ (ze l)[q * 2 + 1]? = some (.int .i64 m.2)
 | [], q, f, h => by simp at h
 | x :: l, 0, f, h => by
   obtain rfl : x = f := by simpa using h
   exact ⟨rfl, rfl⟩
 | x :: l, q + 1, f, h => by
   have := mcell_get l q f (by simpa using h)
   have e1 : (q + 1) * 2 = q * 2 + 2 := by omega
   rw [e1]
   exact this
theorem matches_at {w : World} {base : Nat} {v : Value} {l : List (Nat × Nat)} (h : w.ownsRow base 49 2 v l.length (ze l)) : ∃ ao c, v = .slice ao l.length c /\ ∀ k, k < l.length -> ∃ g, ao = some ⟨g, 0, none⟩ /\ w.cell? ⟨g, k * 2, none⟩ = some (.int .i64 (l.getD k (0, 0)).1) /\ w.cell? ⟨g, k * 2 + 1, none⟩ = some (.int .i64 (l.getD k (0, 0)).2) := by
 rcases h.2 with ⟨h1, h0⟩ | ⟨g, cap, cur, h1, _⟩
 ·exact ⟨none, 0, by rw [h1, h0], fun k hk => by omega⟩
 ·subst h1
  refine ⟨_, cap, rfl, fun k hk => ⟨g, rfl, ?_, ?_⟩⟩
  ·rw [h.cellAt (k * 2) (by omega), (mcell_get l k (l.getD k (0, 0)) (by simp [List.getD, hk])).1]
  ·rw [h.cellAt (k * 2 + 1) (by omega), (mcell_get l k (l.getD k (0, 0)) (by simp [List.getD, hk])).2]
def yl : Prop := ∀ (w : World) (bm bt be : Nat) (g : List Nat) (ps S : List Str), yV w bm bt be g ps S -> (chk ps).1 = 0 ->
    Calls Tryz.prog 25 #[.pointer (some ⟨bm, 0, none⟩)] w fun e w' => ∃ bs g' gm, e = .returned (.pointer (some ⟨bs, 0, none⟩)) /\ ScanM w' bs g' gm ps S [] /\ (∀ k, k ∈ gm -> k = bm \/ k = bt \/ k = be \/ k ∈ g) /\ w.heap.size <= bs /\ (∀ k, k ∈ g' -> w.heap.size <= k) /\ Below w.heap.size w w'
structure FdOut (w w' : World) (bs : Nat) (g gm : List Nat) (ps S : List Str) (t b : Str) (v : Value) (g' : List Nat) : Prop where
 row : w'.ownsRow w.heap.size 49 2 v (zJ ps t b).length (ze (zJ ps t b))
 scan : ScanM w' bs g' gm ps S (t ++ b)
 own : ∀ k, k ∈ g' -> k ∈ g \/ w.heap.size <= k
 apart : ∀ k, v.ownBlock = some k -> k ∉ g'
 os : w'.os = w.os
 tape : w'.tape = w.tape
 output : w'.output = w.output
 size : w.heap.size <= w'.heap.size
 frame : ∀ k, k < w.heap.size -> k ≠ bs -> k ∉ g -> w'.heap[k]? = w.heap[k]?
def yU : Prop := ∀ (w : World) (bs : Nat) (g gm : List Nat) (ps S : List Str) (t b : Str) (ao : Option Addr) (c : Nat), ScanM w bs g gm ps S t -> (chk ps).1 = 0 -> zh w ao c b -> b.length <= c -> c <= 9223372036854775807 -> b.length < 1000000000 -> t.length < 1000000000000000000 ->
    Calls Tryz.prog 26 #[.pointer (some ⟨bs, 0, none⟩), .slice ao b.length c] w fun e w' => ∃ v g', e = .returned v /\ FdOut w w' bs g gm ps S t b v g'
end Go.Proofs.YtfpohfifdfbpkaaGreatDoor
namespace Go.Proofs.YtfpohfifdfbpkaaGreatDoor
open Go.RowKit Scour Go.Lib
structure ApSt (w wr : World) (base : Nat) (v : Value) (l : List (Nat × Nat)) (u : Option Nat) : Prop where
 row : wr.ownsRow base 49 2 v l.length (ze l)
 fr : w.grownBy wr u
 own : v.ownBlock = u \/ ∀ k, v.ownBlock = some k -> w.heap.size <= k
theorem ApSt.keep {w wr : World} {base : Nat} {v : Value} {l : List (Nat × Nat)} {u : Option Nat} (h : ApSt w wr base v l u) {k : Nat} (hk : k < w.heap.size) (hu : u ≠ some k) : wr.heap[k]? = w.heap[k]? := h.fr.block k hk (fun e => hu e.symm)
theorem ApSt.more {w wr w4 : World} {base p e H : Nat} {v : Value} {l : List (Nat × Nat)} {u : Option Nat} (h : ApSt w wr base v l u) {g' cap' : Nat} (ho : w4.ownsRow base 49 2 (.slice (some ⟨g', 0, none⟩) (l.length + 1) cap') (l.length + 1) (ze l ++ [.int .i64 p, .int .i64 e]))
  (hg : (wr.alloc (.cells #[.int .i64 p, .int .i64 e] 49)).grownBy w4 v.ownBlock) (hat : v.ownBlock = some g' \/ g' = H) (hH : wr.heap.size + 1 = H) : ApSt w w4 base (.slice (some ⟨g', 0, none⟩) (l.length + 1) cap') (l ++ [(p, e)]) u := by
 have hs := h.fr.size
 refine ⟨?_, ?_, ?_⟩
 ·rw [List.length_append, mcell_append]
  exact ho
 ·refine ⟨hg.os.trans h.fr.os, hg.tape.trans h.fr.tape, hg.output.trans h.fr.output, Nat.le_trans hs (Nat.le_trans (by simp) hg.size), fun k hk hr => ?_⟩
  rw [hg.block k (by simp; omega) (fun e2 => ?_), Below.heap_alloc wr _ k (by omega)]
  ·exact h.fr.block k hk hr
  ·rcases h.own with g | g
   ·exact hr (e2.trans g)
   ·have := g k e2.symm; omega
 ·rcases hat with e1 | e1
  ·rcases h.own with g | g
   ·exact Or.inl (by rw [← g, e1]; rfl)
   ·exact Or.inr (fun k hk => by
     have : g' = k := by simpa [Value.ownBlock] using hk
     exact g k (by rw [e1, this]))
  ·exact Or.inr (fun k hk => by
    have : g' = k := by simpa [Value.ownBlock] using hk
    omega)
set_option maxHeartbeats 8000000 in
set_option maxRecDepth 100000 in
theorem append_any (bq base : Nat) (vP vH v0 : Value) (es : Nat -> Value) (ps S : List Str) (par lst E : Nat -> Int) (w : World) (hR : Rep S par lst) (hS : zm ps S E) (hl : ∀ i, i < ps.length -> (pat ps i).length <= 64) (hps : ps.length <= 64)
  (h : EndT w bq vP vH es S.length (zz E ps.length) (shF S (zz E ps.length) (S.length - 1))) (L0 : List (Nat × Nat)) (hv : w.ownsRow base 49 2 v0 L0.length (ze L0)) (hbase : base <= w.heap.size) (s t : Nat) (hs : s < S.length) (hL : L0.length < 100000000000) (_ht : t < 2000000000000000000) :
  Calls Tryz.prog 42 #[.pointer (some ⟨bq, 0, none⟩), v0, .int .i64 s, .int .i64 t] w fun e w' => ∃ v, e = .returned v /\ Hid (ApSt w w' base v (L0 ++ (fullN ps S s).map (fun p => (p, t))) v0.ownBlock) := by
 obtain ⟨i0, hi, hz0, hz1, hz2⟩ := info_parts Tryz.infoM
 have hSl := hS.len
 have HFL : Hid (∀ x, x < S.length -> (fullN ps S x).length <= 64) := zB (fun x _ => Nat.le_trans (endsAll_len ps _) hps)
 have HST : Hid (∀ x, 0 < x -> x < S.length -> ∃ q : Nat, shF S (zz E ps.length) (S.length - 1) x = (q : Int) /\ q < x /\ fullN ps S x = zz E ps.length x ++ fullN ps S q) := zB (fun x h0 hx => by
  obtain ⟨q, e1, e2, e3⟩ := sh_step hR hS hl x h0 hx
  exact ⟨q, e1, e2, by rw [full_fail hR hS hl h0 hx, e3, pat_is hR hS hx]⟩)
 have HZ : Hid (fullN ps S 0 = []) := zB (full_zero hR.head)
 have HRD : Hid (∀ wr v l x, ApSt w wr base v l v0.ownBlock -> x < S.length -> ∃ gP cP gH cH a c, vP = .slice (some ⟨gP, 0, none⟩) S.length cP /\ vH = .slice (some ⟨gH, 0, none⟩) S.length cH /\ wr.cell? ⟨bq, 0, none⟩ = some vP /\ wr.cell? ⟨bq, 1, none⟩ = some vH /\ wr.cell? ⟨gP, x, none⟩ = some (.slice a (zz E ps.length x).length c) /\ wr.cell? ⟨gH, x, none⟩ = some (.int .i64 (shF S (zz E ps.length) (S.length - 1) x)) /\ ∀ wz v l, ApSt w wz base v l v0.ownBlock -> ∀ j, j < (zz E ps.length x).length -> ∃ g, a = some ⟨g, 0, none⟩ /\ wz.cell? ⟨g, j, none⟩ = some (.int .i64 ((zz E ps.length x).getD j 0 : Nat))) := zB (by
  have hne : ∀ (b e : Nat) (cu : Array Value), w.heap[b]? = some (.cells cu e (0, 0)) -> e ≠ 49 -> v0.ownBlock ≠ some b := fun b e cu hb he e1 => by
   obtain ⟨c2, hc2⟩ := zD hv e1
   exact zH hb hc2 he rfl
  have hE : ∀ wr v l, ApSt w wr base v l v0.ownBlock -> EndT wr bq vP vH es S.length (zz E ps.length) (shF S (zz E ps.length) (S.length - 1)) := fun wr v l ha => h.same (fun k hk hb => ha.keep hk (by
   rcases hb with e | e | e | ⟨s, hs, e⟩
   ·rw [e]; exact hne _ _ _ h.blk (by decide)
   ·obtain ⟨c2, hc2⟩ := zD h.prow e; exact hne _ _ _ hc2 (by decide)
   ·obtain ⟨c2, hc2⟩ := zD h.hrow e; exact hne _ _ _ hc2 (by decide)
   ·obtain ⟨c2, hc2⟩ := zD (h.pes s hs) e; exact hne _ _ _ hc2 (by decide)))
  intro wr v l x ha hx
  obtain ⟨gP, cP, gH, cH, a, c, e1, e2, e3, e4, e5, e6, e7, _⟩ := (hE wr v l ha).reads hx
  refine ⟨gP, cP, gH, cH, a, c, e1, e2, e3, e4, by rw [e5, e7], e6, fun wz v' l' hz => ?_⟩
  obtain ⟨gP', cP', gH', cH', a', c', _, _, _, _, _, _, e7', e8'⟩ := (hE wz v' l' hz).reads hx
  obtain ⟨rfl, _⟩ : a = a' /\ c = c' := by rw [e7] at e7'; simpa using e7'
  exact e8')
 have H0 : Hid (ApSt w w base v0 L0 v0.ownBlock) := zB ⟨hv, ⟨rfl, rfl, rfl, Nat.le_refl _, fun _ _ _ => rfl⟩, Or.inl rfl⟩
 have HPL : Hid (∀ x, (zz E ps.length x).length <= 64) := zB (fun x => Nat.le_trans (patK_len _ _ _) hps)
 clear h hv hR hl hS
 generalize zz E ps.length = P at *
 generalize shF S P (S.length - 1) = f at *
 generalize v0.ownBlock = u at *
 go_enter Tryz.func42, Tryz.ntmps42
 go_wp2
 go_loopw [1, 2] (fun v1 v2 wr => ∃ (x : Nat) (M : List Nat), v2 = .int .i64 x /\ x < S.length /\ Hid (M ++ fullN ps S x = fullN ps S s) /\ Hid (ApSt w wr base v1 (L0 ++ M.map (fun p => (p, t))) u)) (fun _ v2 _ => (intOf v2).toNat)
 case atStart => exact ⟨s, [], rfl, hs, zB rfl, zB (by rw [List.map_nil, List.append_nil]; exact zA H0)⟩
 case round =>
  clear H0
  obtain ⟨x, M, rfl, hx, HM, HA⟩ := hrel
  by_cases hx0 : 0 < x
  ·obtain ⟨gP, cP, gH, cH, a, c, rfl, rfl, d0, d1, d2, d3, hdd⟩ := zA HRD _ _ _ x (zA HA) hx
   obtain ⟨q, hq1, hq2, hq3⟩ := zA HST x hx0 hx
   have HDD := zB hdd
   have HQ3 := zB hq3
   have hml := zA HPL x
   have hmf : M.length <= 64 := by
    have h1 := zA HFL s hs
    rw [← zA HM, List.length_append] at h1; omega
   have k1 : (x : Int) < (S.length : Int) := by omega
   have k0 : (0 : Int) <= (x : Int) := by omega
   have k2 : ¬ (x : Int) = 0 := by omega
   have k3 : ((x : Int) != 0) = true := by simp; omega
   rw [hq1] at d3
   have HRX : Hid (∀ wr v l, ApSt w wr base v l u -> wr.cell? ⟨bq, 1, none⟩ = some (.slice (some ⟨gH, 0, none⟩) S.length cH) /\ wr.cell? ⟨gH, x, none⟩ = some (.int .i64 (q : Nat))) := zB (fun wr v l ha => by
    obtain ⟨gP', cP', gH', cH', a', c', _, e2, _, e4, _, e6, _⟩ := zA HRD _ _ _ x ha hx
    obtain ⟨rfl, rfl⟩ : gH = gH' /\ cH = cH' := by simpa using e2
    exact ⟨e4, by rw [e6, hq1]⟩)
   clear hdd hq3 hq1
   go_wp2
   clear d0 d1 d2 d3
   go_loopw [1, 28] (fun v1 v28 wz => ∃ j : Nat, v28 = .int .i64 j /\ j <= (P x).length /\ Hid (ApSt w wz base v1 (L0 ++ (M ++ (P x).take j).map (fun p => (p, t))) u)) (fun _ v28 _ => (P x).length - (intOf v28).toNat)
   case atStart => exact ⟨0, rfl, Nat.zero_le _, zB (by rw [List.take_zero, List.append_nil]; exact zA HA)⟩
   case round =>
    clear HA
    obtain ⟨j, rfl, hj, HJ⟩ := hrel
    by_cases hjl : j < (P x).length
    ·obtain ⟨g, rfl, d5⟩ := zA HDD _ _ _ (zA HJ) j hjl
     have j1 : (j : Int) < ((P x).length : Int) := by omega
     have j0 : (0 : Int) <= (j : Int) := by omega
     have HTK : Hid (L0 ++ (M ++ (P x).take (j + 1)).map (fun p => (p, t)) = L0 ++ (M ++ (P x).take j).map (fun p => (p, t)) ++ [((P x).getD j 0, t)]) := zB (by
      rw [List.take_add_one, ← List.append_assoc, List.map_append, ← List.append_assoc]
      simp [hjl, List.getD])
     have hll : (L0 ++ (M ++ (P x).take j).map (fun p => (p, t))).length <= L0.length + 128 := by
      simp only [List.length_append, List.length_map, List.length_take]; omega
     generalize (P x).getD j 0 = y at *
     generalize L0 ++ (M ++ (P x).take j).map (fun p => (p, t)) = l at *
     have HOWN : Hid ((wr.alloc (.cells #[.int .i64 y, .int .i64 t] 49)).ownsRow base 49 2 u1 l.length (ze l)) := zB ((zA HJ).row.alloc _)
     have hszz := (zA HJ).fr.size
     go_wp2_with (at_builtin; refine wpList_append_lies _ rfl (.tmp 32) (.tmp 36) 42 rfl base 49 i0 _ 2 16 Tryz.underlying42 hi hz0 hz1 hz2 rfl (by decide) _ l.length (ze l) rfl (zA HOWN) ⟨wr.heap.size, 0, none⟩ 1 1 [.int .i64 y, .int .i64 t] rfl rfl (World.news_of_block (heap_alloc_new wr _)) (by intro u hu; simp at hu; rcases hu with rfl | rfl <;> rfl) (by omega) (by unfold maxLen; omega) (by omega) (by simp; omega) (wr.heap.size + 1) (by simp) ?_; intro g' cap' w4 ho hg hat hlt4; have HN4 := zB ((zA HJ).more ho hg hat rfl); clear ho hg hat hlt4)
     go_roundw
     case rel => exact ⟨j + 1, by go_num, hjl, zB (by rw [zA HTK]; exact zA HN4)⟩
     case measure => simp [intOf]; omega
    ·obtain rfl : j = (P x).length := by omega
     obtain ⟨d6, d7⟩ := zA HRX _ _ _ (zA HJ)
     have j1 : ¬ ((P x).length : Int) < ((P x).length : Int) := by omega
     go_wp2_with fail
     go_roundw
     case rel => exact ⟨q, M ++ P x, rfl, by omega, zB (by rw [List.append_assoc, ← zA HQ3]; exact zA HM), zB (by have := zA HJ; rw [List.take_length] at this; exact this)⟩
     case measure => simp [intOf]; omega
  ·obtain rfl : x = 0 := by omega
   go_wp2_with fail
   go_ret
   refine ⟨_, rfl, ?_⟩
   have hm := zA HM
   rw [zA HZ, List.append_nil] at hm
   rw [← hm]
   exact HA
end Go.Proofs.YtfpohfifdfbpkaaGreatDoor
namespace Go.Proofs.YtfpohfifdfbpkaaGreatDoor
open Go.RowKit Scour Go.Lib
set_option maxHeartbeats 8000000 in
set_option maxRecDepth 100000 in
theorem stepf_any (bk bp bq : Nat) (gm : List Nat) (ps S : List Str) (par lst : Nat -> Int) (w : World) (hR : Rep S par lst) (hL : Look w bp bq gm ps S) (hk : w.heap[bk]? = some (.cells #[.pointer (some ⟨bp, 0, none⟩)] 76 (0, 0))) (s : Nat) (hs : s < S.length) (b : UInt8) :
  Calls Tryz.prog 68 #[.int .i64 s, .int .u8 b.toNat, .pointer (some ⟨bk, 0, none⟩)] w fun e w' => e = .returned (.int .i64 (zO S s b : Nat)) /\ Below w.heap.size w w' := by
 obtain ⟨vC, vO, vX, vF, vP, vH, es, E, hT, _, hS, _⟩ := hL
 have hcl : (zL ps).length <= 256 := clsTo_len ps 256
 have hSl := hS.len
 obtain ⟨k, hkc, hcls, h1, h2⟩ := step_next hS hR.head hR.pos hR.sorted s hs b
 have hof := packTo_off (n := S.length) (excL_lt S (zL ps) hcl) S.length s
 have hofe : (zI (zU S (zL ps)) S.length).o s = (zP (zU S (zL ps)) S.length S.length).o s := rfl
 rw [← hofe] at hof
 obtain ⟨a, ha⟩ : ∃ a : Nat, (zI (zU S (zL ps)) S.length).o s = (a : Int) := ⟨((zI (zU S (zL ps)) S.length).o s).toNat, by omega⟩
 have htop : a + k <= topN ps S := by
  have := le_maxF (zI (zU S (zL ps)) S.length).o (S.length - 1) s (by omega)
  unfold topN; omega
 obtain ⟨g1, g2⟩ := pad_get (cl := (zI (zU S (zL ps)) S.length).cl) htop
 rw [ha, Int.toNat_natCast, ← g2] at h1 h2
 have ho := hT.tab.off
 have hx := hT.tab.cel
 have hf := hT.fst
 have hpl := packTo_len (n := S.length) (excL_lt S (zL ps) hcl) S.length
 have hpl2 : (padC (zI (zU S (zL ps)) S.length).cl (topN ps S)).length < 100000000 := by
  have hm := maxF_in (packTo_off (n := S.length) (excL_lt S (zL ps) hcl) S.length) (S.length - 1)
  have e1 : (zI (zU S (zL ps)) S.length).cl.length <= 1000 * S.length := hpl
  have e2 : maxF (zI (zU S (zL ps)) S.length).o (S.length - 1) <= ((1000 * S.length : Nat) : Int) := hm.2
  rw [padC_len]; unfold topN; omega
 have q0 : w.cell? ⟨bk, 0, none⟩ = some (.pointer (some ⟨bp, 0, none⟩)) := by rw [zC hk]; rfl
 have hlk : bk < w.heap.size := (Array.getElem?_eq_some_iff.1 hk).1
 have hlp : bp < w.heap.size := (Array.getElem?_eq_some_iff.1 hT.tab.blk).1
 have q4 : w.cell? ⟨bp, 4 + b.toNat, none⟩ = some (.int .i64 (k : Nat)) := by rw [zC hT.tab.blk, tabR_cls (by have := b.toNat_lt; omega), hcls]
 have q2 : w.cell? ⟨bp, 2, none⟩ = some vX := by rw [zC hT.tab.blk]; rfl
 have q1 : w.cell? ⟨bp, 1, none⟩ = some vO := by rw [zC hT.tab.blk]; rfl
 have q5 : w.cell? ⟨bp, 260, none⟩ = some vF := by rw [zC hT.tab.blk]; exact tabR_fst
 generalize hD : padC (zI (zU S (zL ps)) S.length).cl (topN ps S) = D at *
 rcases ho.2 with ⟨_, hn⟩ | ⟨gO, cO, cu1, rfl, _, lo, _⟩
 ·omega
 rcases hx.2 with ⟨_, hn⟩ | ⟨gX, cX, cu2, rfl, _, lx, _⟩
 ·omega
 rcases hf.2 with ⟨_, hn⟩ | ⟨gF, cF, cu3, rfl, _, lf, _⟩
 ·omega
 have q6 : w.cell? ⟨gO, s, none⟩ = some (.int .i64 (a : Nat)) := by rw [ho.cellAt s (by omega), zW _ _ _ hs, ha]
 have hDl := cellsV_len D
 obtain ⟨x0, x1⟩ := cellsV_get D (a + k) (D.getD (a + k) (0, 0)) (by simp [List.getD, g1])
 have q7 : w.cell? ⟨gX, (a + k) * 2, none⟩ = some (.int .i64 (D.getD (a + k) (0, 0)).1) := by rw [hx.cellAt _ (by omega)]; exact x0
 have q8 : w.cell? ⟨gX, (a + k) * 2 + 1, none⟩ = some (.int .i64 (D.getD (a + k) (0, 0)).2) := by rw [hx.cellAt _ (by omega)]; exact x1
 have q9 : w.cell? ⟨gF, k, none⟩ = some (.int .i64 (fstF S (zL ps) (zL ps).length k)) := by rw [hf.cellAt k (by omega), zW _ _ _ (by omega)]
 have lO := (Array.getElem?_eq_some_iff.1 lo).1
 have lX := (Array.getElem?_eq_some_iff.1 lx).1
 have lF := (Array.getElem?_eq_some_iff.1 lf).1
 have hB : ∀ ob, Below w.heap.size w (w.alloc ob) := fun ob => (Below.refl _ _).alloc (Nat.le_refl _) _
 have HBB := zB hB
 clear hT hS hR hk hcls ho hx hf hofe hof htop g2 lo lx lf x0 x1 hpl ha hD hDl hB
 have HH1 := zB h1
 have HH2 := zB h2
 generalize D.getD (a + k) (0, 0) = C at *
 obtain ⟨st, nx⟩ := C
 simp only [] at q7 q8
 generalize hNX : zO S s b = N at *
 generalize fstF S (zL ps) (zL ps).length k = F0 at *
 generalize D.length = m at *
 generalize (zL ps).length = cm at *
 clear h1 h2 hNX
 obtain ⟨i, hi⟩ : ∃ i, a + k = i := ⟨_, rfl⟩
 rw [hi] at q7 q8 g1
 have hii : (a : Int) + (k : Int) = (i : Int) := by omega
 have y0 : (i : Int) < (m : Int) := by omega
 have y1 : (s : Int) < (S.length : Int) := by omega
 have y2 : (k : Int) < ((cm + 1 : Nat) : Int) := by omega
 have y3 : ((b.toNat : Nat) : Int) < 256 := by have := b.toNat_lt; omega
 have y4 : (0 : Int) <= (i : Int) := by omega
 have y5 : (0 : Int) <= (s : Int) := by omega
 have y6 : (0 : Int) <= (k : Int) := by omega
 have y7 : IntKind.i64.wrap (i : Int) = (i : Int) := by rw [IntKind.wrap_i64]; omega
 clear g1 hi
 by_cases hst : st = (s : Int)
 ·have HN : Hid (nx = (N : Int)) := zB (zA HH1 hst)
  subst hst
  clear HH1 HH2 q9
  go_enter Tryz.func68, Tryz.ntmps68
  go_wp2_with fail
  go_region
  all_goals go_wp2_with fail
  all_goals go_ret
  all_goals exact ⟨by rw [zA HN]; rfl, (zA HBB _).drew⟩
 ·have HN : Hid (F0 = (N : Int)) := zB (zA HH2 hst)
  have hsb : ¬ st = (s : Int) := hst
  clear HH1 HH2
  go_enter Tryz.func68, Tryz.ntmps68
  go_wp2_with fail
  go_region
  all_goals go_wp2_with fail
  all_goals go_ret
  all_goals exact ⟨by rw [zA HN]; rfl, (zA HBB _).drew⟩
end Go.Proofs.YtfpohfifdfbpkaaGreatDoor
namespace Go.Proofs.YtfpohfifdfbpkaaGreatDoor
open Go.RowKit Scour Go.Lib
structure FeSt (w wr : World) (bs bk bq s c : Nat) (v : Value) (l : List (Nat × Nat)) : Prop where
 blk : wr.heap[bs]? = some (.cells #[.func (.func 68) #[] #[.pointer (some ⟨bk, 0, none⟩)], .pointer (some ⟨bq, 0, none⟩), .int .i64 (s : Nat), .int .i64 (c : Nat)] 92 (0, 0))
 row : wr.ownsRow w.heap.size 49 2 v l.length (ze l)
 fr : w.grownBy wr (some bs)
theorem FeSt.on {w wr w2 : World} {bs bk bq s c : Nat} {v : Value} {l : List (Nat × Nat)} (h : FeSt w wr bs bk bq s c v l) (hb : Below wr.heap.size wr w2) : FeSt w w2 bs bk bq s c v l :=
 ⟨(hb.block bs (Array.getElem?_eq_some_iff.1 h.blk).1).trans h.blk, zE h.row (fun k hk _ => hb.block k hk), ⟨hb.os.trans h.fr.os, hb.tape.trans h.fr.tape, hb.output.trans h.fr.output, Nat.le_trans h.fr.size hb.size, fun k hk hr => (hb.block k (Nat.lt_of_lt_of_le hk h.fr.size)).trans (h.fr.block k hk hr)⟩⟩
theorem FeSt.set {w wr : World} {bs bk bq s c s' c' i : Nat} {v : Value} {l : List (Nat × Nat)} (h : FeSt w wr bs bk bq s c v l) (hbs : bs < w.heap.size) (x : Value) (he : (#[.func (.func 68) #[] #[.pointer (some ⟨bk, 0, none⟩)], .pointer (some ⟨bq, 0, none⟩), .int .i64 (s : Nat), .int .i64 (c : Nat)] : Array Value).setIfInBounds i x = #[.func (.func 68) #[] #[.pointer (some ⟨bk, 0, none⟩)], .pointer (some ⟨bq, 0, none⟩), .int .i64 (s' : Nat), .int .i64 (c' : Nat)]) : FeSt w (wr.setCell ⟨bs, i, none⟩ x) bs bk bq s' c' v l := by
 refine ⟨by rw [heap_setCell_same wr bs i _ _ x h.blk, he], zE h.row (fun b _ hv => Below.heap_setCell wr _ _ b (fun e => ?_)), ⟨h.fr.os, h.fr.tape, h.fr.output, by simp [World.setCell]; exact h.fr.size, fun k hk hr => ?_⟩⟩
 ·have := (h.row.lt b hv).1
  simp only [] at e; omega
 ·rw [Below.heap_setCell wr _ _ k (fun e => hr (by rw [e]))]
  exact h.fr.block k hk hr
theorem FeSt.ap {w wr w2 : World} {bs bk bq s c : Nat} {v v2 : Value} {l l2 : List (Nat × Nat)} (h : FeSt w wr bs bk bq s c v l) (hbs : bs < w.heap.size) (ha : ApSt wr w2 w.heap.size v2 l2 v.ownBlock) : FeSt w w2 bs bk bq s c v2 l2 := by
 have hno : ∀ k, k < w.heap.size -> v.ownBlock ≠ some k := fun k hk e => by have := (h.row.lt k e).1; omega
 have hsz := h.fr.size
 refine ⟨(ha.keep (by omega) (hno bs hbs)).trans h.blk, ha.row, ⟨ha.fr.os.trans h.fr.os, ha.fr.tape.trans h.fr.tape, ha.fr.output.trans h.fr.output, Nat.le_trans hsz ha.fr.size, fun k hk hr => (ha.keep (by omega) (hno k hk)).trans (h.fr.block k hk hr)⟩⟩
theorem mkstep_any (bp : Nat) (w : World) :
  Calls Tryz.prog 41 #[.pointer (some ⟨bp, 0, none⟩)] w fun e w' => e = .returned (.func (.func 68) #[] #[.pointer (some ⟨w.heap.size, 0, none⟩)]) /\ w' = w.alloc (.cells #[.pointer (some ⟨bp, 0, none⟩)] 76) := by
 have hmf : ∀ (fn : Fn) (first cap : Array Value) (w : World), (Instr.makeFunc fn first cap).run Tryz.prog w = .ok (.func fn first cap) w := fun _ _ _ _ => rfl
 go_enter Tryz.func41, Tryz.ntmps41
 go_wp2
 go_ret
 exact ⟨rfl, rfl⟩
set_option maxHeartbeats 4000000 in
set_option maxRecDepth 100000 in
theorem scan_ok : yl := by
 intro w bm bt be g ps S hM _
 obtain ⟨_, cap, par, lst, E, hT, _⟩ := hM.ex
 have hR := hT.rep
 obtain ⟨l1, _, _, l4⟩ := hM.lts
 obtain ⟨bp, bq, hb, hL⟩ := hM.tb
 have c1 : w.cell? ⟨bm, 1, none⟩ = some (.pointer (some ⟨bp, 0, none⟩)) := by rw [zC hb]; rfl
 have c2 : w.cell? ⟨bm, 2, none⟩ = some (.pointer (some ⟨bq, 0, none⟩)) := by rw [zC hb]; rfl
 have HZ : Hid (S.idxOf (yI S []) = 0) := zB (by
  have := idx_at hR.sorted hR.pos
  rw [hR.head] at this
  exact this)
 have HMK : Hid (∀ q, Calls Tryz.prog 41 #[.pointer (some ⟨bp, 0, none⟩)] (w.drewN q) fun e w' => ∃ bk, e = .returned (.func (.func 68) #[] #[.pointer (some ⟨bk, 0, none⟩)]) /\ Hid (w.heap.size <= bk) /\ Hid (w'.heap[bk]? = some (.cells #[.pointer (some ⟨bp, 0, none⟩)] 76 (0, 0))) /\ Hid (Below w.heap.size w w') /\ w'.cell? ⟨bm, 1, none⟩ = some (.pointer (some ⟨bp, 0, none⟩)) /\ w'.cell? ⟨bm, 2, none⟩ = some (.pointer (some ⟨bq, 0, none⟩))) := zB (fun q => by
  refine (mkstep_any bp (w.drewN q)).mono ?_
  rintro e w' ⟨rfl, rfl⟩
  have hq : Below w.heap.size w (w.drewN q) := below_drewN (Below.refl _ _) q
  have hb2 : Below w.heap.size w ((w.drewN q).alloc (.cells #[.pointer (some ⟨bp, 0, none⟩)] 76)) := hq.alloc hq.size _
  exact ⟨_, rfl, zB hq.size, zB (heap_alloc_new _ _), zB hb2, (hb2.cell (p := ⟨bm, 1, none⟩) l1).trans c1, (hb2.cell (p := ⟨bm, 2, none⟩) l1).trans c2⟩)
 have HFIN : Hid (∀ w' bs bk, w.heap.size <= bk -> w.heap.size <= bs -> Below w.heap.size w w' -> w'.heap[bs]? = some (.cells #[.func (.func 68) #[] #[.pointer (some ⟨bk, 0, none⟩)], .pointer (some ⟨bq, 0, none⟩), .int .i64 0, .int .i64 0] 92 (0, 0)) -> w'.heap[bk]? = some (.cells #[.pointer (some ⟨bp, 0, none⟩)] 76 (0, 0)) -> ∃ g' gm, ScanM w' bs g' gm ps S [] /\ (∀ k, k ∈ gm -> k = bm \/ k = bt \/ k = be \/ k ∈ g) /\ w.heap.size <= bs /\ (∀ k, k ∈ g' -> w.heap.size <= k) /\ Below w.heap.size w w') := zB (fun w' bs bk h1 h2 h3 h4 h5 => by
  refine ⟨[bk], g, ⟨bk, bp, bq, rfl, by rw [h4, zA HZ]; rfl, h5, hL.same (fun k hk _ => h3.block k hk), fun k hk => Nat.lt_of_lt_of_le (l4 k hk) h3.size, fun hk => by have := l4 bs hk; omega, par, lst, hR⟩, fun k hk => Or.inr (Or.inr (Or.inr hk)), h2, fun k hk => ?_, h3⟩
  obtain rfl : k = bk := by simpa using hk
  exact h1)
 clear hM hL hb hT hR l4 HZ
 go_enter Tryz.func25, Tryz.ntmps25
 go_wp2_with fail
 go_region_held3 (fun w' => w'.cell? ⟨bm, 1, none⟩ = some (.pointer (some ⟨bp, 0, none⟩)) /\ w'.cell? ⟨bm, 2, none⟩ = some (.pointer (some ⟨bq, 0, none⟩))) (go_keep)
  (first | (go_at_call 41; refine (zA HMK 1).mono ?_; rintro e w2 ⟨bk, rfl, HK1, HK2, HK3, y1, y2⟩))
 go_wp2_with fail
 go_ret
 have hs2 := (zA HK3).size
 have hb3 : Below w2.heap.size w2 (w2.alloc (.cells #[.func (.func 68) #[] #[.pointer (some ⟨bk, 0, none⟩)], .pointer (some ⟨bq, 0, none⟩), .int .i64 0, .int .i64 0] 92)) := (Below.refl _ _).alloc (Nat.le_refl _) _
 obtain ⟨g', gm, q1, q2, q3, q4, q5⟩ := zA HFIN _ w2.heap.size bk (zA HK1) hs2 ((zA HK3).trans (hb3.mono hs2)) (heap_alloc_new w2 _) ((hb3.block bk (Array.getElem?_eq_some_iff.1 (zA HK2)).1).trans (zA HK2))
 exact ⟨_, g', gm, rfl, q1, q2, q3, q4, q5⟩
set_option maxHeartbeats 8000000 in
set_option maxRecDepth 100000 in
theorem feed_ok : yU := by
 intro w bs g gm ps S t b ao c hSc hc hB hbc hc2 hbl htl
 obtain ⟨h64, hlen, _⟩ := yr hc
 obtain ⟨lbs, lg, lgm⟩ := hSc.lts
 obtain ⟨bk, bp, bq, rfl, hblk, hbk, hLk, _, hngm, par, lst, hR⟩ := hSc
 have hkb : bk ≠ bs := zH hbk hblk (by decide)
 have hlk : bk < w.heap.size := lg bk (by simp)
 obtain ⟨st, hst⟩ : ∃ st : Nat -> Nat, st = fun k => S.idxOf (yI S (t ++ b.take k)) := ⟨_, rfl⟩
 have hTK : ∀ k, k < b.length -> t ++ b.take (k + 1) = t ++ b.take k ++ [b.getD k 0] := fun k hk => by
  rw [List.take_succ_eq_append_getElem hk, ← List.append_assoc]; simp [List.getD, hk]
 have HSL : Hid (∀ k, st k < S.length) := zB (fun k => by rw [hst]; exact List.idxOf_lt_length_of_mem (lsuf_mem S hR.nil_mem _))
 have HSN : Hid (∀ k, k < b.length -> zO S (st k) (b.getD k 0) = st (k + 1)) := zB (fun k hk => by
  rw [hst]
  unfold zO
  simp only []
  rw [jV (lsuf_mem S hR.nil_mem _), hTK k hk, lsuf_snoc S hR.closed (b.getD k 0) (t ++ b.take k)])
 have HFS : Hid (∀ k, k < b.length -> zJ ps t (b.take (k + 1)) = zJ ps t (b.take k) ++ (fullN ps S (st (k + 1))).map (fun p => (p, t.length + k + 1))) := zB (fun k hk => by
  obtain ⟨_, _, _, _, _, _, _, E, _, _, hS, _⟩ := hLk
  have hmem : ∀ i, i < ps.length -> ps.getD i [] ∈ S := fun i hi => by
   obtain ⟨p, hp, _, e⟩ := hS.ends i hi
   have e' : at' S p = ps.getD i [] := e
   rw [← e']; exact jO hp
  have e1 : fullN ps S (st (k + 1)) = jJ ps (t ++ b.take (k + 1)) := by
   rw [hst]; unfold fullN
   simp only []
   rw [jV (lsuf_mem S hR.nil_mem _), ← endsAll_lsuf hmem]
  have e2 : b.take (k + 1) = b.take k ++ [b.getD k 0] := by rw [List.take_succ_eq_append_getElem hk]; simp [List.getD, hk]
  rw [e1, e2, feedS_append, zJ, zJ, List.append_nil, List.append_assoc]
  congr 2
  funext p
  simp; omega)
 have HLW : Hid (∀ wr s c v l, FeSt w wr bs bk bq s c v l -> Look wr bp bq gm ps S /\ wr.heap[bk]? = some (.cells #[.pointer (some ⟨bp, 0, none⟩)] 76 (0, 0))) := zB (fun wr s c v l h => ⟨hLk.same (fun k hk hm => h.fr.block k hk (fun e => hngm (by cases e; exact hm))), (h.fr.block bk hlk (fun e => hkb (by cases e; rfl))).trans hbk⟩)
 have HBY : Hid (∀ wr s c v l j, FeSt w wr bs bk bq s c v l -> j < b.length -> ∃ b0 o, ao = some ⟨b0, o, none⟩ /\ wr.cell? ⟨b0, o + j, none⟩ = some (.int .u8 (b.getD j 0).toNat)) := zB (fun wr s c v l j h hj => by
  rcases hB with ⟨rfl, _⟩ | ⟨b0, o, rfl, hl0, hcl⟩
  ·simp at hj
  ·refine ⟨b0, o, rfl, ?_⟩
   have hne : b0 ≠ bs := fun e => by
    have h1 := hcl j hj
    rw [e, zC hblk] at h1
    generalize o + j = i at h1
    match i, h1 with
    | 0, h1 => simp at h1
    | 1, h1 => simp at h1
    | 2, h1 => simp at h1
    | 3, h1 => simp at h1
    | i + 4, h1 => simp at h1
   rw [World.cell?_of_block (a := ⟨b0, o + j, none⟩) (h.fr.block b0 hl0 (fun e => hne (by cases e; rfl)))]
   exact hcl j hj)
 have HCS : Hid (∀ wr s c v l, FeSt w wr bs bk bq s c v l -> wr.cell? ⟨bs, 0, none⟩ = some (.func (.func 68) #[] #[.pointer (some ⟨bk, 0, none⟩)]) /\ wr.cell? ⟨bs, 1, none⟩ = some (.pointer (some ⟨bq, 0, none⟩)) /\ wr.cell? ⟨bs, 2, none⟩ = some (.int .i64 (s : Nat)) /\ wr.cell? ⟨bs, 3, none⟩ = some (.int .i64 (c : Nat)) /\ ∀ i, wr.frozen? ⟨bs, i, none⟩ = false) := zB (fun wr s c v l h => by
  refine ⟨?_, ?_, ?_, ?_, fun i => frozen_of_row wr _ _ _ _ h.blk⟩ <;> rw [zC h.blk] <;> rfl)
 have HSP : Hid (∀ wr k v l, FeSt w wr bs bk bq (st k) (t.length + k) v l -> k < b.length -> ∀ q, Calls Tryz.prog 68 #[.int .i64 (st k : Nat), .int .u8 (b.getD k 0).toNat, .pointer (some ⟨bk, 0, none⟩)] (wr.drewN q) fun e w' => e = .returned (.int .i64 (st (k + 1) : Nat)) /\ Hid (FeSt w w' bs bk bq (st k) (t.length + k) v l)) := zB (fun wr k v l h hk q => by
  have hq : Below wr.heap.size wr (wr.drewN q) := below_drewN (Below.refl _ _) q
  have hF := h.on hq
  obtain ⟨k1, k2⟩ := zA HLW _ _ _ _ _ hF
  refine (stepf_any bk bp bq gm ps S par lst (wr.drewN q) hR k1 k2 (st k) (zA HSL k) (b.getD k 0)).mono ?_
  rintro e w' ⟨rfl, hb⟩
  exact ⟨by rw [zA HSN k hk], zB (hF.on hb)⟩)
 have HAP : Hid (∀ wr k v l, FeSt w wr bs bk bq (st (k + 1)) (t.length + k + 1) v l -> k < b.length -> l.length <= 64 * b.length -> ∀ q, Calls Tryz.prog 42 #[.pointer (some ⟨bq, 0, none⟩), v, .int .i64 (st (k + 1) : Nat), .int .i64 ((t.length + k + 1 : Nat) : Int)] (wr.drewN q) fun e w' => ∃ v', e = .returned v' /\ Hid (FeSt w w' bs bk bq (st (k + 1)) (t.length + k + 1) v' (l ++ (fullN ps S (st (k + 1))).map (fun p => (p, t.length + k + 1))))) := zB (fun wr k v l h hk hl q => by
  have hq : Below wr.heap.size wr (wr.drewN q) := below_drewN (Below.refl _ _) q
  have hF := h.on hq
  obtain ⟨⟨vC, vO, vX, vF, vP, vH, es, E, _, k2, k3, _⟩, _⟩ := zA HLW _ _ _ _ _ hF
  refine (append_any bq w.heap.size vP vH v es ps S par lst E (wr.drewN q) hR k3 (fun i hi => (hlen i hi).2) h64 k2 l hF.row hF.fr.size (st (k + 1)) (t.length + k + 1) (zA HSL _) (by omega) (by omega)).mono ?_
  rintro e w' ⟨v', rfl, H⟩
  exact ⟨v', rfl, zB (hF.ap lbs (zA H))⟩)
 have HST : Hid (FeSt w w bs bk bq (st 0) (t.length + 0) (.slice none 0 0) (zJ ps t (b.take 0))) := zB ⟨by rw [hst]; simpa using hblk, World.ownsRow_nil _ _ _ _, ⟨rfl, rfl, rfl, Nat.le_refl _, fun _ _ _ => rfl⟩⟩
 have HFL : Hid (∀ k, (zJ ps t (b.take k)).length <= 64 * b.length) := zB (fun k => Nat.le_trans (yB ps _ t) (Nat.mul_le_mul h64 (by simp; omega)))
 have HEND : Hid (∀ w' v, FeSt w w' bs bk bq (st b.length) (t.length + b.length) v (zJ ps t (b.take b.length)) -> FdOut w w' bs [bk] gm ps S t b v [bk]) := zB (fun w' v h => by
  rw [List.take_length] at h
  obtain ⟨k1, k2⟩ := zA HLW _ _ _ _ _ h
  refine ⟨h.row, ⟨bk, bp, bq, rfl, ?_, k2, k1, fun k hk => Nat.lt_of_lt_of_le (lgm k hk) h.fr.size, hngm, par, lst, hR⟩, fun k hk => Or.inl hk, fun k hk hm => ?_, h.fr.os, h.fr.tape, h.fr.output, h.fr.size, fun k hk h1 _ => h.fr.block k hk (fun e => h1 (by cases e; rfl))⟩
  ·have := h.blk
   rw [hst] at this
   simp only [List.take_length] at this
   rw [List.length_append]
   exact this
  ·obtain rfl : k = bk := by simpa using hm
   have := (h.row.lt k hk).1
   omega)
 have htt : t.length < 1000000000000000000 := htl
 clear hblk hbk hLk hR hngm hB hst hTK hlen
 go_enter Tryz.func26, Tryz.ntmps26
 go_wp2
 go_loopw [5, 10] (fun v5 v10 wr => ∃ k : Nat, v10 = .int .i64 k /\ k <= b.length /\ Hid (FeSt w wr bs bk bq (st k) (t.length + k) v5 (zJ ps t (b.take k)))) (fun _ v10 _ => b.length - (intOf v10).toNat)
 case atStart => exact ⟨0, rfl, Nat.zero_le _, HST⟩
 case round =>
  clear HST
  obtain ⟨k, rfl, hk, HF⟩ := hrel
  by_cases hlt : k < b.length
  ·obtain ⟨b0, o, rfl, d0⟩ := zA HBY _ _ _ _ _ k (zA HF) hlt
   obtain ⟨d1, d2, d3, d4, d5⟩ := zA HCS _ _ _ _ _ (zA HF)
   have HS1 := zB (zA HSP wr k u5 _ (zA HF) hlt)
   have HFS1 := zB (zA HFS k hlt)
   have hfl := zA HFL k
   generalize b.getD k 0 = x at *
   generalize hl0 : zJ ps t (b.take k) = L0 at *
   clear hl0
   have i1 : (k : Int) < (b.length : Int) := by omega
   have i0 : (0 : Int) <= (k : Int) := by omega
   have f2 := d5 2
   clear d5
   go_wp2_with fail
   go_cut [24] (fun v wx => v = .int .i64 (st (k + 1) : Nat) /\ Hid (FeSt w wx bs bk bq (st (k + 1)) (t.length + k) u5 L0))
   case first =>
    go_region_with (go_at_call 68; refine (zA HS1 1).mono ?_; rintro e w1 ⟨rfl, H1⟩; obtain ⟨y0, y1, y2, y3, y4⟩ := zA HCS _ _ _ _ _ (zA H1); have z2 := y4 2; clear y4)
    all_goals go_wp2_with fail
    all_goals go_meet
    all_goals exact ⟨rfl, zB ((zA H1).set lbs _ rfl)⟩
   case rest =>
    obtain ⟨rfl, HF2⟩ := hcut
    clear d0 d1 d2 d3 d4 f2 HF HS1
    obtain ⟨d1, d2, d3, d4, d5⟩ := zA HCS _ _ _ _ _ (zA HF2)
    have f3 := d5 3
    obtain ⟨tc, htc⟩ : ∃ tc, t.length + k = tc := ⟨_, rfl⟩
    have htc2 : tc < 2000000000000000000 := by omega
    have HF3 : Hid (FeSt w (wc.setCell ⟨bs, 3, none⟩ (.int .i64 ((tc : Int) + 1))) bs bk bq (st (k + 1)) (t.length + k + 1) u5 L0) := zB (by
     rw [htc]
     rw [htc] at HF2
     exact (zA HF2).set lbs _ rfl)
    have k8 : IntKind.i64.wrap ((tc : Int) + 1) = (tc : Int) + 1 := by rw [IntKind.wrap_i64]; omega
    have HAP3 := zB (zA HAP _ k u5 _ (zA HF3) hlt (by omega))
    rw [htc] at d4 HAP3
    have e9 : ((tc + 1 : Nat) : Int) = (tc : Int) + 1 := rfl
    rw [e9] at HAP3
    have HTC := zB htc
    clear d1 d5 htc HF2 e9
    go_wp2_with fail
    clear d2 d3 d4 f3
    obtain ⟨d1, d2, d3, d4, _⟩ := zA HCS _ _ _ _ _ (zA HF3)
    have HAP4 : Hid (∀ q, Calls Tryz.prog 42 #[.pointer (some ⟨bq, 0, none⟩), u5, .int .i64 (st (k + 1) : Nat), .int .i64 ((tc : Int) + 1)] ((wc.setCell ⟨bs, 3, none⟩ (.int .i64 ((tc : Int) + 1))).drewN q) fun e w' => ∃ v', e = .returned v' /\ Hid (FeSt w w' bs bk bq (st (k + 1)) (t.length + (k + 1)) v' (zJ ps t (b.take (k + 1)))) /\ w'.cell? ⟨bs, 1, none⟩ = some (.pointer (some ⟨bq, 0, none⟩)) /\ w'.cell? ⟨bs, 2, none⟩ = some (.int .i64 (st (k + 1) : Nat)) /\ w'.cell? ⟨bs, 3, none⟩ = some (.int .i64 ((tc : Int) + 1))) := zB (fun q => by
     refine (zA HAP3 q).mono ?_
     rintro e w' ⟨v', rfl, H⟩
     have e8 : tc + 1 = t.length + (k + 1) := by have := zA HTC; omega
     have e7 : t.length + k + 1 = t.length + (k + 1) := by omega
     have h1 := zA H
     rw [e8] at h1
     have h2 := zA HFS1
     rw [e7] at h2
     rw [← h2] at h1
     obtain ⟨_, x2, x3, x4, _⟩ := zA HCS _ _ _ _ _ h1
     rw [← e8] at x4
     exact ⟨v', rfl, zB h1, x2, x3, x4⟩)
    have d4' : (wc.setCell ⟨bs, 3, none⟩ (.int .i64 ((tc : Int) + 1))).cell? ⟨bs, 3, none⟩ = some (.int .i64 ((tc : Int) + 1)) := by
     have e8 : t.length + k + 1 = tc + 1 := by have := zA HTC; omega
     rw [e8] at d4; exact d4
    clear d1 d4 HF3 HAP3
    generalize wc.setCell ⟨bs, 3, none⟩ (.int .i64 ((tc : Int) + 1)) = w3 at *
    go_region_held3 (fun w' => w'.cell? ⟨bs, 1, none⟩ = some (.pointer (some ⟨bq, 0, none⟩)) /\ w'.cell? ⟨bs, 2, none⟩ = some (.int .i64 (st (k + 1) : Nat)) /\ w'.cell? ⟨bs, 3, none⟩ = some (.int .i64 ((tc : Int) + 1))) (go_keep)
     (first | (go_at_call 42; refine (zA HAP4 1).mono ?_; rintro e w4 ⟨v', rfl, H4, x2, x3, x4⟩))
    go_wp2_with fail
    go_roundw
    case rel => exact ⟨k + 1, by go_num, hlt, H4⟩
    case measure => simp [intOf]; omega
  ·obtain rfl : k = b.length := by omega
   have i1 : ¬ (b.length : Int) < (b.length : Int) := by omega
   go_wp2_with fail
   go_ret
   exact ⟨_, rfl, [bk], zA HEND _ _ (zA HF)⟩
end Go.Proofs.YtfpohfifdfbpkaaGreatDoor
