import Derived.Test.YtfpohfifdfbpkaaGreatDoorFlS
import Derived.Test.YtfpohfifdfbpkaaGreatDoorCompile
import Derived.Lib.SlBytesConst
namespace Go.Proofs.YtfpohfifdfbpkaaGreatDoor
open Go.RowKit Scour Go.Lib
def hd4 : Str := [83, 67, 82, 1]
def hdW (w : World) : World := (w.alloc (.cells #[.int .u8 83, .int .u8 67, .int .u8 82] 5 (3, 4))).alloc (.cells #[.int .u8 1] 5)
theorem hdW_size (w : World) : (hdW w).heap.size = w.heap.size + 2 := by simp [hdW]
theorem hdW_below (w : World) : Below w.heap.size w (hdW w) := ((Below.refl _ _).alloc (Nat.le_refl _) _).alloc (by simp) _
theorem hdW_a (w : World) : (hdW w).heap[w.heap.size]? = some (.cells #[.int .u8 83, .int .u8 67, .int .u8 82] 5 (3, 4)) := by
 unfold hdW
 rw [heap_alloc_old _ _ (r := w.heap.size) (by simp)]
 exact heap_alloc_new w _
theorem hdW_b (w : World) : (hdW w).heap[w.heap.size + 1]? = some (.cells #[.int .u8 1] 5) := by
 have := heap_alloc_new (w.alloc (.cells #[.int .u8 83, .int .u8 67, .int .u8 82] 5 (3, 4))) (.cells #[.int .u8 1] 5)
 rw [show (w.alloc (.cells #[.int .u8 83, .int .u8 67, .int .u8 82] 5 (3, 4))).heap.size = w.heap.size + 1 by simp] at this
 exact this
theorem hd_append (w : World) (ty : TypeId) : ∃ (cap : Nat) (w1 : World), (Builtin.append_ #[27, 27] ty #[.slice (some ⟨w.heap.size, 0, none⟩) 3 3, .slice (some ⟨w.heap.size + 1, 0, none⟩) 1 1]).run Tryz.prog (hdW w) = .ok (.slice (some ⟨w.heap.size + 2, 0, none⟩) 4 cap) w1 /\ w1.ownsRow w.heap.size 5 1 (.slice (some ⟨w.heap.size + 2, 0, none⟩) 4 cap) 4 (hd4.map zT) /\ Below w.heap.size w w1 := by
 obtain ⟨i0, hi, hz0, hz1, hz2⟩ := info_parts Tryz.infoB
 have hr := run_append_grow (P := Tryz.prog) (hdW w) 27 ty 5 i0 (.int .u8 0) Tryz.underlying27 hi hz0 ⟨w.heap.size, 0, none⟩ 3 3 [.int .u8 83, .int .u8 67, .int .u8 82] (by rw [hz1]; rfl) (fun j v hj => by
  have hj3 : j < 3 := (List.getElem?_eq_some_iff.1 hj).1
  rw [Addr.add_lit]
  have : j = 0 \/ j = 1 \/ j = 2 := by omega
  rcases this with rfl | rfl | rfl <;> (simp only [World.cell?, hdW_a]; simpa using hj)) ⟨w.heap.size + 1, 0, none⟩ 1 1 [.int .u8 1] (by rw [hz1]; rfl) (fun j v hj => by
  have hj3 : j < 1 := (List.getElem?_eq_some_iff.1 hj).1
  rw [Addr.add_lit]
  have : j = 0 := by omega
  subst this
  simp only [World.cell?, hdW_b]; simpa using hj) (by decide) (by decide) (growslice_fits (by decide) (by rw [hz2]; decide))
 rw [hdW_size] at hr
 refine ⟨_, _, hr, ⟨rfl, .inr ⟨w.heap.size + 2, _, (#[.int .u8 83, .int .u8 67, .int .u8 82] ++ #[.int .u8 1] ++ Builtin.zeroCells (Value.int .u8 0).cells (grownCap (hdW w) (3 + 1) 3 5 - (3 + 1))), rfl, by omega, ?_, grownCap_ge _ _ _ _, grownCap_le_maxLen _ _ _ _ (by decide), ?_, ?_⟩⟩, ?_⟩
 ·have := heap_alloc_new (hdW w).drew (.cells (#[.int .u8 83, .int .u8 67, .int .u8 82] ++ #[.int .u8 1] ++ Builtin.zeroCells (Value.int .u8 0).cells (grownCap (hdW w) (3 + 1) 3 5 - (3 + 1))) 5)
  rw [show (hdW w).drew.heap.size = w.heap.size + 2 from hdW_size w] at this
  exact this
 ·have := grownCap_ge (hdW w) (3 + 1) 3 5
  simp only [Array.size_append, List.size_toArray, size_zeroCells]
  simp only [Value.cells, List.length_cons, Array.size, List.length]
  omega
 ·simp only [Array.toList_append, List.append_assoc]
  rfl
 ·exact (hdW_below w).trans ((((Below.refl _ _).drew).alloc (by rw [show (hdW w).drew.heap.size = w.heap.size + 2 from hdW_size w]; omega) _))
theorem wpList_append_known {P : Program} {w : World} {ops : Array Oper} {rest : List Oper} {o : Oper} {a : Act} {Q : Exit -> Act -> World -> Prop} (hgd : o.guard = none) (s x : Operand) (t : TypeId)
  (ho : o.op = .call { callee := .builtin .append, args := #[s, x], argTypes := #[t, t] }) (v u : Value) (hs : a.eval s = v) (hx : a.eval x = u) {v' : Value} {w' : World}
  (hr : (Builtin.append_ #[t, t] o.type #[v, u]).run P w = .ok v' w') (h : wpList P ops Q rest (a.put o.dst v') w') : wpList P ops Q (o :: rest) a w := by
 refine wpList_plain hgd fun K hK => ?_
 unfold Oper.wp execOp
 simp only [ho, resolve, invoke, builtin, Sem.run_bind, Sem.run_pure, Result.andThen_ok, List.map_toArray, List.map_cons, List.map_nil, hs, hx, hr]
 exact hK _ _ h
theorem Wr.start {w W : World} {g' cap' : Nat}
  (ho : W.ownsRow w.heap.size 5 1 (.slice (some ⟨g', 0, none⟩) 4 cap') 4 (hd4.map zT)) (hb : Below w.heap.size w W) :
  Wr w.heap.size (W.alloc (.cells #[.slice (some ⟨g', 0, none⟩) 4 cap'] 113)) W.heap.size hd4 /\ Below w.heap.size w (W.alloc (.cells #[.slice (some ⟨g', 0, none⟩) 4 cap'] 113)) :=
 ⟨⟨⟨_, heap_alloc_new W _, ho.alloc _⟩, hb.size⟩, hb.alloc hb.size _⟩
theorem pats_nums {ps S : List Str} {E : Nat -> Int} (hS : zm ps S E) (hn : S.Pairwise slt) : ∀ k, k <= ps.length -> yR E k = jS ps S k
 | 0, _ => rfl
 | k + 1, h => by
   rw [yR, jS, pats_nums hS hn k (by omega)]
   obtain ⟨p, hp, e1, e2⟩ := hS.ends k (by omega)
   rw [e1, Int.toNat_natCast, ← e2]
   rw [idx_at hn hp]
theorem offs_nums (o : Nat -> Int) : ∀ k, yR o k = offsTo o k
 | 0 => rfl
 | k + 1 => by rw [yR, offsTo, offs_nums o k]
theorem nums_congr {o o' : Nat -> Int} : ∀ k, (∀ i, i < k -> o i = o' i) -> yR o k = yR o' k
 | 0, _ => rfl
 | k + 1, h => by rw [yR, yR, nums_congr k (fun i hi => h i (by omega)), h k (by omega)]
def pC (ps : List Str) : Str := zN (zL ps).length ++ zL ps
def pS (S : List Str) : Str := zN S.length ++ jQ S S.length
def pP (ps S : List Str) : Str := zN ps.length ++ jS ps S ps.length
def pO (ps S : List Str) : Str := offsTo (zI (zU S (zL ps)) S.length).o S.length
def pX (ps S : List Str) : Str := zN (zI (zU S (zL ps)) S.length).cl.length ++ zq (zI (zU S (zL ps)) S.length).cl (zI (zU S (zL ps)) S.length).cl.length
theorem body_pieces (ps S : List Str) : hd4 ++ pC ps ++ pS S ++ pP ps S ++ pO ps S ++ pX ps S = yS ps S := by
 unfold yS headS hd4 pC pS pP pO pX
 rw [yH (n := 1) (by omega)]
 simp only [List.append_assoc, List.cons_append, List.nil_append]
 rfl
structure Sizes (ps S : List Str) : Prop where
 c : (pC ps).length <= 1000
 s : (pS S).length <= 100000
 p : (pP ps S).length <= 1000
 o : (pO ps S).length <= 100000
 x : (pX ps S).length <= 50000000
 ok : POK (1000 * S.length) (zI (zU S (zL ps)) S.length)
theorem sizes {ps S : List Str} (hSl : S.length < 5000) (hps : ps.length <= 64) (hn : ∀ k b, zO S k b < 10000) : Sizes ps S := by
 have hcl := clsTo_len ps 256
 have hpk : POK (1000 * S.length) (zI (zU S (zL ps)) S.length) := packTo_ok (by omega) (fun s p hp => by
  have h := excTo_mem (S := S) (c := zL ps) (s := s) hn (zL ps).length p hp
  unfold zL at h
  omega) S.length
 have h2 := stsTo_len (S := S) (by omega) S.length
 have h3 := patsTo_len (ps := ps) (S := S) (by omega) ps.length
 have h4 := offsTo_len (o := (zI (zU S (zL ps)) S.length).o) (fun i => by have := hpk.o i; omega) S.length
 have h5 := celsTo_len hpk.cl _ (Nat.le_refl _)
 have h6 := hpk.len
 have h7 := zj ps.length (by omega)
 have h8 := zj (zI (zU S (zL ps)) S.length).cl.length (by omega)
 have h9 := zj (zL ps).length (by unfold zL; omega)
 have h0 := zj S.length (by omega)
 have hc2 : (zL ps).length <= 256 := hcl
 refine ⟨?_, ?_, ?_, ?_, ?_, hpk⟩
 ·unfold pC; rw [List.length_append]; omega
 ·unfold pS; rw [List.length_append]; omega
 ·unfold pP; rw [List.length_append]; omega
 ·unfold pO; omega
 ·unfold pX; rw [List.length_append]; omega
set_option maxHeartbeats 16000000 in
set_option maxRecDepth 100000 in
theorem fwrite_any (bt be g bp : Nat) (vC vO vX vF : Value) (ps S : List Str) (w : World) (hT : jC w bt be g ps S) (hTF : TabF w bp vC vO vX vF ps S) (hn : ∀ k b, zO S k b < S.length) (h64 : ps.length <= 64) :
  Calls Tryz.prog 34 #[.pointer (some ⟨bt, 0, none⟩), .pointer (some ⟨bp, 0, none⟩)] w fun e w' => ∃ b c, e = .returned (.slice (some ⟨b, 0, none⟩) (zS ps S).length c) /\ w'.ownsRow w.heap.size 5 1 (.slice (some ⟨b, 0, none⟩) (zS ps S).length c) (zS ps S).length ((zS ps S).map zT) /\ Below w.heap.size w w' := by
 obtain ⟨i0, hi, hz0, hz1, hz2⟩ := info_parts Tryz.infoB
 have hSl := hT.len
 have hsz := sizes (ps := ps) hSl.2 h64 (fun k b => by have := hn k b; omega)
 have hcl : (zL ps).length <= 256 := clsTo_len ps 256
 have hsort : S.Pairwise slt := by
  obtain ⟨_, _, _, _, hh, _⟩ := hT.ex
  exact hh.rep.sorted
 have hblt : ∀ (v : Value) (b e s n : Nat) (xs : List Value), w.ownsRow 0 e s v n xs -> v.ownBlock = some b -> b < w.heap.size := fun v b e s n xs h1 h2 => by
  obtain ⟨cu, hcu⟩ := zD h1 h2
  exact (Array.getElem?_eq_some_iff.1 hcu).1
 have hTb := hTF.tab
 have hple := padC_len (zI (zU S (zL ps)) S.length).cl (topN ps S)
 have hokl := hsz.ok.len
 obtain ⟨gX, cX, hvX, hXc, hXr⟩ : ∃ gX cX, vX = .slice (some ⟨gX, 0, none⟩) (padC (zI (zU S (zL ps)) S.length).cl (topN ps S)).length cX /\ (padC (zI (zU S (zL ps)) S.length).cl (topN ps S)).length <= cX /\ w.ownsRow 0 147 2 (.slice (some ⟨gX, 0, none⟩) (zI (zU S (zL ps)) S.length).cl.length cX) (zI (zU S (zL ps)) S.length).cl.length (zv (zI (zU S (zL ps)) S.length).cl) := by
  have hx := hTb.cel
  have e : zv (padC (zI (zU S (zL ps)) S.length).cl (topN ps S)) = zv (zI (zU S (zL ps)) S.length).cl ++ zv (List.replicate (topN ps S + 1 - (zI (zU S (zL ps)) S.length).cl.length) (-1, 0)) := by unfold padC; exact cellsV_append _ _
  rcases hx.2 with ⟨_, hn⟩ | ⟨gX, cX, cur, rfl, h1, h2, h3, h4, h5, h6⟩
  ·omega
  ·refine ⟨gX, cX, rfl, h3, cellsV_len _, Or.inr ⟨gX, cX, cur, rfl, h1, h2, by omega, h4, h5, ?_⟩⟩
   have h7 := congrArg (List.take ((zI (zU S (zL ps)) S.length).cl.length * 2)) h6
   rw [List.take_take, Nat.min_eq_left (by omega), e, List.take_left' (cellsV_len _)] at h7
   exact h7
 subst hvX
 have HTB : Hid (∀ W, Below w.heap.size w W -> W.cell? ⟨bp, 0, none⟩ = some vC /\ W.cell? ⟨bp, 1, none⟩ = some vO /\ W.cell? ⟨bp, 2, none⟩ = some (.slice (some ⟨gX, 0, none⟩) (padC (zI (zU S (zL ps)) S.length).cl (topN ps S)).length cX) /\ W.cell? ⟨bp, 3, none⟩ = some (.int .i64 (zI (zU S (zL ps)) S.length).cl.length)) := zB fun W hb => by
  have hblk := (hTb.below hb).blk
  refine ⟨?_, ?_, ?_, ?_⟩ <;> rw [zC hblk] <;> rfl
 have HCW : Hid (∀ W bw, Wr w.heap.size W bw hd4 -> Below w.heap.size w W -> Calls Tryz.prog 54 #[.pointer (some ⟨bw, 0, none⟩), vC] W (yt w.heap.size W bw hd4 (pC ps))) := zB fun W bw h hb =>
  wclasses_any _ bw hd4 (zL ps) vC W h hb.size (hTb.below hb).cls (fun b hv => hblt _ _ _ _ _ _ hTb.cls hv) hcl (by decide)
 have HSW : Hid (∀ W bw xs, Wr w.heap.size W bw xs -> Below w.heap.size w W -> xs.length < 90000000 -> Calls Tryz.prog 55 #[.pointer (some ⟨bw, 0, none⟩), .pointer (some ⟨bt, 0, none⟩)] W (yt w.heap.size W bw xs (pS S))) := zB fun W bw xs h hb hx =>
  wstates_any _ bw xs bt be g ps S W h hb.size (hT.below hb) (by omega)
 have HEN : Hid (∀ W, Below w.heap.size w W -> Calls Tryz.prog 57 #[.pointer (some ⟨bt, 0, none⟩)] W fun e w' => ∃ v E, e = .returned v /\ Hid (zm ps S E) /\ Hid (w'.ownsRow W.heap.size 3 1 v ps.length (zZ E ps.length)) /\ Hid (Below W.heap.size W w')) := zB fun W hb => tends_any bt be g ps S W (hT.below hb) (by omega)
 have HPW : Hid (∀ W bw xs v E b, Wr w.heap.size W bw xs -> w.heap.size <= W.heap.size -> zm ps S E -> W.ownsRow b 3 1 v ps.length (zZ E ps.length) -> xs.length < 90000000 -> Calls Tryz.prog 56 #[.pointer (some ⟨bw, 0, none⟩), v] W (yt w.heap.size W bw xs (pP ps S))) := zB fun W bw xs v E b h hb hE hr hx => by
  have e1 : zZ E ps.length = zZ (fun i => if i < ps.length then E i else 0) ps.length := intsF_congr (fun i hi => by rw [if_pos hi])
  have e2 : jS ps S ps.length = yR (fun i => if i < ps.length then E i else 0) ps.length := by
   rw [← pats_nums hE hsort _ (Nat.le_refl _)]
   exact nums_congr _ (fun i hi => by rw [if_pos hi])
  unfold pP
  rw [e2]
  rw [e1] at hr
  exact wpatterns_any _ bw xs ps.length _ v W h hb (zu hr) (fun i => by
   split
   ·rename_i hi
    obtain ⟨p, hp, e, _⟩ := hE.ends i hi
    omega
   ·omega) (by omega) (by omega)
 have HOW : Hid (∀ W bw xs, Wr w.heap.size W bw xs -> Below w.heap.size w W -> xs.length < 90000000 -> Calls Tryz.prog 58 #[.pointer (some ⟨bw, 0, none⟩), vO] W (yt w.heap.size W bw xs (pO ps S))) := zB fun W bw xs h hb hx => by
  unfold pO
  rw [← offs_nums]
  exact woffsets_any _ bw xs S.length _ vO W h hb.size (hTb.below hb).off (fun i => by have := hsz.ok.o i; omega) (by omega) (by omega)
 have HXW : Hid (∀ W bw xs, Wr w.heap.size W bw xs -> Below w.heap.size w W -> xs.length < 90000000 -> Calls Tryz.prog 59 #[.pointer (some ⟨bw, 0, none⟩), .slice (some ⟨gX, 0, none⟩) (zI (zU S (zL ps)) S.length).cl.length cX] W (yt w.heap.size W bw xs (pX ps S))) := zB fun W bw xs h hb hx => by
  unfold pX
  refine wcells_any _ bw xs _ _ W h hb.size (zE hXr (fun b hl _ => hb.block b hl)) (fun q hq => ?_) (by have := hsz.ok.len; omega) (by omega)
  have h1 := hsz.ok.cl q hq
  have h2 := packTo_st (excL_zero S (zL ps)) S.length q hq
  exact ⟨by omega, h1.2.1, h1.2.2.1, h1.2.2.2⟩
 have HFS : Hid (hd4 ++ pC ps ++ pS S ++ pP ps S ++ pO ps S ++ pX ps S ++ yK (hd4 ++ pC ps ++ pS S ++ pP ps S ++ pO ps S ++ pX ps S) = zS ps S) := zB (by rw [body_pieces]; rfl)
 obtain ⟨l1, l2, l3, l4, l5, _⟩ := hsz
 clear hT hTb hTF hn hblt hsort hSl h64 hcl hXr
 generalize (padC (zI (zU S (zL ps)) S.length).cl (topN ps S)).length = nX at *
 generalize (zI (zU S (zL ps)) S.length).cl.length = mX at *
 generalize pC ps = x1 at *
 generalize pS S = x2 at *
 generalize pP ps S = x3 at *
 generalize pO ps S = x4 at *
 generalize pX ps S = x5 at *
 generalize zS ps S = F at *
 obtain ⟨z1, hz1'⟩ : ∃ z, z = hd4 ++ x1 := ⟨_, rfl⟩
 obtain ⟨z2, hz2'⟩ : ∃ z, z = z1 ++ x2 := ⟨_, rfl⟩
 obtain ⟨z3, hz3'⟩ : ∃ z, z = z2 ++ x3 := ⟨_, rfl⟩
 obtain ⟨z4, hz4'⟩ : ∃ z, z = z3 ++ x4 := ⟨_, rfl⟩
 obtain ⟨z5, hz5'⟩ : ∃ z, z = z4 ++ x5 := ⟨_, rfl⟩
 have hl1 : z1.length <= 2000 := by rw [hz1', List.length_append]; have : hd4.length = 4 := rfl; omega
 have hl2 : z2.length <= 200000 := by rw [hz2', List.length_append]; omega
 have hl3 : z3.length <= 300000 := by rw [hz3', List.length_append]; omega
 have hl4 : z4.length <= 500000 := by rw [hz4', List.length_append]; omega
 have hl5 : z5.length <= 60000000 := by rw [hz5', List.length_append]; omega
 have HF : Hid (z5 ++ yK z5 = F) := zB (by rw [hz5', hz4', hz3', hz2', hz1']; exact zA HFS)
 have HZ1 := zB hz1'
 have HZ2 := zB hz2'
 have HZ3 := zB hz3'
 have HZ4 := zB hz4'
 have HZ5 := zB hz5'
 clear hz1' hz2' hz3' hz4' hz5' l1 l2 l3 l4 l5 HFS
 go_enter Tryz.func34, Tryz.ntmps34
 have hcv := fun (w : World) (C : Array Value) (n c : Nat) => Lib.run_convert_bytes_const (P := Tryz.prog) w 27 5 C n c Tryz.underlying27 Tryz.underlying5
 obtain ⟨cap', w1, hap, hown', hb1⟩ := hd_append w 27
 obtain ⟨s1, s2⟩ := Wr.start hown' hb1
 have HS1 := zB s1
 have HS2 := zB s2
 obtain ⟨ta, tb, tc, td⟩ := zA HTB _ s2
 have HAP := zB hap
 clear hap hown' hb1 s1 s2 tb tc td
 go_wp2_with (first
  | (at_builtin; refine wpList_append_known rfl (.tmp 7) (.tmp 8) 27 rfl _ _ rfl rfl (zA HAP) ?_; clear HAP)
  | (go_at_call 54; refine (zA HCW _ _ (zA HS1) (zA HS2)).mono ?_; rintro e w2 ⟨rfl, H2, B2, K2⟩; rw [← zA HZ1] at H2; have HB2 := zB ((zA HS2).trans (zA B2)); clear B2 K2)
  | (go_at_call 55; refine (zA HSW _ _ _ (zA H2) (zA HB2) (by omega)).mono ?_; rintro e w3 ⟨rfl, H3, B3, K3⟩; rw [← zA HZ2] at H3; have HB3 := zB ((zA HB2).trans (zA B3)); clear B3 K3)
  | (go_at_call 57; refine (zA HEN _ (zA HB3)).mono ?_; rintro e w4 ⟨vE, E, rfl, HE, HR4, B4⟩; have H4 := zB ((zA H3).below (zA B4)); have HB4 := zB ((zA HB3).trans ((zA B4).mono (zA HB3).size)))
  | (go_at_call 56; refine (zA HPW _ _ _ vE E _ (zA H4) (zA HB4).size (zA HE) (zA HR4) (by omega)).mono ?_; rintro e w5 ⟨rfl, H5, B5, K5⟩; rw [← zA HZ3] at H5; have HB5 := zB ((zA HB4).trans (zA B5)); obtain ⟨ua, ub, uc, ud⟩ := zA HTB _ (zA HB5); clear B5 K5 ua uc ud)
  | (go_at_call 58; refine (zA HOW _ _ _ (zA H5) (zA HB5) (by omega)).mono ?_; rintro e w6 ⟨rfl, H6, B6, K6⟩; rw [← zA HZ4] at H6; have HB6 := zB ((zA HB5).trans (zA B6)); obtain ⟨xa, xb, xc, xd⟩ := zA HTB _ (zA HB6); clear B6 K6 xa xb))
 have hm8 : (mX : Int) <= (cX : Int) := by omega
 have hm9 : (0 : Int) <= (mX : Int) := by omega
 have HXW6 : Hid (∀ q, Calls Tryz.prog 59 #[.pointer (some ⟨w1.heap.size, 0, none⟩), .slice (some ⟨gX, 0, none⟩) mX cX] (w6.drewN q) fun e w' => e = .returned (.tuple #[]) /\ Hid (Wr w.heap.size w' w1.heap.size z5) /\ Hid (Below w.heap.size w w') /\ w'.cell? ⟨bp, 2, none⟩ = some (.slice (some ⟨gX, 0, none⟩) nX cX) /\ w'.cell? ⟨bp, 3, none⟩ = some (.int .i64 mX)) := zB (fun q => by
  have hq : Below w6.heap.size w6 (w6.drewN q) := below_drewN (Below.refl _ _) q
  have hb6 := (zA HB6).trans (hq.mono (zA HB6).size)
  refine (zA HXW (w6.drewN q) _ _ ((zA H6).below hq) hb6 (by omega)).mono ?_
  rintro e w7 ⟨rfl, H7, B7, K7⟩
  rw [← zA HZ5] at H7
  have hb7 := hb6.trans (zA B7)
  obtain ⟨_, _, xc', xd'⟩ := zA HTB _ hb7
  exact ⟨rfl, H7, zB hb7, xc', xd'⟩)
 go_region_held3 (fun w' => w'.cell? ⟨bp, 2, none⟩ = some (.slice (some ⟨gX, 0, none⟩) nX cX) /\ w'.cell? ⟨bp, 3, none⟩ = some (.int .i64 mX)) (go_keep)
  (first | (go_at_call 59; refine (zA HXW6 1).mono ?_; rintro e w7 ⟨rfl, H7, HB7, y2, y3⟩))
 clear xc xd y2 y3 hm8 hm9
 obtain ⟨v7, q1, q2⟩ := (zA H7).ex
 have hz5 : 0 < z5.length := by rw [zA HZ5, zA HZ4, zA HZ3, zA HZ2, zA HZ1]; simp [hd4]
 obtain ⟨g7, cp7, rfl⟩ := owns_some q2 hz5
 have hlw : w1.heap.size < w7.heap.size := (Array.getElem?_eq_some_iff.1 q1).1
 have c70 : w7.cell? ⟨w1.heap.size, 0, none⟩ = some (.slice (some ⟨g7, 0, none⟩) z5.length cp7) := cell_of_one q1
 have hs7 := (zA HB7).size
 have HSE : Hid (∀ q, Calls Tryz.prog 60 #[.slice (some ⟨g7, 0, none⟩) z5.length cp7] (w7.drewN q) fun e w' => e = .returned (.slice (some ⟨w7.heap.size, 0, none⟩) 4 4) /\ Hid (Below w7.heap.size w7 w') /\ w'.cell? ⟨w1.heap.size, 0, none⟩ = some (.slice (some ⟨g7, 0, none⟩) z5.length cp7) /\ Hid (w'.ownsRow w.heap.size 5 1 (.slice (some ⟨g7, 0, none⟩) z5.length cp7) z5.length (z5.map zT)) /\ Hid (∀ j u, ((yK z5).map zT)[j]? = some u -> w'.cell? ((⟨w7.heap.size, 0, none⟩ : Addr).add j) = some u) /\ w7.heap.size <= w'.heap.size) := zB fun q => by
  have hq : Below w7.heap.size w7 (w7.drewN q) := below_drewN (Below.refl _ _) q
  have hq2 : (w7.drewN q).ownsRow w.heap.size 5 1 (.slice (some ⟨g7, 0, none⟩) z5.length cp7) z5.length (z5.map zT) := zE q2 (fun k hk _ => hq.block k hk)
  obtain ⟨ao, c, e, hin⟩ := owns_bytes hq2
  cases e
  refine (fseal_any (some ⟨g7, 0, none⟩) cp7 z5 (w7.drewN q) hin (by omega)).mono ?_
  rintro e w' ⟨rfl, hO, hB⟩
  have hB' : Below w7.heap.size w7 w' := hq.trans hB
  refine ⟨rfl, zB hB', (hB'.cell (p := ⟨w1.heap.size, 0, none⟩) hlw).trans c70, zB (zE q2 (fun k hk _ => hB'.block k hk)), zB (fun j u hu => ?_), hB'.size⟩
  have hj : j < 4 := by
   have := (List.getElem?_eq_some_iff.1 hu).1
   rw [List.length_map, sumS_len] at this; exact this
  have h1 := hO.cellAt j (by omega)
  rw [hu] at h1
  have e3 : (⟨w7.heap.size, 0, none⟩ : Addr).add j = ⟨w7.heap.size, j, none⟩ := by rw [Addr.add_lit]; simp
  rw [e3]; exact h1
 have HAF : Hid (∀ (w8 w9 : World) (g8 cap8 : Nat), Below w7.heap.size w7 w8 -> w8.ownsRow w.heap.size 5 1 (.slice (some ⟨g7, 0, none⟩) z5.length cp7) z5.length (z5.map zT) -> w9.ownsRow w.heap.size 5 1 (.slice (some ⟨g8, 0, none⟩) (z5.length + 4) cap8) (z5.length + 4) (z5.map zT ++ (yK z5).map zT) -> w8.grownBy w9 (some g7) -> w9.ownsRow w.heap.size 5 1 (.slice (some ⟨g8, 0, none⟩) F.length cap8) F.length (F.map zT) /\ Below w.heap.size w w9 /\ F.length = z5.length + 4) := zB fun w8 w9 g8 cap8 h1 h2 h3 h4 => by
  have hFl : F.length = z5.length + 4 := by rw [← zA HF, List.length_append, sumS_len]
  refine ⟨by rw [hFl, ← zA HF, List.map_append]; exact h3, ((zA HB7).trans (h1.mono hs7)).trans (zG h4 (Nat.le_trans hs7 h1.size) (yN h2)), hFl⟩
 have hsl : ((yK z5).map zT).length = 4 := by rw [List.length_map, sumS_len]
 have HON := zB (one_cells (yK z5))
 clear q1 q2
 generalize (yK z5).map zT = sm at *
 go_wp2_with fail
 go_region_law (first
  | (refine step_append_lies _ rfl (.tmp 45) (.tmp 50) 27 rfl w.heap.size 5 i0 _ 1 1 Tryz.underlying27 hi hz0 hz1 hz2 rfl (by decide) _ z5.length (z5.map zT) (by simp [Act.eval]) (zA O8) ⟨w7.heap.size, 0, none⟩ 4 4 sm (by simp [Act.eval]) (by rw [hsl]) (zA N8) (zA HON) (by omega) (by unfold maxLen; omega) (by omega) (Nat.le_trans hs7 hs8) _ rfl ?_; intro g8 cap8 w9 hown' hgrow hat hlt'; obtain ⟨k1, k2, k3⟩ := zA HAF w8 w9 g8 cap8 (zA B8) (zA O8) hown' hgrow; have HK1 := zB k1; have HK2 := zB k2; have HK3 := zB k3; clear hown' hgrow hat hlt' k1 k2 k3)
  | (go_simp; go_at_call 60; refine (zA HSE 1).mono ?_; rintro e w8 ⟨rfl, B8, z8, O8, N8, hs8⟩))
 all_goals go_wp2_with fail
 all_goals go_ret
 all_goals exact ⟨g8, cap8, by rw [zA HK3]; rfl, zA HK1, zA HK2⟩
end Go.Proofs.YtfpohfifdfbpkaaGreatDoor
namespace Go.Proofs.YtfpohfifdfbpkaaGreatDoor
open Go.RowKit Scour Go.Lib
set_option maxHeartbeats 4000000 in
set_option maxRecDepth 100000 in
theorem save_ok : SaveOK := by
 intro W bm bt be g ps S hM hc
 obtain ⟨h64, _, _⟩ := yr hc
 obtain ⟨g0, _, hT⟩ := hM.tr
 obtain ⟨bp, bq, hb, vC, vO, vX, vF, vP, vH, es, E2, hTb, _⟩ := hM.tb
 have hn := hM.next_lt
 have c0 : W.cell? ⟨bm, 0, none⟩ = some (.pointer (some ⟨bt, 0, none⟩)) := by rw [zC hb]; rfl
 have c1 : W.cell? ⟨bm, 1, none⟩ = some (.pointer (some ⟨bp, 0, none⟩)) := by rw [zC hb]; rfl
 have hlm : bm < W.heap.size := (Array.getElem?_eq_some_iff.1 hb).1
 have HW : Hid (∀ q, Calls Tryz.prog 34 #[.pointer (some ⟨bt, 0, none⟩), .pointer (some ⟨bp, 0, none⟩)] (W.drewN q) fun e w' => ∃ b c, e = .returned (.slice (some ⟨b, 0, none⟩) (zS ps S).length c) /\ w'.ownsRow W.heap.size 5 1 (.slice (some ⟨b, 0, none⟩) (zS ps S).length c) (zS ps S).length ((zS ps S).map zT) /\ Below W.heap.size W w' /\ w'.cell? ⟨bm, 0, none⟩ = some (.pointer (some ⟨bt, 0, none⟩)) /\ w'.cell? ⟨bm, 1, none⟩ = some (.pointer (some ⟨bp, 0, none⟩))) := zB fun q => by
  have hbq : Below W.heap.size W (W.drewN q) := below_drewN (Below.refl _ _) q
  refine (fwrite_any bt be g0 bp vC vO vX vF ps S (W.drewN q) (hT.below hbq) (hTb.same (fun k hk _ => hbq.block k hk)) hn h64).mono ?_
  rintro e w' ⟨b, c, rfl, h1, h2⟩
  have h3 := hbq.trans h2
  exact ⟨b, c, rfl, h1, h3, (h3.cell (p := ⟨bm, 0, none⟩) hlm).trans c0, (h3.cell (p := ⟨bm, 1, none⟩) hlm).trans c1⟩
 clear hM hT hTb hb hn
 generalize zS ps S = F at *
 go_enter Tryz.func15, Tryz.ntmps15
 go_wp2_with fail
 go_region_held3 (fun w' => w'.cell? ⟨bm, 0, none⟩ = some (.pointer (some ⟨bt, 0, none⟩)) /\ w'.cell? ⟨bm, 1, none⟩ = some (.pointer (some ⟨bp, 0, none⟩))) (go_keep)
  (first | (go_at_call 34; refine (zA HW 1).mono ?_; rintro e w' ⟨b, c, rfl, h1, h2, y0, y1⟩; have HO := zB h1; have HB := zB h2; clear h1 h2))
 go_wp2_with fail
 go_ret
 exact ⟨b, c, rfl, zA HO, zA HB⟩
end Go.Proofs.YtfpohfifdfbpkaaGreatDoor
