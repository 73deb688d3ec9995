import Derived.Test.YtfpohfifdfbpkaaGreatDoorLend
import Derived.ArgAppend
namespace Go.Proofs.YtfpohfifdfbpkaaGreatDoor
open Go.RowKit Scour Go.Lib
structure Sl where
 ao : Option Addr
 n : Nat
 c : Nat
def Sl.val (s : Sl) : Value := .slice s.ao s.n s.c
structure yu (w : World) (e : TypeId) (x : Value) (P : Nat -> Prop) (s : Sl) : Prop where
 row : w.ownsRow 0 e 1 s.val s.n (List.replicate s.n x)
 own : ∀ b, s.val.ownBlock = some b -> P b
structure zk (e : TypeId) (x : Value) (P : Nat -> Prop) (w w' : World) : Prop where
 os : w'.os = w.os
 tape : w'.tape = w.tape
 output : w'.output = w.output
 size : w.heap.size <= w'.heap.size
 out : ∀ k, k < w.heap.size -> ¬ P k -> w'.heap[k]? = w.heap[k]?
 ins : ∀ (k : Nat) (cur : Array Value), P k -> w.heap[k]? = some (.cells cur e (0, 0)) -> ∃ cur', w'.heap[k]? = some (.cells cur' e (0, 0)) /\ cur'.size = cur.size /\ ∀ j : Nat, cur'[j]? = cur[j]? \/ (j < cur.size /\ cur'[j]? = some x)
theorem zk.refl (e : TypeId) (x : Value) (P : Nat -> Prop) (w : World) : zk e x P w w :=
 ⟨rfl, rfl, rfl, Nat.le_refl _, fun _ _ _ => rfl, fun _ cur _ h => ⟨cur, h, rfl, fun _ => Or.inl rfl⟩⟩
theorem zk.trans {e : TypeId} {x : Value} {P : Nat -> Prop} {w a b : World} (h : zk e x P w a) (k : zk e x P a b) : zk e x P w b := by
 refine ⟨k.os.trans h.os, k.tape.trans h.tape, k.output.trans h.output, Nat.le_trans h.size k.size, fun i hi hp => (k.out i (Nat.lt_of_lt_of_le hi h.size) hp).trans (h.out i hi hp), fun i cur hp hc => ?_⟩
 obtain ⟨c1, h1, h2, h3⟩ := h.ins i cur hp hc
 obtain ⟨c2, k1, k2, k3⟩ := k.ins i c1 hp h1
 refine ⟨c2, k1, k2.trans h2, fun j => ?_⟩
 rcases k3 j with g | ⟨g1, g2⟩
 ·rcases h3 j with f | f
  ·exact Or.inl (g.trans f)
  ·exact Or.inr ⟨f.1, g.trans f.2⟩
 ·exact Or.inr ⟨by omega, g2⟩
theorem mstep_of_grown {e : TypeId} {x : Value} {P : Nat -> Prop} {w w' : World} (h : w.grownBy w' none) : zk e x P w w' :=
 ⟨h.os, h.tape, h.output, h.size, fun k hk _ => h.block k hk (by simp), fun k cur _ hc => ⟨cur, (h.block k (Array.getElem?_eq_some_iff.1 hc).1 (by simp)).trans hc, rfl, fun _ => Or.inl rfl⟩⟩
theorem zk.alloc {e : TypeId} {x : Value} {P : Nat -> Prop} {w a : World} (h : zk e x P w a) (o : Obj) : zk e x P w (a.alloc o) := h.trans (mstep_of_grown (World.grownBy_alloc a o none))
theorem mstep_setCell {e : TypeId} {x : Value} {P : Nat -> Prop} (w : World) (g k : Nat) (cur : Array Value) (hb : w.heap[g]? = some (.cells cur e (0, 0))) (hp : P g) : zk e x P w (w.setCell ⟨g, k, none⟩ x) := by
 refine ⟨rfl, rfl, rfl, by simp [World.setCell], fun i hi hn => Below.heap_setCell w _ _ i (fun e => hn (by rw [e]; exact hp)), fun i c hpi hc => ?_⟩
 by_cases hig : i = g
 ·subst hig
  rw [hb] at hc
  obtain rfl : cur = c := by simpa using hc
  refine ⟨cur.setIfInBounds k x, heap_setCell_same w _ _ _ _ _ hb, by simp, fun j => ?_⟩
  rw [Array.getElem?_setIfInBounds]
  by_cases hj : k = j
  ·subst hj
   by_cases hl : k < cur.size
   ·right; simp [hl]
   ·left; simp [hl]
  ·left; rw [if_neg hj]
 ·exact ⟨c, (Below.heap_setCell w _ _ i hig).trans hc, rfl, fun _ => Or.inl rfl⟩
theorem yu.step {w w' : World} {e : TypeId} {x : Value} {P : Nat -> Prop} {s : Sl} (h : yu w e x P s) (k : zk e x P w w') : yu w' e x P s := by
 refine ⟨⟨h.row.1, ?_⟩, h.own⟩
 rcases h.row.2 with g | ⟨g, cap, cur, hv, h2, h3, h4, h5, h6, h7⟩
 ·exact Or.inl g
 ·obtain ⟨cur', k1, k2, k3⟩ := k.ins g cur (h.own g (by rw [hv]; rfl)) h3
  refine Or.inr ⟨g, cap, cur', hv, h2, k1, h4, h5, k2.trans h6, ?_⟩
  have hl : (cur'.toList.take (s.n * 1)).length = s.n := by rw [List.length_take, Array.length_toList, k2, h6]; omega
  apply List.ext_getElem?
  intro j
  by_cases hj : j < s.n
  ·have hc : cur[j]? = some x := by
    have := congrArg (fun l => l[j]?) h7
    simp only [List.getElem?_take, Nat.mul_one, if_pos hj, Array.getElem?_toList, List.getElem?_replicate] at this
    exact this
   rw [List.getElem?_take, if_pos (by omega), Array.getElem?_toList, List.getElem?_replicate, if_pos hj]
   rcases k3 j with g | g
   ·rw [g]; exact hc
   ·exact g.2
  ·rw [List.getElem?_eq_none (by rw [hl]; omega), List.getElem?_eq_none (by simp; omega)]
theorem yu.same {w w' : World} {e : TypeId} {x : Value} {P : Nat -> Prop} {s : Sl} (h : yu w e x P s) (k : ∀ b, b < w.heap.size -> P b -> w'.heap[b]? = w.heap[b]?) : yu w' e x P s := by
 refine ⟨⟨h.row.1, ?_⟩, h.own⟩
 rcases h.row.2 with g | ⟨g, cap, cur, hv, h2, h3, h4⟩
 ·exact Or.inl g
 ·exact Or.inr ⟨g, cap, cur, hv, h2, (k g (Array.getElem?_eq_some_iff.1 h3).1 (h.own g (by rw [hv]; rfl))).trans h3, h4⟩
theorem yu.weaken {w : World} {e : TypeId} {x : Value} {P Q : Nat -> Prop} {s : Sl} (h : yu w e x P s) (k : ∀ b, s.val.ownBlock = some b -> P b -> Q b) : yu w e x Q s := ⟨h.row, fun b hb => k b hb (h.own b hb)⟩
theorem rep_add {x : Value} (n m : Nat) : List.replicate n x ++ List.replicate m x = List.replicate (n + m) x := List.replicate_append_replicate
theorem run_append_marks {P' : Program} (w : World) (t ty e : TypeId) (i : TypeInfo) (z : Value) (bytes : Nat) (ht : P'.underlying t = some (.slice e)) (hi : P'.info? e = some i) (hz : i.zero = some z)
  (hsize : i.size = 1) (hby : i.bytes = bytes) (hzs : z.cells.size = 1) (x : Value) (hx1 : x.oneCell' = true) (P : Nat -> Prop) (s : Sl) (hm : yu w e x P s) (hP : ∀ k, w.heap.size <= k -> P k)
  (ad : Addr) (m c : Nat) (hnews : ∀ j u, (List.replicate m x)[j]? = some u -> w.cell? (ad.add j) = some u) (hm0 : 0 < m) (h63 : s.n + m <= maxLen) (hbytes : (s.n + m) * bytes <= 140737488355328) :
  ∃ ao c' w', (Builtin.append_ #[t, t] ty #[s.val, .slice (some ad) m c]).run P' w = .ok (.slice ao (s.n + m) c') w' /\ yu w' e x P ⟨ao, s.n + m, c'⟩ /\ zk e x P w w' := by
 have h1 : ∀ u ∈ List.replicate m x, u.oneCell' = true := fun u hu => by rw [List.eq_of_mem_replicate hu]; exact hx1
 obtain ⟨g, cap, w', hr, ho, hg, hat, hlt⟩ := run_append_lies (P := P') w t ty 0 e i z 1 bytes ht hi hz hsize hby hzs (by decide) s.val s.n (List.replicate s.n x) hm.row ad m c (List.replicate m x) (by simp) hnews h1 hm0 h63 hbytes (Nat.zero_le _) w.heap.size rfl
 rw [rep_add] at ho
 have hown : P g := by
  rcases hat with e1 | e1
  ·exact hm.own g e1
  ·exact hP g (by omega)
 refine ⟨some ⟨g, 0, none⟩, cap, w', hr, ⟨ho, ?_⟩, ?_⟩
 ·intro b hb
  have e1 : g = b := by simpa [Sl.val, Value.ownBlock] using hb
  rw [← e1]; exact hown
 rcases hm.row.2 with ⟨hv, _⟩ | ⟨b, cp, cur, hv, _, hb, hnc, hcm, hcs, htk⟩
 ·rw [hv] at hg
  exact mstep_of_grown hg
 ·have hpb : P b := hm.own b (by rw [hv]; rfl)
  rw [hv] at hr hg
  by_cases hroom : s.n + m <= cp
  ·have hcell : ∀ j, w.cell? ⟨b, j, none⟩ = cur[j]? := fun j => zC hb j
   have hr2 := run_append_room_cells (P := P') w t ty e i ht hi b 0 s.n cp ad m c (List.replicate m x) (by simp [hsize]) hnews h1 hroom (fun j hj => by
    rw [hcell, hsize, Array.getElem?_eq_getElem (by simp at hj; omega)]; rfl) (fun j hj => frozen_of_row w _ _ _ _ hb)
   rw [hr2] at hr
   simp only [Result.ok.injEq, Value.slice.injEq, Option.some.injEq, Addr.mk.injEq, and_true, true_and] at hr
   obtain ⟨⟨rfl, rfl⟩, hw'⟩ := hr
   obtain ⟨_, ⟨hv2, _⟩ | ⟨g2, cp2, cur2, hv2, _, hb2, hnc2, _, hcs2, _⟩⟩ := ho
   ·cases hv2
   ·simp only [Value.slice.injEq, Option.some.injEq, Addr.mk.injEq, and_true, true_and] at hv2
    obtain ⟨rfl, rfl⟩ := hv2
    refine ⟨hg.os, hg.tape, hg.output, hg.size, fun k hk hn => hg.block k hk (fun e1 => by
     have : k = b := by simpa [Value.ownBlock] using e1
     exact hn (by rw [this]; exact hpb)), fun k c0 hpk hc0 => ?_⟩
    by_cases hkb : k = b
    ·subst hkb
     rw [hb] at hc0
     obtain rfl : cur = c0 := by simpa using hc0
     refine ⟨cur2, hb2, by omega, fun j => ?_⟩
     have hc2 : w'.cell? ⟨k, j, none⟩ = cur2[j]? := zC hb2 j
     rw [← hc2, ← hw', hsize, Nat.mul_one, Nat.zero_add]
     by_cases hin : s.n <= j /\ j < s.n + m
     ·right
      refine ⟨by omega, ?_⟩
      have := World.cell?_setCells_in k (List.replicate m x) s.n w (fun j hj => by rw [hcell, Array.getElem?_eq_getElem (by simp at hj; omega)]; rfl) (j - s.n) (by simp; omega)
      rw [show s.n + (j - s.n) = j by omega] at this
      rw [this]; simp
     ·left
      rw [World.cell?_setCells_out k (List.replicate m x) s.n w ⟨k, j, none⟩ (fun _ _ => by simp; omega), hcell]
    ·exact ⟨c0, (hg.block k (Array.getElem?_eq_some_iff.1 hc0).1 (by simp [Value.ownBlock]; exact hkb)).trans hc0, rfl, fun _ => Or.inl rfl⟩
  ·obtain ⟨v2, w2, hr2, _, hg2⟩ := run_append_arg_grows (P := P') w t ty e i z 1 bytes ht hi hz hsize hby hzs (by decide) ⟨b, 0, none⟩ s.n cp (List.replicate s.n x) (by simp) (fun j u hj => by
    rw [zg, Nat.zero_add, zC hb]
    have hjn : j < s.n := by have := (List.getElem?_eq_some_iff.1 hj).1; simpa using this
    have := congrArg (fun l => l[j]?) htk
    simp only [List.getElem?_take, Nat.mul_one, if_pos hjn, Array.getElem?_toList] at this
    rw [this, hj]) ad m c (List.replicate m x) (by simp) hnews (by omega) h63 hbytes
   rw [hr2] at hr
   simp only [Result.ok.injEq] at hr
   obtain ⟨_, rfl⟩ := hr
   exact mstep_of_grown hg2
theorem yJ {P' : Program} (w : World) {ops : Array Oper} {rest : List Oper} {o : Oper} {a : Act} {Q : Exit -> Act -> World -> Prop} (hgd : o.guard = none) (so xo : Operand) (t : TypeId)
  (ho : o.op = .call { callee := .builtin .append, args := #[so, xo], argTypes := #[t, t] })
  (e : TypeId) (i : TypeInfo) (z : Value) (bytes : Nat) (ht : P'.underlying t = some (.slice e)) (hi : P'.info? e = some i) (hz : i.zero = some z)
  (hsize : i.size = 1) (hby : i.bytes = bytes) (hzs : z.cells.size = 1) (x : Value) (hx1 : x.oneCell' = true) (P : Nat -> Prop) (s : Sl) (hs : a.eval so = s.val) (hm : yu w e x P s) (hP : ∀ k, w.heap.size <= k -> P k)
  (ad : Addr) (m c : Nat) (hx : a.eval xo = .slice (some ad) m c) (hnews : ∀ j u, (List.replicate m x)[j]? = some u -> w.cell? (ad.add j) = some u) (hm0 : 0 < m) (h63 : s.n + m <= maxLen) (hbytes : (s.n + m) * bytes <= 140737488355328)
  (h : ∀ ao c' w', yu w' e x P ⟨ao, s.n + m, c'⟩ -> zk e x P w w' -> wpList P' ops Q rest (a.put o.dst (.slice ao (s.n + m) c')) w') : wpList P' ops Q (o :: rest) a w := by
 refine wpList_plain hgd fun K hK => ?_
 obtain ⟨ao, c', w', hr, h2, h3⟩ := run_append_marks w t o.type e i z bytes ht hi hz hsize hby hzs x hx1 P s hm hP ad m c hnews hm0 h63 hbytes
 unfold Oper.wp execOp
 simp only [ho, resolve, invoke, builtin, Sem.run_bind, Sem.run_pure, Result.andThen_ok, List.map_toArray, List.map_cons, List.map_nil, hs, hx, hr]
 exact hK _ _ (h ao c' w' h2 h3)
end Go.Proofs.YtfpohfifdfbpkaaGreatDoor
namespace Go.Proofs.YtfpohfifdfbpkaaGreatDoor
open Go.RowKit Scour Go.Lib
structure Kept4 (w w' : World) (bk o : Nat) (cs : Array Value) (ty rt et : Nat) (vr : Value) (E : List Sl) (s : Sl) (x : Value) (s1 s2 s3 : Sl) (vr' : Value) : Prop where
 blk : w'.heap[bk]? = some (.cells (cs.setIfInBounds o vr') ty (0, 0))
 row : w'.ownsRow 0 rt 1 vr' (E.length + 4) ((E ++ [s, s1, s2, s3]).map Sl.val)
 marks : ∀ t, t ∈ [s, s1, s2, s3] -> yu w' et x (fun b => s.val.ownBlock = some b \/ w.heap.size <= b) t
 lens : ∀ t, t ∈ [s, s1, s2, s3] -> t.n <= s.n + 3
 os : w'.os = w.os
 tape : w'.tape = w.tape
 output : w'.output = w.output
 size : w.heap.size <= w'.heap.size
 frame : ∀ k, k < w.heap.size -> k ≠ bk -> vr.ownBlock ≠ some k -> s.val.ownBlock ≠ some k -> w'.heap[k]? = w.heap[k]?
 lies : vr'.ownBlock = vr.ownBlock \/ ∀ b, vr'.ownBlock = some b -> w.heap.size <= b
theorem kept4_of {w w3 w' : World} {bk o : Nat} {cs : Array Value} {ty rt et : Nat} {vr vr' : Value} {E : List Sl} {s s1 s2 s3 : Sl} {x : Value} (hst : zw w3 w' bk o cs ty rt 1 vr vr' (E.length + 4) ((E ++ [s, s1, s2, s3]).map Sl.val)) (hms : zk et x (fun b => s.val.ownBlock = some b \/ w.heap.size <= b) w w3)
  (hbk : ¬ (s.val.ownBlock = some bk \/ w.heap.size <= bk)) (hvr : ∀ b, vr.ownBlock = some b -> ¬ (s.val.ownBlock = some b \/ w.heap.size <= b))
  (h0 : yu w3 et x (fun b => s.val.ownBlock = some b \/ w.heap.size <= b) s) (h1 : yu w3 et x (fun b => s.val.ownBlock = some b \/ w.heap.size <= b) s1) (h2 : yu w3 et x (fun b => s.val.ownBlock = some b \/ w.heap.size <= b) s2) (h3 : yu w3 et x (fun b => s.val.ownBlock = some b \/ w.heap.size <= b) s3)
  (l1 : s1.n <= s.n + 3) (l2 : s2.n <= s.n + 3) (l3 : s3.n <= s.n + 3) : Kept4 w w' bk o cs ty rt et vr E s x s1 s2 s3 vr' := by
 have hsame : ∀ b, b < w3.heap.size -> (s.val.ownBlock = some b \/ w.heap.size <= b) -> w'.heap[b]? = w3.heap[b]? := fun b hb hp => hst.frame b hb (fun e => hbk (by rw [← e]; exact hp)) (fun e => hvr b e hp)
 refine ⟨hst.blk, hst.row, ?_, ?_, hst.os.trans hms.os, hst.tape.trans hms.tape, hst.output.trans hms.output, Nat.le_trans hms.size hst.size, ?_, ?_⟩
 ·intro t ht
  simp only [List.mem_cons, List.not_mem_nil, or_false] at ht
  rcases ht with rfl | rfl | rfl | rfl
  ·exact h0.same hsame
  ·exact h1.same hsame
  ·exact h2.same hsame
  ·exact h3.same hsame
 ·intro t ht
  simp only [List.mem_cons, List.not_mem_nil, or_false] at ht
  rcases ht with rfl | rfl | rfl | rfl
  ·omega
  ·exact l1
  ·exact l2
  ·exact l3
 ·intro k hk h1 h2 h3
  rw [hst.frame k (Nat.lt_of_lt_of_le hk hms.size) h1 h2]
  exact hms.out k hk (fun h => by rcases h with h | h; exact h3 h; omega)
 ·rcases hst.lies with e | e
  ·exact Or.inl e
  ·exact Or.inr (fun b hb => Nat.le_trans hms.size (e b hb))
theorem rep_set (x : Value) (xs : List Value) (k : Nat) (h : k < xs.length) : (List.replicate k x ++ xs.drop k).set k x = List.replicate (k + 1) x ++ xs.drop (k + 1) := by
 rw [List.set_append_right _ _ (by simp)]
 simp only [List.length_replicate, Nat.sub_self]
 rw [List.drop_eq_getElem_cons h, List.set_cons_zero, List.replicate_succ', List.append_assoc]
 rfl
set_option maxHeartbeats 4000000 in
set_option maxRecDepth 100000 in
theorem keeps_any (bk : Nat) (cs : Array Value) (ty : Nat) (vby : Value) (E : List Sl) (s : Sl) (xs : List Value) (w : World) (hbk : w.heap[bk]? = some (.cells cs ty (0, 0))) (hcs : cs[2]? = some vby) (hty1 : ty ≠ 5) (hty2 : ty ≠ 27)
  (hby : w.ownsRow 0 27 1 vby E.length (E.map Sl.val)) (hs : w.ownsRow 0 5 1 s.val s.n xs) (hE : E.length < 1000000000000) (hsn : s.n < 1000000000000) :
  Calls Tryz.prog 96 #[.pointer (some ⟨bk, 2, none⟩), s.val] w fun e w' => e = .returned (.tuple #[]) /\ ∃ s1 s2 s3 vby', Kept4 w w' bk 2 cs ty 27 5 vby E s (.int .u8 (zp E.length)) s1 s2 s3 vby' := by
 obtain ⟨i0, hi, hz0, hz1, hz2⟩ := info_parts Tryz.infoL
 obtain ⟨j0, hj, hy0, hy1, hy2⟩ := info_parts Tryz.infoB
 have hbl := (Array.getElem?_eq_some_iff.1 hbk).1
 have HPB : Hid (¬ (s.val.ownBlock = some bk \/ w.heap.size <= bk)) := zB (by
  rintro (h | h)
  ·obtain ⟨cur, hc⟩ := zD hs h; exact zH hbk hc hty1 rfl
  ·omega)
 have HPV : Hid (∀ b, vby.ownBlock = some b -> ¬ (s.val.ownBlock = some b \/ w.heap.size <= b)) := zB (by
  intro b hb
  obtain ⟨cur, hc⟩ := zD hby hb
  rintro (h | h)
  ·obtain ⟨cur2, hc2⟩ := zD hs h; exact zH hc hc2 (by decide) rfl
  ·have := (Array.getElem?_eq_some_iff.1 hc).1; omega)
 have hcl : 2 < cs.size := (Array.getElem?_eq_some_iff.1 hcs).1
 obtain ⟨P, hP⟩ : ∃ P : Nat -> Prop, P = fun b => s.val.ownBlock = some b \/ w.heap.size <= b := ⟨_, rfl⟩
 have HPI : Hid (∀ b, P b ↔ (s.val.ownBlock = some b \/ w.heap.size <= b)) := zB (fun b => by rw [hP])
 have HPE := zB hP
 clear hP
 have HSV := zB (show ∃ s' : Sl, s' = s from ⟨_, rfl⟩)
 obtain ⟨ao, n, c⟩ := s
 simp only [Sl.val] at *
 have c0 : w.cell? ⟨bk, 2, none⟩ = some vby := by rw [zC hbk]; exact hcs
 have HBK := zB hbk
 have HBY := zB hby
 have HS := zB hs
 have HCS := zB hcs
 obtain ⟨aby, cby, hvby⟩ : ∃ aby cby, vby = .slice aby E.length cby := by
  rcases hby.2 with ⟨h, h0⟩ | ⟨g, cap, cur, h, _⟩
  ·exact ⟨none, 0, by rw [h, h0]⟩
  ·exact ⟨_, cap, h⟩
 subst hvby
 clear hbk hby hs hcs
 go_enter Tryz.func96, Tryz.ntmps96
 go_wp2_with (go_at_call 53; refine (mark_any _ _ (by omega)).mono ?_; rintro e w' ⟨rfl, hw⟩; have hw' := hw.symm; clear hw; subst hw')
 go_loopw [5] (fun v wr => ∃ k : Nat, v = .int .i64 k /\ k <= n /\ Hid (wr.ownsRow 0 5 1 (.slice ao n c) n (List.replicate k (.int .u8 (zp E.length)) ++ xs.drop k)) /\ Hid (zk 5 (.int .u8 (zp E.length)) P w wr)) (fun v _ => n - (intOf v).toNat)
 case atStart => exact ⟨0, rfl, Nat.zero_le _, HS, zB (zk.refl _ _ _ _)⟩
 case round =>
  obtain ⟨k, rfl, hk, HR, HM⟩ := hrel
  have hxl : xs.length = n := by have := (zA HS).1; omega
  by_cases hlt : k < n
  ·obtain ⟨g, cg, hv, _, _⟩ := (zA HR).form (by omega)
   obtain ⟨rfl, rfl⟩ : ao = some ⟨g, 0, none⟩ /\ c = cg := by simpa using hv
   obtain ⟨cur, hcur⟩ := zK (zA HR)
   have c1 : ∃ u, wr.cell? ⟨g, k, none⟩ = some u := by
    rw [(zA HR).cellAt k (by omega)]
    exact ⟨_, List.getElem?_eq_getElem (by simp; omega)⟩
   obtain ⟨u, c1⟩ := c1
   have f1 : wr.frozen? ⟨g, k, none⟩ = false := (zA HR).frozenAt k
   have HR2 : Hid ((wr.setCell ⟨g, k, none⟩ (.int .u8 (zp E.length))).ownsRow 0 5 1 (.slice (some ⟨g, 0, none⟩) n c) n (List.replicate (k + 1) (.int .u8 (zp E.length)) ++ xs.drop (k + 1))) := zB (by
    have := ((zA HR).stored k (.int .u8 (zp E.length))).1
    rw [rep_set (.int .u8 (zp E.length)) xs k (by omega)] at this
    exact this)
   have HM2 : Hid (zk 5 (.int .u8 (zp E.length)) P w (wr.setCell ⟨g, k, none⟩ (.int .u8 (zp E.length)))) := zB ((zA HM).trans (mstep_setCell wr g k cur hcur ((zA HPI g).2 (Or.inl rfl))))
   have i1 : (k : Int) < (n : Int) := by omega
   clear hcur hv
   go_wp2
   go_roundw
   case rel => exact ⟨k + 1, by go_num, hlt, HR2, HM2⟩
   case measure => simp [intOf]; omega
  ·obtain rfl : k = n := by omega
   have HM0 : Hid (yu wr 5 (.int .u8 (zp E.length)) P ⟨ao, k, c⟩) := zB ⟨by
    have := zA HR
    rw [List.drop_of_length_le (by omega), List.append_nil] at this
    exact this, fun b hb => (zA HPI b).2 (Or.inl hb)⟩
   have hszr := (zA HM).size
   have HNEW : Hid (∀ b, w.heap.size <= b -> P b) := zB (fun b hb => (zA HPI b).2 (Or.inr hb))
   have i1 : ¬ (k : Int) < (k : Int) := by omega
   have HSTART : Hid (∀ W, zk 5 (.int .u8 (zp E.length)) P w W -> zw W W bk 2 cs ty 27 1 (.slice aby E.length cby) (.slice aby E.length cby) E.length (E.map Sl.val)) := zB (fun W hW => by
    refine zw.start ((hW.out bk hbl (fun h => zA HPB ((zA HPI bk).1 h))).trans (zA HBK)) (zA HCS) ?_
    have hby := zA HBY
    refine ⟨hby.1, ?_⟩
    rcases hby.2 with g | ⟨g, cap, cur, hv, h2, h3, h4⟩
    ·exact Or.inl g
    ·exact Or.inr ⟨g, cap, cur, hv, h2, (hW.out g (Array.getElem?_eq_some_iff.1 h3).1 (fun h => zA HPV g (by rw [hv]; rfl) ((zA HPI g).1 h))).trans h3, h4⟩)
   go_wp2_with (first | (at_builtin; refine yJ _ rfl (.tmp 25) (.tmp 27) 27 rfl 5 j0 (.int .u8 0) 1 Tryz.underlying27 hj hy0 hy1 hy2 rfl (.int .u8 (zp E.length)) rfl P ⟨ao, k, c⟩ rfl ((zA HM0).step ((zk.refl _ _ _ _).alloc _)) (fun b hb => zA HNEW b (by simp at hb; omega)) ⟨wr.heap.size, 0, none⟩ 1 1 rfl (World.news_of_block (heap_alloc_new wr _)) (by decide) (by simp only [maxLen]; omega) (by simp only []; omega) ?_; intro ao1 cc1 w1 m1 st1; have hz1' := st1.size; simp only [World.alloc, Array.size_push] at hz1'; have ST1 := (zk.refl 5 (.int .u8 (zp E.length)) P wr).alloc (.cells #[(.int .u8 (zp E.length))] 5); have HM01 := zB (((zA HM0).step ST1).step st1); have HM11 := zB m1; have HW1 := zB (((zA HM).trans ST1).trans st1); clear m1 st1 ST1) | (at_builtin; refine yJ _ rfl (.tmp 29) (.tmp 32) 27 rfl 5 j0 (.int .u8 0) 1 Tryz.underlying27 hj hy0 hy1 hy2 rfl (.int .u8 (zp E.length)) rfl P ⟨ao, k, c⟩ rfl ((zA HM01).step ((zk.refl _ _ _ _).alloc _)) (fun b hb => zA HNEW b (by simp at hb; omega)) ⟨w1.heap.size, 0, none⟩ 2 2 rfl (World.news_of_block (heap_alloc_new w1 _)) (by decide) (by simp only [maxLen]; omega) (by simp only []; omega) ?_; intro ao2 cc2 w2 m2 st2; have hz2' := st2.size; simp only [World.alloc, Array.size_push] at hz2'; have ST2 := (zk.refl 5 (.int .u8 (zp E.length)) P w1).alloc (.cells #[(.int .u8 (zp E.length)), (.int .u8 (zp E.length))] 5); have HM02 := zB (((zA HM01).step ST2).step st2); have HM12 := zB (((zA HM11).step ST2).step st2); have HM22 := zB m2; have HW2 := zB (((zA HW1).trans ST2).trans st2); clear m2 st2 ST2) | (at_builtin; refine yJ _ rfl (.tmp 34) (.tmp 38) 27 rfl 5 j0 (.int .u8 0) 1 Tryz.underlying27 hj hy0 hy1 hy2 rfl (.int .u8 (zp E.length)) rfl P ⟨ao, k, c⟩ rfl ((zA HM02).step ((zk.refl _ _ _ _).alloc _)) (fun b hb => zA HNEW b (by simp at hb; omega)) ⟨w2.heap.size, 0, none⟩ 3 3 rfl (World.news_of_block (heap_alloc_new w2 _)) (by decide) (by simp only [maxLen]; omega) (by simp only []; omega) ?_; intro ao3 cc3 w3 m3 st3; have hz3' := st3.size; simp only [World.alloc, Array.size_push] at hz3'; have ST3 := (zk.refl 5 (.int .u8 (zp E.length)) P w2).alloc (.cells #[(.int .u8 (zp E.length)), (.int .u8 (zp E.length)), (.int .u8 (zp E.length))] 5); have HM03 := zB (((zA HM02).step ST3).step st3); have HM13 := zB (((zA HM12).step ST3).step st3); have HM23 := zB (((zA HM22).step ST3).step st3); have HM33 := zB m3; have HW3 := zB (((zA HW2).trans ST3).trans st3); clear m3 st3 ST3; have HR3 := zB (zA HSTART w3 (zA HW3)); have c3 := (zA HR3).cell hcl) | (at_builtin; refine wpList_append_lies _ rfl (.tmp 44) (.tmp 46) 30 rfl 0 27 i0 (.slice none 0 0) 1 24 Tryz.underlying30 hi hz0 hz1 hz2 rfl (by decide) _ (E.length) (E.map Sl.val) rfl ((zA HR3).ready #[.slice ao k c] w3.heap.size rfl).1 ⟨w3.heap.size, 0, none⟩ 1 1 [.slice ao k c] rfl rfl ((zA HR3).ready #[.slice ao k c] w3.heap.size rfl).2 (by intro u hu; simp at hu; subst hu; rfl) (by omega) (by unfold maxLen; omega) (by omega) (Nat.zero_le _) (w3.heap.size + 1) (by simp) ?_; intro g4 cg4 w4 ho4 hg4 hat4 hl4; obtain ⟨c4, f4⟩ := (zA HR3).behind hty2 hcl _ hg4; have HR4 := zB ((zA HR3).step hty2 #[.slice ao k c] w3.heap.size rfl ho4 hg4 hat4); have d4 := (zA HR4).cell hcl; clear ho4 hg4 hat4 hl4) | (at_builtin; refine wpList_append_lies _ rfl (.tmp 54) (.tmp 56) 30 rfl 0 27 i0 (.slice none 0 0) 1 24 Tryz.underlying30 hi hz0 hz1 hz2 rfl (by decide) _ (E.length + 1) _ rfl ((zA HR4).ready #[.slice ao1 (k + 1) cc1] w4.heap.size (by simp [World.setCell])).1 ⟨w4.heap.size, 0, none⟩ 1 1 [.slice ao1 (k + 1) cc1] rfl rfl ((zA HR4).ready #[.slice ao1 (k + 1) cc1] w4.heap.size (by simp [World.setCell])).2 (by intro u hu; simp at hu; subst hu; rfl) (by omega) (by unfold maxLen; omega) (by omega) (Nat.zero_le _) (w4.heap.size + 1) (by simp [World.setCell]) ?_; intro g5 cg5 w5 ho5 hg5 hat5 hl5; obtain ⟨c5, f5⟩ := (zA HR4).behind hty2 hcl _ hg5; have HR5 := zB ((zA HR4).step hty2 #[.slice ao1 (k + 1) cc1] w4.heap.size (by simp [World.setCell]) ho5 hg5 hat5); have d5 := (zA HR5).cell hcl; clear ho5 hg5 hat5 hl5) | (at_builtin; refine wpList_append_lies _ rfl (.tmp 64) (.tmp 66) 30 rfl 0 27 i0 (.slice none 0 0) 1 24 Tryz.underlying30 hi hz0 hz1 hz2 rfl (by decide) _ (E.length + 1 + 1) _ rfl ((zA HR5).ready #[.slice ao2 (k + 2) cc2] w5.heap.size (by simp [World.setCell])).1 ⟨w5.heap.size, 0, none⟩ 1 1 [.slice ao2 (k + 2) cc2] rfl rfl ((zA HR5).ready #[.slice ao2 (k + 2) cc2] w5.heap.size (by simp [World.setCell])).2 (by intro u hu; simp at hu; subst hu; rfl) (by omega) (by unfold maxLen; omega) (by omega) (Nat.zero_le _) (w5.heap.size + 1) (by simp [World.setCell]) ?_; intro g6 cg6 w6 ho6 hg6 hat6 hl6; obtain ⟨c6, f6⟩ := (zA HR5).behind hty2 hcl _ hg6; have HR6 := zB ((zA HR5).step hty2 #[.slice ao2 (k + 2) cc2] w5.heap.size (by simp [World.setCell]) ho6 hg6 hat6); have d6 := (zA HR6).cell hcl; clear ho6 hg6 hat6 hl6) | (at_builtin; refine wpList_append_lies _ rfl (.tmp 74) (.tmp 76) 30 rfl 0 27 i0 (.slice none 0 0) 1 24 Tryz.underlying30 hi hz0 hz1 hz2 rfl (by decide) _ (E.length + 1 + 1 + 1) _ rfl ((zA HR6).ready #[.slice ao3 (k + 3) cc3] w6.heap.size (by simp [World.setCell])).1 ⟨w6.heap.size, 0, none⟩ 1 1 [.slice ao3 (k + 3) cc3] rfl rfl ((zA HR6).ready #[.slice ao3 (k + 3) cc3] w6.heap.size (by simp [World.setCell])).2 (by intro u hu; simp at hu; subst hu; rfl) (by omega) (by unfold maxLen; omega) (by omega) (Nat.zero_le _) (w6.heap.size + 1) (by simp [World.setCell]) ?_; intro g7 cg7 w7 ho7 hg7 hat7 hl7; obtain ⟨c7, f7⟩ := (zA HR6).behind hty2 hcl _ hg7; have HR7 := zB ((zA HR6).step hty2 #[.slice ao3 (k + 3) cc3] w6.heap.size (by simp [World.setCell]) ho7 hg7 hat7); have d7 := (zA HR7).cell hcl; clear ho7 hg7 hat7 hl7))
   go_end0
   refine ⟨rfl, ⟨ao1, k + 1, cc1⟩, ⟨ao2, k + 2, cc2⟩, ⟨ao3, k + 3, cc3⟩, .slice (some ⟨g7, 0, none⟩) (E.length + 4) cg7, ?_⟩
   have hst := zA HR7
   have hpe := zA HPE
   have hw3 := zA HW3
   have m0 := zA HM03
   have m1 := zA HM13
   have m2 := zA HM23
   have m3 := zA HM33
   subst hpe
   refine kept4_of ?_ hw3 (zA HPB) (zA HPV) m0 m1 m2 m3 (by simp) (by simp) (by simp)
   rw [List.map_append]
   simp only [List.append_assoc] at hst
   exact hst
end Go.Proofs.YtfpohfifdfbpkaaGreatDoor
namespace Go.Proofs.YtfpohfifdfbpkaaGreatDoor
open Go.RowKit Scour Go.Lib
def yX (x : Nat -> Value) (k : Nat) : List Value := (List.range k).map x
theorem yP (x : Nat -> Value) (k : Nat) : (yX x k).length = k := by simp [yX]
theorem xcells_get (x : Nat -> Value) (k j : Nat) : (yX x k)[j]? = if j < k then some (x j) else none := by
 unfold yX
 by_cases h : j < k
 ·rw [if_pos h]; simp [h]
 ·rw [if_neg h, List.getElem?_eq_none (by simp; omega)]
def Again (x : Nat -> Value) (sz : Nat) : Prop := ∀ j, x (j + sz) = x j
theorem Again.mul {x : Nat -> Value} {sz : Nat} (h : Again x sz) : ∀ n j, x (n * sz + j) = x j
 | 0, j => by simp
 | n + 1, j => by
   rw [show (n + 1) * sz + j = (n * sz + j) + sz by rw [Nat.succ_mul]; omega, h, h.mul n j]
theorem xcells_add {x : Nat -> Value} {sz : Nat} (h : Again x sz) (n m : Nat) : yX x (n * sz) ++ yX x (m * sz) = yX x ((n + m) * sz) := by
 apply List.ext_getElem?
 intro j
 rw [List.getElem?_append, yP, xcells_get, xcells_get, xcells_get, Nat.add_mul]
 by_cases h1 : j < n * sz
 ·rw [if_pos h1, if_pos h1, if_pos (by omega)]
 ·rw [if_neg h1]
  by_cases h2 : j - n * sz < m * sz
  ·rw [if_pos h2, if_pos (by omega)]
   have := h.mul n (j - n * sz)
   rw [show n * sz + (j - n * sz) = j by omega] at this
   rw [this]
  ·rw [if_neg h2, if_neg (by omega)]
structure jP (w : World) (e : TypeId) (sz : Nat) (x : Nat -> Value) (P : Nat -> Prop) (s : Sl) : Prop where
 row : w.ownsRow 0 e sz s.val s.n (yX x (s.n * sz))
 own : ∀ b, s.val.ownBlock = some b -> P b
structure zx (e : TypeId) (x : Nat -> Value) (P : Nat -> Prop) (w w' : World) : Prop where
 os : w'.os = w.os
 tape : w'.tape = w.tape
 output : w'.output = w.output
 size : w.heap.size <= w'.heap.size
 out : ∀ k, k < w.heap.size -> ¬ P k -> w'.heap[k]? = w.heap[k]?
 ins : ∀ (k : Nat) (cur : Array Value), P k -> w.heap[k]? = some (.cells cur e (0, 0)) -> ∃ cur', w'.heap[k]? = some (.cells cur' e (0, 0)) /\ cur'.size = cur.size /\ ∀ j : Nat, cur'[j]? = cur[j]? \/ (j < cur.size /\ cur'[j]? = some (x j))
theorem zx.refl (e : TypeId) (x : Nat -> Value) (P : Nat -> Prop) (w : World) : zx e x P w w :=
 ⟨rfl, rfl, rfl, Nat.le_refl _, fun _ _ _ => rfl, fun _ cur _ h => ⟨cur, h, rfl, fun _ => Or.inl rfl⟩⟩
theorem zx.trans {e : TypeId} {x : Nat -> Value} {P : Nat -> Prop} {w a b : World} (h : zx e x P w a) (k : zx e x P a b) : zx e x P w b := by
 refine ⟨k.os.trans h.os, k.tape.trans h.tape, k.output.trans h.output, Nat.le_trans h.size k.size, fun i hi hp => (k.out i (Nat.lt_of_lt_of_le hi h.size) hp).trans (h.out i hi hp), fun i cur hp hc => ?_⟩
 obtain ⟨c1, h1, h2, h3⟩ := h.ins i cur hp hc
 obtain ⟨c2, k1, k2, k3⟩ := k.ins i c1 hp h1
 refine ⟨c2, k1, k2.trans h2, fun j => ?_⟩
 rcases k3 j with g | ⟨g1, g2⟩
 ·rcases h3 j with f | f
  ·exact Or.inl (g.trans f)
  ·exact Or.inr ⟨f.1, g.trans f.2⟩
 ·exact Or.inr ⟨by omega, g2⟩
theorem mstepG_of_grown {e : TypeId} {x : Nat -> Value} {P : Nat -> Prop} {w w' : World} (h : w.grownBy w' none) : zx e x P w w' :=
 ⟨h.os, h.tape, h.output, h.size, fun k hk _ => h.block k hk (by simp), fun k cur _ hc => ⟨cur, (h.block k (Array.getElem?_eq_some_iff.1 hc).1 (by simp)).trans hc, rfl, fun _ => Or.inl rfl⟩⟩
theorem zx.alloc {e : TypeId} {x : Nat -> Value} {P : Nat -> Prop} {w a : World} (h : zx e x P w a) (o : Obj) : zx e x P w (a.alloc o) := h.trans (mstepG_of_grown (World.grownBy_alloc a o none))
theorem mstepG_setCell {e : TypeId} {x : Nat -> Value} {P : Nat -> Prop} (w : World) (g k : Nat) (cur : Array Value) (hb : w.heap[g]? = some (.cells cur e (0, 0))) (hp : P g) : zx e x P w (w.setCell ⟨g, k, none⟩ (x k)) := by
 refine ⟨rfl, rfl, rfl, by simp [World.setCell], fun i hi hn => Below.heap_setCell w _ _ i (fun e => hn (by rw [e]; exact hp)), fun i c hpi hc => ?_⟩
 by_cases hig : i = g
 ·subst hig
  rw [hb] at hc
  obtain rfl : cur = c := by simpa using hc
  refine ⟨cur.setIfInBounds k (x k), heap_setCell_same w _ _ _ _ _ hb, by simp, fun j => ?_⟩
  rw [Array.getElem?_setIfInBounds]
  by_cases hj : k = j
  ·subst hj
   by_cases hl : k < cur.size
   ·right; simp [hl]
   ·left; simp [hl]
  ·left; rw [if_neg hj]
 ·exact ⟨c, (Below.heap_setCell w _ _ i hig).trans hc, rfl, fun _ => Or.inl rfl⟩
theorem jP.step {w w' : World} {e : TypeId} {sz : Nat} {x : Nat -> Value} {P : Nat -> Prop} {s : Sl} (h : jP w e sz x P s) (k : zx e x P w w') : jP w' e sz x P s := by
 refine ⟨⟨h.row.1, ?_⟩, h.own⟩
 rcases h.row.2 with g | ⟨g, cap, cur, hv, h2, h3, h4, h5, h6, h7⟩
 ·exact Or.inl g
 ·obtain ⟨cur', k1, k2, k3⟩ := k.ins g cur (h.own g (by rw [hv]; rfl)) h3
  refine Or.inr ⟨g, cap, cur', hv, h2, k1, h4, h5, k2.trans h6, ?_⟩
  have hle : s.n * sz <= cap * sz := Nat.mul_le_mul_right _ h4
  apply List.ext_getElem?
  intro j
  rw [List.getElem?_take, xcells_get]
  by_cases hj : j < s.n * sz
  ·have hc : cur[j]? = some (x j) := by
    have := congrArg (fun l => l[j]?) h7
    simp only [List.getElem?_take, if_pos hj, Array.getElem?_toList, xcells_get] at this
    exact this
   rw [if_pos hj, if_pos hj, Array.getElem?_toList]
   rcases k3 j with g | g
   ·rw [g]; exact hc
   ·exact g.2
  ·rw [if_neg hj, if_neg hj]
theorem jP.same {w w' : World} {e : TypeId} {sz : Nat} {x : Nat -> Value} {P : Nat -> Prop} {s : Sl} (h : jP w e sz x P s) (k : ∀ b, b < w.heap.size -> P b -> w'.heap[b]? = w.heap[b]?) : jP w' e sz x P s := by
 refine ⟨⟨h.row.1, ?_⟩, h.own⟩
 rcases h.row.2 with g | ⟨g, cap, cur, hv, h2, h3, h4⟩
 ·exact Or.inl g
 ·exact Or.inr ⟨g, cap, cur, hv, h2, (k g (Array.getElem?_eq_some_iff.1 h3).1 (h.own g (by rw [hv]; rfl))).trans h3, h4⟩
theorem jP.weaken {w : World} {e : TypeId} {sz : Nat} {x : Nat -> Value} {P Q : Nat -> Prop} {s : Sl} (h : jP w e sz x P s) (k : ∀ b, s.val.ownBlock = some b -> P b -> Q b) : jP w e sz x Q s := ⟨h.row, fun b hb => k b hb (h.own b hb)⟩
theorem run_append_marksG {P' : Program} (w : World) (t ty e : TypeId) (i : TypeInfo) (z : Value) (sz bytes : Nat) (ht : P'.underlying t = some (.slice e)) (hi : P'.info? e = some i) (hz : i.zero = some z)
  (hsize : i.size = sz) (hby : i.bytes = bytes) (hzs : z.cells.size = sz) (hsz : 0 < sz) (x : Nat -> Value) (hag : Again x sz) (hx1 : ∀ j, (x j).oneCell' = true) (P : Nat -> Prop) (s : Sl) (hm : jP w e sz x P s) (hP : ∀ k, w.heap.size <= k -> P k)
  (ad : Addr) (m c : Nat) (hnews : ∀ j u, (yX x (m * sz))[j]? = some u -> w.cell? (ad.add j) = some u) (hm0 : 0 < m) (h63 : s.n + m <= maxLen) (hbytes : (s.n + m) * bytes <= 140737488355328) :
  ∃ ao c' w', (Builtin.append_ #[t, t] ty #[s.val, .slice (some ad) m c]).run P' w = .ok (.slice ao (s.n + m) c') w' /\ jP w' e sz x P ⟨ao, s.n + m, c'⟩ /\ zx e x P w w' := by
 have h1 : ∀ u ∈ yX x (m * sz), u.oneCell' = true := fun u hu => by
  obtain ⟨j, _, rfl⟩ := List.mem_map.1 hu
  exact hx1 j
 obtain ⟨g, cap, w', hr, ho, hg, hat, hlt⟩ := run_append_lies (P := P') w t ty 0 e i z sz bytes ht hi hz hsize hby hzs hsz s.val s.n (yX x (s.n * sz)) hm.row ad m c (yX x (m * sz)) (yP _ _) hnews h1 hm0 h63 hbytes (Nat.zero_le _) w.heap.size rfl
 rw [xcells_add hag] at ho
 have hown : P g := by
  rcases hat with e1 | e1
  ·exact hm.own g e1
  ·exact hP g (by omega)
 refine ⟨some ⟨g, 0, none⟩, cap, w', hr, ⟨ho, ?_⟩, ?_⟩
 ·intro b hb
  have e1 : g = b := by simpa [Sl.val, Value.ownBlock] using hb
  rw [← e1]; exact hown
 rcases hm.row.2 with ⟨hv, _⟩ | ⟨b, cp, cur, hv, _, hb, hnc, hcm, hcs, htk⟩
 ·rw [hv] at hg
  exact mstepG_of_grown hg
 ·have hpb : P b := hm.own b (by rw [hv]; rfl)
  rw [hv] at hr hg
  by_cases hroom : s.n + m <= cp
  ·have hroom2 : s.n * sz + m * sz <= cp * sz := by rw [← Nat.add_mul]; exact Nat.mul_le_mul_right _ hroom
   have hcell : ∀ j, w.cell? ⟨b, j, none⟩ = cur[j]? := fun j => zC hb j
   have hr2 := run_append_room_cells (P := P') w t ty e i ht hi b 0 s.n cp ad m c (yX x (m * sz)) (by rw [yP, hsize]) hnews h1 hroom (fun j hj => by
    rw [yP] at hj
    rw [hcell, hsize, Array.getElem?_eq_getElem (by omega)]; rfl) (fun j hj => frozen_of_row w _ _ _ _ hb)
   rw [hr2] at hr
   simp only [Result.ok.injEq, Value.slice.injEq, Option.some.injEq, Addr.mk.injEq, and_true, true_and] at hr
   obtain ⟨⟨rfl, rfl⟩, hw'⟩ := hr
   obtain ⟨_, ⟨hv2, _⟩ | ⟨g2, cp2, cur2, hv2, _, hb2, hnc2, _, hcs2, _⟩⟩ := ho
   ·cases hv2
   ·simp only [Value.slice.injEq, Option.some.injEq, Addr.mk.injEq, and_true, true_and] at hv2
    obtain ⟨rfl, rfl⟩ := hv2
    refine ⟨hg.os, hg.tape, hg.output, hg.size, fun k hk hn => hg.block k hk (fun e1 => by
     have : k = b := by simpa [Value.ownBlock] using e1
     exact hn (by rw [this]; exact hpb)), fun k c0 hpk hc0 => ?_⟩
    by_cases hkb : k = b
    ·subst hkb
     rw [hb] at hc0
     obtain rfl : cur = c0 := by simpa using hc0
     refine ⟨cur2, hb2, by omega, fun j => ?_⟩
     have hc2 : w'.cell? ⟨k, j, none⟩ = cur2[j]? := zC hb2 j
     rw [← hc2, ← hw', hsize, Nat.zero_add]
     by_cases hin : s.n * sz <= j /\ j < s.n * sz + m * sz
     ·right
      refine ⟨by omega, ?_⟩
      have := World.cell?_setCells_in k (yX x (m * sz)) (s.n * sz) w (fun j hj => by rw [yP] at hj; rw [hcell, Array.getElem?_eq_getElem (by omega)]; rfl) (j - s.n * sz) (by rw [yP]; omega)
      rw [show s.n * sz + (j - s.n * sz) = j by omega] at this
      have hh := hag.mul s.n (j - s.n * sz)
      rw [show s.n * sz + (j - s.n * sz) = j by omega] at hh
      rw [this, hh]
      simp [yX]
     ·left
      rw [World.cell?_setCells_out k (yX x (m * sz)) (s.n * sz) w ⟨k, j, none⟩ (fun _ _ => by rw [yP]; simp only [] at *; omega), hcell]
    ·exact ⟨c0, (hg.block k (Array.getElem?_eq_some_iff.1 hc0).1 (by simp [Value.ownBlock]; exact hkb)).trans hc0, rfl, fun _ => Or.inl rfl⟩
  ·obtain ⟨v2, w2, hr2, _, hg2⟩ := run_append_arg_grows (P := P') w t ty e i z sz bytes ht hi hz hsize hby hzs hsz ⟨b, 0, none⟩ s.n cp (yX x (s.n * sz)) (yP _ _) (fun j u hj => by
    rw [zg, Nat.zero_add, zC hb]
    have hjn : j < s.n * sz := by have := (List.getElem?_eq_some_iff.1 hj).1; rwa [yP] at this
    have := congrArg (fun l => l[j]?) htk
    simp only [List.getElem?_take, if_pos hjn, Array.getElem?_toList] at this
    rw [this, hj]) ad m c (yX x (m * sz)) (yP _ _) hnews (by omega) h63 hbytes
   rw [hr2] at hr
   simp only [Result.ok.injEq] at hr
   obtain ⟨_, rfl⟩ := hr
   exact mstepG_of_grown hg2
theorem wpList_append_marksG {P' : Program} (w : World) {ops : Array Oper} {rest : List Oper} {o : Oper} {a : Act} {Q : Exit -> Act -> World -> Prop} (hgd : o.guard = none) (so xo : Operand) (t : TypeId)
  (ho : o.op = .call { callee := .builtin .append, args := #[so, xo], argTypes := #[t, t] })
  (e : TypeId) (i : TypeInfo) (z : Value) (sz bytes : Nat) (ht : P'.underlying t = some (.slice e)) (hi : P'.info? e = some i) (hz : i.zero = some z)
  (hsize : i.size = sz) (hby : i.bytes = bytes) (hzs : z.cells.size = sz) (hsz : 0 < sz) (x : Nat -> Value) (hag : Again x sz) (hx1 : ∀ j, (x j).oneCell' = true) (P : Nat -> Prop) (s : Sl) (hs : a.eval so = s.val) (hm : jP w e sz x P s) (hP : ∀ k, w.heap.size <= k -> P k)
  (ad : Addr) (m c : Nat) (hx : a.eval xo = .slice (some ad) m c) (hnews : ∀ j u, (yX x (m * sz))[j]? = some u -> w.cell? (ad.add j) = some u) (hm0 : 0 < m) (h63 : s.n + m <= maxLen) (hbytes : (s.n + m) * bytes <= 140737488355328)
  (h : ∀ ao c' w', jP w' e sz x P ⟨ao, s.n + m, c'⟩ -> zx e x P w w' -> wpList P' ops Q rest (a.put o.dst (.slice ao (s.n + m) c')) w') : wpList P' ops Q (o :: rest) a w := by
 refine wpList_plain hgd fun K hK => ?_
 obtain ⟨ao, c', w', hr, h2, h3⟩ := run_append_marksG w t o.type e i z sz bytes ht hi hz hsize hby hzs hsz x hag hx1 P s hm hP ad m c hnews hm0 h63 hbytes
 unfold Oper.wp execOp
 simp only [ho, resolve, invoke, builtin, Sem.run_bind, Sem.run_pure, Result.andThen_ok, List.map_toArray, List.map_cons, List.map_nil, hs, hx, hr]
 exact hK _ _ (h ao c' w' h2 h3)
structure Kept4G (w w' : World) (bk o : Nat) (cs : Array Value) (ty rt et sz : Nat) (vr : Value) (E : List Sl) (s : Sl) (x : Nat -> Value) (s1 s2 s3 : Sl) (vr' : Value) : Prop where
 blk : w'.heap[bk]? = some (.cells (cs.setIfInBounds o vr') ty (0, 0))
 row : w'.ownsRow 0 rt 1 vr' (E.length + 4) ((E ++ [s, s1, s2, s3]).map Sl.val)
 marks : ∀ t, t ∈ [s, s1, s2, s3] -> jP w' et sz x (fun b => s.val.ownBlock = some b \/ w.heap.size <= b) t
 lens : ∀ t, t ∈ [s, s1, s2, s3] -> t.n <= s.n + 3
 os : w'.os = w.os
 tape : w'.tape = w.tape
 output : w'.output = w.output
 size : w.heap.size <= w'.heap.size
 frame : ∀ k, k < w.heap.size -> k ≠ bk -> vr.ownBlock ≠ some k -> s.val.ownBlock ≠ some k -> w'.heap[k]? = w.heap[k]?
 lies : vr'.ownBlock = vr.ownBlock \/ ∀ b, vr'.ownBlock = some b -> w.heap.size <= b
theorem kept4G_of {w w3 w' : World} {bk o : Nat} {cs : Array Value} {ty rt et sz : Nat} {vr vr' : Value} {E : List Sl} {s s1 s2 s3 : Sl} {x : Nat -> Value} (hst : zw w3 w' bk o cs ty rt 1 vr vr' (E.length + 4) ((E ++ [s, s1, s2, s3]).map Sl.val)) (hms : zx et x (fun b => s.val.ownBlock = some b \/ w.heap.size <= b) w w3)
  (hbk : ¬ (s.val.ownBlock = some bk \/ w.heap.size <= bk)) (hvr : ∀ b, vr.ownBlock = some b -> ¬ (s.val.ownBlock = some b \/ w.heap.size <= b))
  (h0 : jP w3 et sz x (fun b => s.val.ownBlock = some b \/ w.heap.size <= b) s) (h1 : jP w3 et sz x (fun b => s.val.ownBlock = some b \/ w.heap.size <= b) s1) (h2 : jP w3 et sz x (fun b => s.val.ownBlock = some b \/ w.heap.size <= b) s2) (h3 : jP w3 et sz x (fun b => s.val.ownBlock = some b \/ w.heap.size <= b) s3)
  (l1 : s1.n <= s.n + 3) (l2 : s2.n <= s.n + 3) (l3 : s3.n <= s.n + 3) : Kept4G w w' bk o cs ty rt et sz vr E s x s1 s2 s3 vr' := by
 have hsame : ∀ b, b < w3.heap.size -> (s.val.ownBlock = some b \/ w.heap.size <= b) -> w'.heap[b]? = w3.heap[b]? := fun b hb hp => hst.frame b hb (fun e => hbk (by rw [← e]; exact hp)) (fun e => hvr b e hp)
 refine ⟨hst.blk, hst.row, ?_, ?_, hst.os.trans hms.os, hst.tape.trans hms.tape, hst.output.trans hms.output, Nat.le_trans hms.size hst.size, ?_, ?_⟩
 ·intro t ht
  simp only [List.mem_cons, List.not_mem_nil, or_false] at ht
  rcases ht with rfl | rfl | rfl | rfl
  ·exact h0.same hsame
  ·exact h1.same hsame
  ·exact h2.same hsame
  ·exact h3.same hsame
 ·intro t ht
  simp only [List.mem_cons, List.not_mem_nil, or_false] at ht
  rcases ht with rfl | rfl | rfl | rfl
  ·omega
  ·exact l1
  ·exact l2
  ·exact l3
 ·intro k hk h1 h2 h3
  rw [hst.frame k (Nat.lt_of_lt_of_le hk hms.size) h1 h2]
  exact hms.out k hk (fun h => by rcases h with h | h; exact h3 h; omega)
 ·rcases hst.lies with e | e
  ·exact Or.inl e
  ·exact Or.inr (fun b hb => Nat.le_trans hms.size (e b hb))
end Go.Proofs.YtfpohfifdfbpkaaGreatDoor
