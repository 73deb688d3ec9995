import Derived.Test.YtibkhphbilfckaaGreatDoorLawA
import Derived.ArgAppend
namespace Go.Proofs.YtibkhphbilfckaaGreatDoor
open Go.RowKit Scour Go.Lib

/-- A list that came out: where it lies, how long it is, and its room. -/
structure Sl where
  ao : Option Addr
  n : Nat
  c : Nat

def Sl.val (s : Sl) : Value := .slice s.ao s.n s.c

/-- All elements of a list are x; its block, if it has one, is of a kind. -/
structure Marks (w : World) (e : TypeId) (x : Value) (P : Nat → Prop) (s : Sl) : Prop where
  row : w.ownsRow 0 e 1 s.val s.n (List.replicate s.n x)
  own : ∀ b, s.val.ownBlock = some b → P b

/-- In blocks of a kind cells have become x; all others are as they were. -/
structure MStep (e : TypeId) (x : Value) (P : Nat → Prop) (w w' : World) : Prop where
  os : w'.os = w.os
  tape : w'.tape = w.tape
  output : w'.output = w.output
  size : w.heap.size ≤ w'.heap.size
  out : ∀ k, k < w.heap.size → ¬ P k → w'.heap[k]? = w.heap[k]?
  ins : ∀ (k : Nat) (cur : Array Value), P k → w.heap[k]? = some (.cells cur e (0, 0)) → ∃ cur', w'.heap[k]? = some (.cells cur' e (0, 0)) ∧ cur'.size = cur.size ∧ ∀ j : Nat, cur'[j]? = cur[j]? ∨ (j < cur.size ∧ cur'[j]? = some x)

theorem MStep.refl (e : TypeId) (x : Value) (P : Nat → Prop) (w : World) : MStep e x P w w :=
  ⟨rfl, rfl, rfl, Nat.le_refl _, fun _ _ _ => rfl, fun _ cur _ h => ⟨cur, h, rfl, fun _ => Or.inl rfl⟩⟩

theorem MStep.trans {e : TypeId} {x : Value} {P : Nat → Prop} {w a b : World} (h : MStep e x P w a) (k : MStep e x P a b) : MStep e x P w b := by
  refine ⟨k.os.trans h.os, k.tape.trans h.tape, k.output.trans h.output, Nat.le_trans h.size k.size, fun i hi hp => (k.out i (Nat.lt_of_lt_of_le hi h.size) hp).trans (h.out i hi hp), fun i cur hp hc => ?_⟩
  obtain ⟨c1, h1, h2, h3⟩ := h.ins i cur hp hc
  obtain ⟨c2, k1, k2, k3⟩ := k.ins i c1 hp h1
  refine ⟨c2, k1, k2.trans h2, fun j => ?_⟩
  rcases k3 j with g | ⟨g1, g2⟩
  · rcases h3 j with f | f
    · exact Or.inl (g.trans f)
    · exact Or.inr ⟨f.1, g.trans f.2⟩
  · exact Or.inr ⟨by omega, g2⟩

/-- Nothing that was there has turned. -/
theorem mstep_of_grown {e : TypeId} {x : Value} {P : Nat → Prop} {w w' : World} (h : w.grownBy w' none) : MStep e x P w w' :=
  ⟨h.os, h.tape, h.output, h.size, fun k hk _ => h.block k hk (by simp), fun k cur _ hc => ⟨cur, (h.block k (Array.getElem?_eq_some_iff.1 hc).1 (by simp)).trans hc, rfl, fun _ => Or.inl rfl⟩⟩

theorem MStep.alloc {e : TypeId} {x : Value} {P : Nat → Prop} {w a : World} (h : MStep e x P w a) (o : Obj) : MStep e x P w (a.alloc o) := h.trans (mstep_of_grown (World.grownBy_alloc a o none))

theorem mstep_setCell {e : TypeId} {x : Value} {P : Nat → Prop} (w : World) (g k : Nat) (cur : Array Value) (hb : w.heap[g]? = some (.cells cur e (0, 0))) (hp : P g) : MStep e x P w (w.setCell ⟨g, k, none⟩ x) := by
  refine ⟨rfl, rfl, rfl, by simp [World.setCell], fun i hi hn => Below.heap_setCell w _ _ i (fun e => hn (by rw [e]; exact hp)), fun i c hpi hc => ?_⟩
  by_cases hig : i = g
  · subst hig
    rw [hb] at hc
    obtain rfl : cur = c := by simpa using hc
    refine ⟨cur.setIfInBounds k x, heap_setCell_same w _ _ _ _ _ hb, by simp, fun j => ?_⟩
    rw [Array.getElem?_setIfInBounds]
    by_cases hj : k = j
    · subst hj
      by_cases hl : k < cur.size
      · right; simp [hl]
      · left; simp [hl]
    · left; rw [if_neg hj]
  · exact ⟨c, (Below.heap_setCell w _ _ i hig).trans hc, rfl, fun _ => Or.inl rfl⟩

/-- Marks stay marks. -/
theorem Marks.step {w w' : World} {e : TypeId} {x : Value} {P : Nat → Prop} {s : Sl} (h : Marks w e x P s) (k : MStep e x P w w') : Marks w' e x P s := by
  refine ⟨⟨h.row.1, ?_⟩, h.own⟩
  rcases h.row.2 with g | ⟨g, cap, cur, hv, h2, h3, h4, h5, h6, h7⟩
  · exact Or.inl g
  · obtain ⟨cur', k1, k2, k3⟩ := k.ins g cur (h.own g (by rw [hv]; rfl)) h3
    refine Or.inr ⟨g, cap, cur', hv, h2, k1, h4, h5, k2.trans h6, ?_⟩
    have hl : (cur'.toList.take (s.n * 1)).length = s.n := by rw [List.length_take, Array.length_toList, k2, h6]; omega
    apply List.ext_getElem?
    intro j
    by_cases hj : j < s.n
    · have hc : cur[j]? = some x := by
        have := congrArg (fun l => l[j]?) h7
        simp only [List.getElem?_take, Nat.mul_one, if_pos hj, Array.getElem?_toList, List.getElem?_replicate] at this
        exact this
      rw [List.getElem?_take, if_pos (by omega), Array.getElem?_toList, List.getElem?_replicate, if_pos hj]
      rcases k3 j with g | g
      · rw [g]; exact hc
      · exact g.2
    · rw [List.getElem?_eq_none (by rw [hl]; omega), List.getElem?_eq_none (by simp; omega)]

theorem Marks.same {w w' : World} {e : TypeId} {x : Value} {P : Nat → Prop} {s : Sl} (h : Marks w e x P s) (k : ∀ b, b < w.heap.size → P b → w'.heap[b]? = w.heap[b]?) : Marks w' e x P s := by
  refine ⟨⟨h.row.1, ?_⟩, h.own⟩
  rcases h.row.2 with g | ⟨g, cap, cur, hv, h2, h3, h4⟩
  · exact Or.inl g
  · exact Or.inr ⟨g, cap, cur, hv, h2, (k g (Array.getElem?_eq_some_iff.1 h3).1 (h.own g (by rw [hv]; rfl))).trans h3, h4⟩

theorem Marks.weaken {w : World} {e : TypeId} {x : Value} {P Q : Nat → Prop} {s : Sl} (h : Marks w e x P s) (k : ∀ b, s.val.ownBlock = some b → P b → Q b) : Marks w e x Q s := ⟨h.row, fun b hb => k b hb (h.own b hb)⟩

theorem rep_add {x : Value} (n m : Nat) : List.replicate n x ++ List.replicate m x = List.replicate (n + m) x := List.replicate_append_replicate

/-- Appending marks to marks. -/
theorem run_append_marks {P' : Program} (w : World) (t ty e : TypeId) (i : TypeInfo) (z : Value) (bytes : Nat) (ht : P'.underlying t = some (.slice e)) (hi : P'.info? e = some i) (hz : i.zero = some z)
    (hsize : i.size = 1) (hby : i.bytes = bytes) (hzs : z.cells.size = 1) (x : Value) (hx1 : x.oneCell' = true) (P : Nat → Prop) (s : Sl) (hm : Marks w e x P s) (hP : ∀ k, w.heap.size ≤ k → P k)
    (ad : Addr) (m c : Nat) (hnews : ∀ j u, (List.replicate m x)[j]? = some u → w.cell? (ad.add j) = some u) (hm0 : 0 < m) (h63 : s.n + m ≤ maxLen) (hbytes : (s.n + m) * bytes ≤ 140737488355328) :
    ∃ ao c' w', (Builtin.append_ #[t, t] ty #[s.val, .slice (some ad) m c]).run P' w = .ok (.slice ao (s.n + m) c') w' ∧ Marks w' e x P ⟨ao, s.n + m, c'⟩ ∧ MStep e x P w w' := by
  have h1 : ∀ u ∈ List.replicate m x, u.oneCell' = true := fun u hu => by rw [List.eq_of_mem_replicate hu]; exact hx1
  obtain ⟨g, cap, w', hr, ho, hg, hat, hlt⟩ := run_append_lies (P := P') w t ty 0 e i z 1 bytes ht hi hz hsize hby hzs (by decide) s.val s.n (List.replicate s.n x) hm.row ad m c (List.replicate m x) (by simp) hnews h1 hm0 h63 hbytes (Nat.zero_le _) w.heap.size rfl
  rw [rep_add] at ho
  have hown : P g := by
    rcases hat with e1 | e1
    · exact hm.own g e1
    · exact hP g (by omega)
  refine ⟨some ⟨g, 0, none⟩, cap, w', hr, ⟨ho, ?_⟩, ?_⟩
  · intro b hb
    have e1 : g = b := by simpa [Sl.val, Value.ownBlock] using hb
    rw [← e1]; exact hown
  rcases hm.row.2 with ⟨hv, _⟩ | ⟨b, cp, cur, hv, _, hb, hnc, hcm, hcs, htk⟩
  · rw [hv] at hg
    exact mstep_of_grown hg
  · have hpb : P b := hm.own b (by rw [hv]; rfl)
    rw [hv] at hr hg
    by_cases hroom : s.n + m ≤ cp
    · have hcell : ∀ j, w.cell? ⟨b, j, none⟩ = cur[j]? := fun j => cell_of_blk hb j
      have hr2 := run_append_room_cells (P := P') w t ty e i ht hi b 0 s.n cp ad m c (List.replicate m x) (by simp [hsize]) hnews h1 hroom (fun j hj => by
        rw [hcell, hsize, Array.getElem?_eq_getElem (by simp at hj; omega)]; rfl) (fun j hj => frozen_of_row w _ _ _ _ hb)
      rw [hr2] at hr
      simp only [Result.ok.injEq, Value.slice.injEq, Option.some.injEq, Addr.mk.injEq, and_true, true_and] at hr
      obtain ⟨⟨rfl, rfl⟩, hw'⟩ := hr
      obtain ⟨_, ⟨hv2, _⟩ | ⟨g2, cp2, cur2, hv2, _, hb2, hnc2, _, hcs2, _⟩⟩ := ho
      · cases hv2
      · simp only [Value.slice.injEq, Option.some.injEq, Addr.mk.injEq, and_true, true_and] at hv2
        obtain ⟨rfl, rfl⟩ := hv2
        refine ⟨hg.os, hg.tape, hg.output, hg.size, fun k hk hn => hg.block k hk (fun e1 => by
          have : k = b := by simpa [Value.ownBlock] using e1
          exact hn (by rw [this]; exact hpb)), fun k c0 hpk hc0 => ?_⟩
        by_cases hkb : k = b
        · subst hkb
          rw [hb] at hc0
          obtain rfl : cur = c0 := by simpa using hc0
          refine ⟨cur2, hb2, by omega, fun j => ?_⟩
          have hc2 : w'.cell? ⟨k, j, none⟩ = cur2[j]? := cell_of_blk hb2 j
          rw [← hc2, ← hw', hsize, Nat.mul_one, Nat.zero_add]
          by_cases hin : s.n ≤ j ∧ j < s.n + m
          · right
            refine ⟨by omega, ?_⟩
            have := World.cell?_setCells_in k (List.replicate m x) s.n w (fun j hj => by rw [hcell, Array.getElem?_eq_getElem (by simp at hj; omega)]; rfl) (j - s.n) (by simp; omega)
            rw [show s.n + (j - s.n) = j by omega] at this
            rw [this]; simp
          · left
            rw [World.cell?_setCells_out k (List.replicate m x) s.n w ⟨k, j, none⟩ (fun _ _ => by simp; omega), hcell]
        · exact ⟨c0, (hg.block k (Array.getElem?_eq_some_iff.1 hc0).1 (by simp [Value.ownBlock]; exact hkb)).trans hc0, rfl, fun _ => Or.inl rfl⟩
    · obtain ⟨v2, w2, hr2, _, hg2⟩ := run_append_arg_grows (P := P') w t ty e i z 1 bytes ht hi hz hsize hby hzs (by decide) ⟨b, 0, none⟩ s.n cp (List.replicate s.n x) (by simp) (fun j u hj => by
        rw [add_addr, Nat.zero_add, cell_of_blk hb]
        have hjn : j < s.n := by have := (List.getElem?_eq_some_iff.1 hj).1; simpa using this
        have := congrArg (fun l => l[j]?) htk
        simp only [List.getElem?_take, Nat.mul_one, if_pos hjn, Array.getElem?_toList] at this
        rw [this, hj]) ad m c (List.replicate m x) (by simp) hnews (by omega) h63 hbytes
      rw [hr2] at hr
      simp only [Result.ok.injEq] at hr
      obtain ⟨_, rfl⟩ := hr
      exact mstep_of_grown hg2

theorem wpList_append_marks {P' : Program} (w : World) {ops : Array Oper} {rest : List Oper} {o : Oper} {a : Act} {Q : Exit → Act → World → Prop} (hgd : o.guard = none) (so xo : Operand) (t : TypeId)
    (ho : o.op = .call { callee := .builtin .append, args := #[so, xo], argTypes := #[t, t] })
    (e : TypeId) (i : TypeInfo) (z : Value) (bytes : Nat) (ht : P'.underlying t = some (.slice e)) (hi : P'.info? e = some i) (hz : i.zero = some z)
    (hsize : i.size = 1) (hby : i.bytes = bytes) (hzs : z.cells.size = 1) (x : Value) (hx1 : x.oneCell' = true) (P : Nat → Prop) (s : Sl) (hs : a.eval so = s.val) (hm : Marks w e x P s) (hP : ∀ k, w.heap.size ≤ k → P k)
    (ad : Addr) (m c : Nat) (hx : a.eval xo = .slice (some ad) m c) (hnews : ∀ j u, (List.replicate m x)[j]? = some u → w.cell? (ad.add j) = some u) (hm0 : 0 < m) (h63 : s.n + m ≤ maxLen) (hbytes : (s.n + m) * bytes ≤ 140737488355328)
    (h : ∀ ao c' w', Marks w' e x P ⟨ao, s.n + m, c'⟩ → MStep e x P w w' → wpList P' ops Q rest (a.put o.dst (.slice ao (s.n + m) c')) w') : wpList P' ops Q (o :: rest) a w := by
  refine wpList_plain hgd fun K hK => ?_
  obtain ⟨ao, c', w', hr, h2, h3⟩ := run_append_marks w t o.type e i z bytes ht hi hz hsize hby hzs x hx1 P s hm hP ad m c hnews hm0 h63 hbytes
  unfold Oper.wp execOp
  simp only [ho, resolve, invoke, builtin, Sem.run_bind, Sem.run_pure, Result.andThen_ok, List.map_toArray, List.map_cons, List.map_nil, hs, hx, hr]
  exact hK _ _ (h ao c' w' h2 h3)
end Go.Proofs.YtibkhphbilfckaaGreatDoor


namespace Go.Proofs.YtibkhphbilfckaaGreatDoor
open Go.RowKit Scour Go.Lib

/-- What keeps leaves: the list and three more, all marked, in the row. -/
structure Kept4 (w w' : World) (bk o : Nat) (cs : Array Value) (ty rt et : Nat) (vr : Value) (E : List Sl) (s : Sl) (x : Value) (s1 s2 s3 : Sl) (vr' : Value) : Prop where
  blk : w'.heap[bk]? = some (.cells (cs.setIfInBounds o vr') ty (0, 0))
  row : w'.ownsRow 0 rt 1 vr' (E.length + 4) ((E ++ [s, s1, s2, s3]).map Sl.val)
  marks : ∀ t, t ∈ [s, s1, s2, s3] → Marks w' et x (fun b => s.val.ownBlock = some b ∨ w.heap.size ≤ b) t
  lens : ∀ t, t ∈ [s, s1, s2, s3] → t.n ≤ s.n + 3
  os : w'.os = w.os
  tape : w'.tape = w.tape
  output : w'.output = w.output
  size : w.heap.size ≤ w'.heap.size
  frame : ∀ k, k < w.heap.size → k ≠ bk → vr.ownBlock ≠ some k → s.val.ownBlock ≠ some k → w'.heap[k]? = w.heap[k]?
  lies : vr'.ownBlock = vr.ownBlock ∨ ∀ b, vr'.ownBlock = some b → w.heap.size ≤ b

theorem kept4_of {w w3 w' : World} {bk o : Nat} {cs : Array Value} {ty rt et : Nat} {vr vr' : Value} {E : List Sl} {s s1 s2 s3 : Sl} {x : Value} (hst : RowSt w3 w' bk o cs ty rt 1 vr vr' (E.length + 4) ((E ++ [s, s1, s2, s3]).map Sl.val)) (hms : MStep et x (fun b => s.val.ownBlock = some b ∨ w.heap.size ≤ b) w w3)
    (hbk : ¬ (s.val.ownBlock = some bk ∨ w.heap.size ≤ bk)) (hvr : ∀ b, vr.ownBlock = some b → ¬ (s.val.ownBlock = some b ∨ w.heap.size ≤ b))
    (h0 : Marks w3 et x (fun b => s.val.ownBlock = some b ∨ w.heap.size ≤ b) s) (h1 : Marks w3 et x (fun b => s.val.ownBlock = some b ∨ w.heap.size ≤ b) s1) (h2 : Marks w3 et x (fun b => s.val.ownBlock = some b ∨ w.heap.size ≤ b) s2) (h3 : Marks w3 et x (fun b => s.val.ownBlock = some b ∨ w.heap.size ≤ b) s3)
    (l1 : s1.n ≤ s.n + 3) (l2 : s2.n ≤ s.n + 3) (l3 : s3.n ≤ s.n + 3) : Kept4 w w' bk o cs ty rt et vr E s x s1 s2 s3 vr' := by
  have hsame : ∀ b, b < w3.heap.size → (s.val.ownBlock = some b ∨ w.heap.size ≤ b) → w'.heap[b]? = w3.heap[b]? := fun b hb hp => hst.frame b hb (fun e => hbk (by rw [← e]; exact hp)) (fun e => hvr b e hp)
  refine ⟨hst.blk, hst.row, ?_, ?_, hst.os.trans hms.os, hst.tape.trans hms.tape, hst.output.trans hms.output, Nat.le_trans hms.size hst.size, ?_, ?_⟩
  · intro t ht
    simp only [List.mem_cons, List.not_mem_nil, or_false] at ht
    rcases ht with rfl | rfl | rfl | rfl
    · exact h0.same hsame
    · exact h1.same hsame
    · exact h2.same hsame
    · exact h3.same hsame
  · intro t ht
    simp only [List.mem_cons, List.not_mem_nil, or_false] at ht
    rcases ht with rfl | rfl | rfl | rfl
    · omega
    · exact l1
    · exact l2
    · exact l3
  · intro k hk h1 h2 h3
    rw [hst.frame k (Nat.lt_of_lt_of_le hk hms.size) h1 h2]
    exact hms.out k hk (fun h => by rcases h with h | h; exact h3 h; omega)
  · rcases hst.lies with e | e
    · exact Or.inl e
    · exact Or.inr (fun b hb => Nat.le_trans hms.size (e b hb))

theorem rep_set (x : Value) (xs : List Value) (k : Nat) (h : k < xs.length) : (List.replicate k x ++ xs.drop k).set k x = List.replicate (k + 1) x ++ xs.drop (k + 1) := by
  rw [List.set_append_right _ _ (by simp)]
  simp only [List.length_replicate, Nat.sub_self]
  rw [List.drop_eq_getElem_cons h, List.set_cons_zero, List.replicate_succ', List.append_assoc]
  rfl

set_option maxHeartbeats 4000000 in
set_option maxRecDepth 100000 in
theorem keeps_any (bk : Nat) (cs : Array Value) (ty : Nat) (vby : Value) (E : List Sl) (s : Sl) (xs : List Value) (w : World) (hbk : w.heap[bk]? = some (.cells cs ty (0, 0))) (hcs : cs[2]? = some vby) (hty1 : ty ≠ 5) (hty2 : ty ≠ 27)
    (hby : w.ownsRow 0 27 1 vby E.length (E.map Sl.val)) (hs : w.ownsRow 0 5 1 s.val s.n xs) (hE : E.length < 1000000000000) (hsn : s.n < 1000000000000) :
    Calls Tryz.prog 64 #[.pointer (some ⟨bk, 2, none⟩), s.val] w fun e w' => e = .returned (.tuple #[]) ∧ ∃ s1 s2 s3 vby', Kept4 w w' bk 2 cs ty 27 5 vby E s (.int .u8 (markN E.length)) s1 s2 s3 vby' := by
  obtain ⟨i0, hi, hz0, hz1, hz2⟩ := info_parts Tryz.infoL
  obtain ⟨j0, hj, hy0, hy1, hy2⟩ := info_parts Tryz.infoB
  have hbl := (Array.getElem?_eq_some_iff.1 hbk).1
  have HPB : Hid (¬ (s.val.ownBlock = some bk ∨ w.heap.size ≤ bk)) := hide (by
    rintro (h | h)
    · obtain ⟨cur, hc⟩ := owns_block hs h; exact two_types hbk hc hty1 rfl
    · omega)
  have HPV : Hid (∀ b, vby.ownBlock = some b → ¬ (s.val.ownBlock = some b ∨ w.heap.size ≤ b)) := hide (by
    intro b hb
    obtain ⟨cur, hc⟩ := owns_block hby hb
    rintro (h | h)
    · obtain ⟨cur2, hc2⟩ := owns_block hs h; exact two_types hc hc2 (by decide) rfl
    · have := (Array.getElem?_eq_some_iff.1 hc).1; omega)
  have hcl : 2 < cs.size := (Array.getElem?_eq_some_iff.1 hcs).1
  obtain ⟨P, hP⟩ : ∃ P : Nat → Prop, P = fun b => s.val.ownBlock = some b ∨ w.heap.size ≤ b := ⟨_, rfl⟩
  have HPI : Hid (∀ b, P b ↔ (s.val.ownBlock = some b ∨ w.heap.size ≤ b)) := hide (fun b => by rw [hP])
  have HPE := hide hP
  clear hP
  have HSV := hide (show ∃ s' : Sl, s' = s from ⟨_, rfl⟩)
  obtain ⟨ao, n, c⟩ := s
  simp only [Sl.val] at *
  have c0 : w.cell? ⟨bk, 2, none⟩ = some vby := by rw [cell_of_blk hbk]; exact hcs
  have HBK := hide hbk
  have HBY := hide hby
  have HS := hide hs
  have HCS := hide hcs
  obtain ⟨aby, cby, hvby⟩ : ∃ aby cby, vby = .slice aby E.length cby := by
    rcases hby.2 with ⟨h, h0⟩ | ⟨g, cap, cur, h, _⟩
    · exact ⟨none, 0, by rw [h, h0]⟩
    · exact ⟨_, cap, h⟩
  subst hvby
  clear hbk hby hs hcs
  go_enter Tryz.func64, Tryz.ntmps64
  go_wp2_with (go_at_call 33; refine (mark_any _ _ (by omega)).mono ?_; rintro e w' ⟨rfl, hw⟩; have hw' := hw.symm; clear hw; subst hw')
  go_loopw [5] (fun v wr => ∃ k : Nat, v = .int .i64 k ∧ k ≤ n ∧ Hid (wr.ownsRow 0 5 1 (.slice ao n c) n (List.replicate k (.int .u8 (markN E.length)) ++ xs.drop k)) ∧ Hid (MStep 5 (.int .u8 (markN E.length)) P w wr)) (fun v _ => n - (intOf v).toNat)
  case atStart => exact ⟨0, rfl, Nat.zero_le _, HS, hide (MStep.refl _ _ _ _)⟩
  case round =>
    obtain ⟨k, rfl, hk, HR, HM⟩ := hrel
    have hxl : xs.length = n := by have := (unhide HS).1; omega
    by_cases hlt : k < n
    · obtain ⟨g, cg, hv, _, _⟩ := (unhide HR).form (by omega)
      obtain ⟨rfl, rfl⟩ : ao = some ⟨g, 0, none⟩ ∧ c = cg := by simpa using hv
      obtain ⟨cur, hcur⟩ := owns_blk (unhide HR)
      have c1 : ∃ u, wr.cell? ⟨g, k, none⟩ = some u := by
        rw [(unhide HR).cellAt k (by omega)]
        exact ⟨_, List.getElem?_eq_getElem (by simp; omega)⟩
      obtain ⟨u, c1⟩ := c1
      have f1 : wr.frozen? ⟨g, k, none⟩ = false := (unhide HR).frozenAt k
      have HR2 : Hid ((wr.setCell ⟨g, k, none⟩ (.int .u8 (markN E.length))).ownsRow 0 5 1 (.slice (some ⟨g, 0, none⟩) n c) n (List.replicate (k + 1) (.int .u8 (markN E.length)) ++ xs.drop (k + 1))) := hide (by
        have := ((unhide HR).stored k (.int .u8 (markN E.length))).1
        rw [rep_set (.int .u8 (markN E.length)) xs k (by omega)] at this
        exact this)
      have HM2 : Hid (MStep 5 (.int .u8 (markN E.length)) P w (wr.setCell ⟨g, k, none⟩ (.int .u8 (markN E.length)))) := hide ((unhide HM).trans (mstep_setCell wr g k cur hcur ((unhide HPI g).2 (Or.inl rfl))))
      have i1 : (k : Int) < (n : Int) := by omega
      clear hcur hv
      go_wp2
      go_roundw
      case rel => exact ⟨k + 1, by go_num, hlt, HR2, HM2⟩
      case measure => simp [intOf]; omega
    · obtain rfl : k = n := by omega
      have HM0 : Hid (Marks wr 5 (.int .u8 (markN E.length)) P ⟨ao, k, c⟩) := hide ⟨by
        have := unhide HR
        rw [List.drop_of_length_le (by omega), List.append_nil] at this
        exact this, fun b hb => (unhide HPI b).2 (Or.inl hb)⟩
      have hszr := (unhide HM).size
      have HNEW : Hid (∀ b, w.heap.size ≤ b → P b) := hide (fun b hb => (unhide HPI b).2 (Or.inr hb))
      have i1 : ¬ (k : Int) < (k : Int) := by omega
      have HSTART : Hid (∀ W, MStep 5 (.int .u8 (markN E.length)) P w W → RowSt W W bk 2 cs ty 27 1 (.slice aby E.length cby) (.slice aby E.length cby) E.length (E.map Sl.val)) := hide (fun W hW => by
        refine RowSt.start ((hW.out bk hbl (fun h => unhide HPB ((unhide HPI bk).1 h))).trans (unhide HBK)) (unhide HCS) ?_
        have hby := unhide HBY
        refine ⟨hby.1, ?_⟩
        rcases hby.2 with g | ⟨g, cap, cur, hv, h2, h3, h4⟩
        · exact Or.inl g
        · exact Or.inr ⟨g, cap, cur, hv, h2, (hW.out g (Array.getElem?_eq_some_iff.1 h3).1 (fun h => unhide HPV g (by rw [hv]; rfl) ((unhide HPI g).1 h))).trans h3, h4⟩)
      go_wp2_with (first | (at_builtin; refine wpList_append_marks _ rfl (.tmp 25) (.tmp 27) 27 rfl 5 j0 (.int .u8 0) 1 Tryz.underlying27 hj hy0 hy1 hy2 rfl (.int .u8 (markN E.length)) rfl P ⟨ao, k, c⟩ rfl ((unhide HM0).step ((MStep.refl _ _ _ _).alloc _)) (fun b hb => unhide HNEW b (by simp at hb; omega)) ⟨wr.heap.size, 0, none⟩ 1 1 rfl (World.news_of_block (heap_alloc_new wr _)) (by decide) (by simp only [maxLen]; omega) (by simp only []; omega) ?_; intro ao1 cc1 w1 m1 st1; have hz1' := st1.size; simp only [World.alloc, Array.size_push] at hz1'; have ST1 := (MStep.refl 5 (.int .u8 (markN E.length)) P wr).alloc (.cells #[(.int .u8 (markN E.length))] 5); have HM01 := hide (((unhide HM0).step ST1).step st1); have HM11 := hide m1; have HW1 := hide (((unhide HM).trans ST1).trans st1); clear m1 st1 ST1) | (at_builtin; refine wpList_append_marks _ rfl (.tmp 29) (.tmp 32) 27 rfl 5 j0 (.int .u8 0) 1 Tryz.underlying27 hj hy0 hy1 hy2 rfl (.int .u8 (markN E.length)) rfl P ⟨ao, k, c⟩ rfl ((unhide HM01).step ((MStep.refl _ _ _ _).alloc _)) (fun b hb => unhide HNEW b (by simp at hb; omega)) ⟨w1.heap.size, 0, none⟩ 2 2 rfl (World.news_of_block (heap_alloc_new w1 _)) (by decide) (by simp only [maxLen]; omega) (by simp only []; omega) ?_; intro ao2 cc2 w2 m2 st2; have hz2' := st2.size; simp only [World.alloc, Array.size_push] at hz2'; have ST2 := (MStep.refl 5 (.int .u8 (markN E.length)) P w1).alloc (.cells #[(.int .u8 (markN E.length)), (.int .u8 (markN E.length))] 5); have HM02 := hide (((unhide HM01).step ST2).step st2); have HM12 := hide (((unhide HM11).step ST2).step st2); have HM22 := hide m2; have HW2 := hide (((unhide HW1).trans ST2).trans st2); clear m2 st2 ST2) | (at_builtin; refine wpList_append_marks _ rfl (.tmp 34) (.tmp 38) 27 rfl 5 j0 (.int .u8 0) 1 Tryz.underlying27 hj hy0 hy1 hy2 rfl (.int .u8 (markN E.length)) rfl P ⟨ao, k, c⟩ rfl ((unhide HM02).step ((MStep.refl _ _ _ _).alloc _)) (fun b hb => unhide HNEW b (by simp at hb; omega)) ⟨w2.heap.size, 0, none⟩ 3 3 rfl (World.news_of_block (heap_alloc_new w2 _)) (by decide) (by simp only [maxLen]; omega) (by simp only []; omega) ?_; intro ao3 cc3 w3 m3 st3; have hz3' := st3.size; simp only [World.alloc, Array.size_push] at hz3'; have ST3 := (MStep.refl 5 (.int .u8 (markN E.length)) P w2).alloc (.cells #[(.int .u8 (markN E.length)), (.int .u8 (markN E.length)), (.int .u8 (markN E.length))] 5); have HM03 := hide (((unhide HM02).step ST3).step st3); have HM13 := hide (((unhide HM12).step ST3).step st3); have HM23 := hide (((unhide HM22).step ST3).step st3); have HM33 := hide m3; have HW3 := hide (((unhide HW2).trans ST3).trans st3); clear m3 st3 ST3; have HR3 := hide (unhide HSTART w3 (unhide HW3)); have c3 := (unhide HR3).cell hcl) | (at_builtin; refine wpList_append_lies _ rfl (.tmp 44) (.tmp 46) 30 rfl 0 27 i0 (.slice none 0 0) 1 24 Tryz.underlying30 hi hz0 hz1 hz2 rfl (by decide) _ (E.length) (E.map Sl.val) rfl ((unhide HR3).ready #[.slice ao k c] w3.heap.size rfl).1 ⟨w3.heap.size, 0, none⟩ 1 1 [.slice ao k c] rfl rfl ((unhide HR3).ready #[.slice ao k c] w3.heap.size rfl).2 (by intro u hu; simp at hu; subst hu; rfl) (by omega) (by unfold maxLen; omega) (by omega) (Nat.zero_le _) (w3.heap.size + 1) (by simp) ?_; intro g4 cg4 w4 ho4 hg4 hat4 hl4; obtain ⟨c4, f4⟩ := (unhide HR3).behind hty2 hcl _ hg4; have HR4 := hide ((unhide HR3).step hty2 #[.slice ao k c] w3.heap.size rfl ho4 hg4 hat4); have d4 := (unhide HR4).cell hcl; clear ho4 hg4 hat4 hl4) | (at_builtin; refine wpList_append_lies _ rfl (.tmp 54) (.tmp 56) 30 rfl 0 27 i0 (.slice none 0 0) 1 24 Tryz.underlying30 hi hz0 hz1 hz2 rfl (by decide) _ (E.length + 1) _ rfl ((unhide HR4).ready #[.slice ao1 (k + 1) cc1] w4.heap.size (by simp [World.setCell])).1 ⟨w4.heap.size, 0, none⟩ 1 1 [.slice ao1 (k + 1) cc1] rfl rfl ((unhide HR4).ready #[.slice ao1 (k + 1) cc1] w4.heap.size (by simp [World.setCell])).2 (by intro u hu; simp at hu; subst hu; rfl) (by omega) (by unfold maxLen; omega) (by omega) (Nat.zero_le _) (w4.heap.size + 1) (by simp [World.setCell]) ?_; intro g5 cg5 w5 ho5 hg5 hat5 hl5; obtain ⟨c5, f5⟩ := (unhide HR4).behind hty2 hcl _ hg5; have HR5 := hide ((unhide HR4).step hty2 #[.slice ao1 (k + 1) cc1] w4.heap.size (by simp [World.setCell]) ho5 hg5 hat5); have d5 := (unhide HR5).cell hcl; clear ho5 hg5 hat5 hl5) | (at_builtin; refine wpList_append_lies _ rfl (.tmp 64) (.tmp 66) 30 rfl 0 27 i0 (.slice none 0 0) 1 24 Tryz.underlying30 hi hz0 hz1 hz2 rfl (by decide) _ (E.length + 1 + 1) _ rfl ((unhide HR5).ready #[.slice ao2 (k + 2) cc2] w5.heap.size (by simp [World.setCell])).1 ⟨w5.heap.size, 0, none⟩ 1 1 [.slice ao2 (k + 2) cc2] rfl rfl ((unhide HR5).ready #[.slice ao2 (k + 2) cc2] w5.heap.size (by simp [World.setCell])).2 (by intro u hu; simp at hu; subst hu; rfl) (by omega) (by unfold maxLen; omega) (by omega) (Nat.zero_le _) (w5.heap.size + 1) (by simp [World.setCell]) ?_; intro g6 cg6 w6 ho6 hg6 hat6 hl6; obtain ⟨c6, f6⟩ := (unhide HR5).behind hty2 hcl _ hg6; have HR6 := hide ((unhide HR5).step hty2 #[.slice ao2 (k + 2) cc2] w5.heap.size (by simp [World.setCell]) ho6 hg6 hat6); have d6 := (unhide HR6).cell hcl; clear ho6 hg6 hat6 hl6) | (at_builtin; refine wpList_append_lies _ rfl (.tmp 74) (.tmp 76) 30 rfl 0 27 i0 (.slice none 0 0) 1 24 Tryz.underlying30 hi hz0 hz1 hz2 rfl (by decide) _ (E.length + 1 + 1 + 1) _ rfl ((unhide HR6).ready #[.slice ao3 (k + 3) cc3] w6.heap.size (by simp [World.setCell])).1 ⟨w6.heap.size, 0, none⟩ 1 1 [.slice ao3 (k + 3) cc3] rfl rfl ((unhide HR6).ready #[.slice ao3 (k + 3) cc3] w6.heap.size (by simp [World.setCell])).2 (by intro u hu; simp at hu; subst hu; rfl) (by omega) (by unfold maxLen; omega) (by omega) (Nat.zero_le _) (w6.heap.size + 1) (by simp [World.setCell]) ?_; intro g7 cg7 w7 ho7 hg7 hat7 hl7; obtain ⟨c7, f7⟩ := (unhide HR6).behind hty2 hcl _ hg7; have HR7 := hide ((unhide HR6).step hty2 #[.slice ao3 (k + 3) cc3] w6.heap.size (by simp [World.setCell]) ho7 hg7 hat7); have d7 := (unhide HR7).cell hcl; clear ho7 hg7 hat7 hl7))
      go_end0
      refine ⟨rfl, ⟨ao1, k + 1, cc1⟩, ⟨ao2, k + 2, cc2⟩, ⟨ao3, k + 3, cc3⟩, .slice (some ⟨g7, 0, none⟩) (E.length + 4) cg7, ?_⟩
      have hst := unhide HR7
      have hpe := unhide HPE
      have hw3 := unhide HW3
      have m0 := unhide HM03
      have m1 := unhide HM13
      have m2 := unhide HM23
      have m3 := unhide HM33
      subst hpe
      refine kept4_of ?_ hw3 (unhide HPB) (unhide HPV) m0 m1 m2 m3 (by simp) (by simp) (by simp)
      rw [List.map_append]
      simp only [List.append_assoc] at hst
      exact hst
end Go.Proofs.YtibkhphbilfckaaGreatDoor

namespace Go.Proofs.YtibkhphbilfckaaGreatDoor
open Go.RowKit Scour Go.Lib

/-- A machine of the program, and the document's: blocks, patterns, states. -/
structure Ent where
  bm : Nat
  br : Nat
  ps : List Str
  S : List Str

/-- Both lie in memory, in blocks of the tag 1. -/
structure EntOK (w : World) (T : Nat → Nat) (e : Ent) : Prop where
  mach : ∃ bt be g, Mach w e.bm bt be g e.ps e.S ∧ T e.bm = 1 ∧ T bt = 1 ∧ T be = 1 ∧ ∀ k, k ∈ g → T k = 1
  rmach : ∃ vL gS cS, RMach w e.br vL gS cS e.ps e.S ∧ T e.br = 1 ∧ T gS = 1 ∧ ∀ b, vL.ownBlock = some b → T b = 1
  ok : (chk e.ps).1 = 0

theorem RMach.same {w w' : World} {br gS cS : Nat} {vL : Value} {ps S : List Str} (h : RMach w br vL gS cS ps S) (hb : ∀ k, k < w.heap.size → (k = br ∨ k = gS ∨ vL.ownBlock = some k) → w'.heap[k]? = w.heap[k]?) : RMach w' br vL gS cS ps S :=
  ⟨(hb br (Array.getElem?_eq_some_iff.1 h.blk).1 (Or.inl rfl)).trans h.blk, owns_kept h.lrow (fun b hl hv => hb b hl (Or.inr (Or.inr hv))), owns_kept h.srow (fun b hl hv => hb b hl (Or.inr (Or.inl (by simpa [Value.ownBlock] using hv.symm)))), h.sorted, h.pos, h.head, h.closed, h.len⟩

theorem EntOK.same {w w' : World} {T T' : Nat → Nat} {e : Ent} (h : EntOK w T e) (hs : w.heap.size ≤ w'.heap.size) (hk : ∀ k, k < w.heap.size → T k = 1 → w'.heap[k]? = w.heap[k]?) (hT : ∀ k, k < w.heap.size → T k = 1 → T' k = 1) : EntOK w' T' e := by
  obtain ⟨bt, be, g, hM, t1, t2, t3, t4⟩ := h.mach
  obtain ⟨vL, gS, cS, hR, r1, r2, r3⟩ := h.rmach
  obtain ⟨l1, l2, l3, l4⟩ := hM.lts
  have lbr := (Array.getElem?_eq_some_iff.1 hR.blk).1
  obtain ⟨cur, hcur⟩ := owns_blk hR.srow
  have lgS := (Array.getElem?_eq_some_iff.1 hcur).1
  refine ⟨⟨bt, be, g, hM.same hs ?_, hT _ l1 t1, hT _ l2 t2, hT _ l3 t3, fun k hk => hT k (l4 k hk) (t4 k hk)⟩, ⟨vL, gS, cS, hR.same ?_, hT _ lbr r1, hT _ lgS r2, ?_⟩, h.ok⟩
  · rintro k (rfl | rfl | rfl | hg)
    · exact hk _ l1 t1
    · exact hk _ l2 t2
    · exact hk _ l3 t3
    · exact hk _ (l4 k hg) (t4 k hg)
  · rintro k hl (rfl | rfl | hv)
    · exact hk _ hl r1
    · exact hk _ hl r2
    · exact hk _ hl (r3 k hv)
  · intro b hb
    obtain ⟨cur, hc⟩ := owns_block hR.lrow hb
    exact hT b (Array.getElem?_eq_some_iff.1 hc).1 (r3 b hb)

/-- The rows of the book: lists that came out, in groups of four, each group in blocks of a tag of its own. -/
structure BookOK (w : World) (T : Nat → Nat) (rt et tr : Nat) (tg : Nat → Nat) (x : Nat → Value) (v : Value) (E : List Sl) : Prop where
  row : w.ownsRow 0 rt 1 v E.length (E.map Sl.val)
  own : ∀ b, v.ownBlock = some b → T b = tr
  each : ∀ i s, E[i]? = some s → Marks w et (x i) (fun b => T b = tg i) s
  four : E.length % 4 = 0
  lens : ∀ s, s ∈ E → s.n < 1000000000

theorem BookOK.same {w w' : World} {T T' : Nat → Nat} {rt et tr : Nat} {tg : Nat → Nat} {x : Nat → Value} {v : Value} {E : List Sl} (h : BookOK w T rt et tr tg x v E) (hk : ∀ k, k < w.heap.size → (T k = tr ∨ ∃ i, T k = tg i) → w'.heap[k]? = w.heap[k]?) (hT : ∀ k, k < w.heap.size → (T k = tr ∨ ∃ i, T k = tg i) → T' k = T k) : BookOK w' T' rt et tr tg x v E := by
  refine ⟨owns_kept h.row (fun b hl hv => hk b hl (Or.inl (h.own b hv))), fun b hb => ?_, fun i s hs => ?_, h.four, h.lens⟩
  · obtain ⟨cur, hc⟩ := owns_block h.row hb
    rw [hT b (Array.getElem?_eq_some_iff.1 hc).1 (Or.inl (h.own b hb))]; exact h.own b hb
  · have hm := h.each i s hs
    have hm2 := hm.same (w' := w') (fun b hl hp => hk b hl (Or.inr ⟨i, hp⟩))
    refine hm2.weaken (fun b hb hp => ?_)
    obtain ⟨cur, hc⟩ := owns_block hm.row hb
    rw [hT b (Array.getElem?_eq_some_iff.1 hc).1 (Or.inr ⟨i, hp⟩)]; exact hp

def bx (i : Nat) : Value := .int .u8 (markN i)
def lxs (mb : Nat → Nat) (i : Nat) : Value := .slice (some ⟨mb (i / 4), 0, none⟩) (1 + i / 4) (1 + i / 4)
def btag (i : Nat) : Nat := 10 + 2 * (i / 4)
def ltag (i : Nat) : Nat := 11 + 2 * (i / 4)
def pairCells (M : List Ent) : List Value := M.flatMap fun e => [.pointer (some ⟨e.bm, 0, none⟩), .pointer (some ⟨e.br, 0, none⟩)]

/-- All that a script has made. T: which structure a block belongs to: 0 what was there ahead of it, 1 machines, 2 the struct itself, 3 the row of machines, 4, 5 the book's two rows, 9 nothing's, from 10 on the book's groups. -/
structure LW (w : World) (bw : Nat) (T : Nat → Nat) (M : List Ent) (vms vby vli : Value) (E F : List Sl) (mb : Nat → Nat) : Prop where
  blk : w.heap[bw]? = some (.cells #[vms, .slice none 0 0, vby, vli, .slice none 0 0] 51 (0, 0))
  tbw : T bw = 2
  ms : w.ownsRow 0 83 2 vms M.length (pairCells M)
  msown : ∀ b, vms.ownBlock = some b → T b = 3
  ents : ∀ e, e ∈ M → EntOK w T e
  bytes : BookOK w T 27 5 4 btag bx vby E
  lists : BookOK w T 30 27 5 ltag (lxs mb) vli F
  fresh : ∀ k, w.heap.size ≤ k → T k = 9

/-- What turns free blocks alone turns nothing of it. -/
theorem LW.kept {w w' : World} {bw : Nat} {T : Nat → Nat} {M : List Ent} {vms vby vli : Value} {E F : List Sl} {mb : Nat → Nat} (h : LW w bw T M vms vby vli E F mb) (hs : w.heap.size ≤ w'.heap.size) (hk : ∀ k, k < w.heap.size → T k ≠ 9 → w'.heap[k]? = w.heap[k]?) : LW w' bw T M vms vby vli E F mb := by
  have hbl := (Array.getElem?_eq_some_iff.1 h.blk).1
  refine ⟨(hk bw hbl (by rw [h.tbw]; decide)).trans h.blk, h.tbw, owns_kept h.ms (fun b hl hv => hk b hl (by rw [h.msown b hv]; decide)), h.msown, fun e he => (h.ents e he).same hs (fun k hl ht => hk k hl (by rw [ht]; decide)) (fun _ _ ht => ht), ?_, ?_, fun k hl => h.fresh k (by omega)⟩
  · exact h.bytes.same (fun k hl ht => hk k hl (by rcases ht with ht | ⟨i, ht⟩ <;> rw [ht]; decide; unfold btag; omega)) (fun _ _ _ => rfl)
  · exact h.lists.same (fun k hl ht => hk k hl (by rcases ht with ht | ⟨i, ht⟩ <;> rw [ht]; decide; unfold ltag; omega)) (fun _ _ _ => rfl)

theorem LW.below {w w' : World} {bw : Nat} {T : Nat → Nat} {M : List Ent} {vms vby vli : Value} {E F : List Sl} {mb : Nat → Nat} (h : LW w bw T M vms vby vli E F mb) (hb : Below w.heap.size w w') : LW w' bw T M vms vby vli E F mb := h.kept hb.size (fun k hl _ => hb.block k hl)

theorem div4 {n j : Nat} (h : n % 4 = 0) (hj : j < 4) : (n + j) / 4 = n / 4 := by omega

/-- One group more. -/
theorem BookOK.more {w w' : World} {T : Nat → Nat} {rt et tr bk o ty : Nat} {cs : Array Value} {tg : Nat → Nat} {x : Nat → Value} {v v' : Value} {E : List Sl} {s s1 s2 s3 : Sl} (h : BookOK w T rt et tr tg x v E) (hK : Kept4 w w' bk o cs ty rt et v E s (x E.length) s1 s2 s3 v') (T' : Nat → Nat)
    (hT : ∀ k, k < w.heap.size → (T k = tr ∨ ∃ i, T k = tg i) → T' k = T k) (hx : ∀ j, j < 4 → x (E.length + j) = x E.length) (htg : ∀ j, j < 4 → tg (E.length + j) = tg E.length)
    (hs9 : ∀ b, s.val.ownBlock = some b → ∀ i, T b ≠ tg i) (hbk : ∀ i, T bk ≠ tg i) (htr : ∀ i, tr ≠ tg i) (hsn : s.n + 3 < 1000000000)
    (hv' : ∀ b, v'.ownBlock = some b → T' b = tr) (hgr : ∀ b t, t ∈ [s, s1, s2, s3] → t.val.ownBlock = some b → T' b = tg E.length) : BookOK w' T' rt et tr tg x v' (E ++ [s, s1, s2, s3]) := by
  refine ⟨?_, hv', ?_, ?_, ?_⟩
  · have := hK.row
    rw [show (E ++ [s, s1, s2, s3]).length = E.length + 4 by simp]
    exact this
  · intro i t ht
    by_cases hi : i < E.length
    · rw [List.getElem?_append_left hi] at ht
      have hm := h.each i t ht
      have hm2 := hm.same (w' := w') (fun b hl hp => hK.frame b hl (fun e => hbk i (by rw [← e]; exact hp)) (fun e => htr i (by rw [← h.own b e]; exact hp)) (fun e => hs9 b e i hp))
      refine hm2.weaken (fun b hb hp => ?_)
      obtain ⟨cur, hc⟩ := owns_block hm.row hb
      rw [hT b (Array.getElem?_eq_some_iff.1 hc).1 (Or.inr ⟨i, hp⟩)]; exact hp
    · rw [List.getElem?_append_right (by omega)] at ht
      have hj := (List.getElem?_eq_some_iff.1 ht).1
      simp only [List.length_cons, List.length_nil] at hj
      have hmem : t ∈ [s, s1, s2, s3] := List.mem_of_getElem? ht
      have hi4 : i = E.length + (i - E.length) := by omega
      rw [hi4, hx _ (by omega)]
      refine (hK.marks t hmem).weaken (fun b hb _ => ?_)
      rw [htg _ (by omega)]
      exact hgr b t hmem hb
  · have := h.four
    simp; omega
  · intro t ht
    rcases List.mem_append.1 ht with h1 | h1
    · exact h.lens t h1
    · have := hK.lens t h1; omega

theorem btag_ne {i t : Nat} (h : t < 10 ∨ t % 2 = 1) : t ≠ btag i := by unfold btag; omega
theorem ltag_ne {i t : Nat} (h : t < 10 ∨ t % 2 = 0) : t ≠ ltag i := by unfold ltag; omega

/-- The tags behind a group. -/
def tagsN (T : Nat → Nat) (w w' : World) (s : Sl) (v' : Value) (tr tg : Nat) : Nat → Nat := fun k =>
  if k < w.heap.size then (if s.val.ownBlock = some k then tg else T k) else if v'.ownBlock = some k then tr else if k < w'.heap.size then tg else 9

theorem tagsN_old {T : Nat → Nat} {w w' : World} {s : Sl} {v' : Value} {tr tg k : Nat} (hk : k < w.heap.size) (hs : s.val.ownBlock ≠ some k) : tagsN T w w' s v' tr tg k = T k := by
  unfold tagsN; rw [if_pos hk, if_neg hs]

/-- One group of bytes more. -/
theorem LW.keeps {w w' : World} {bw : Nat} {T : Nat → Nat} {M : List Ent} {vms vby vli vby' : Value} {E F : List Sl} {mb : Nat → Nat} {s s1 s2 s3 : Sl} (h : LW w bw T M vms vby vli E F mb) (hK : Kept4 w w' bw 2 #[vms, .slice none 0 0, vby, vli, .slice none 0 0] 51 27 5 vby E s (bx E.length) s1 s2 s3 vby')
    (hs9 : ∀ b, s.val.ownBlock = some b → T b = 9 ∧ b < w.heap.size) (hsn : s.n + 3 < 1000000000) :
    LW w' bw (tagsN T w w' s vby' 4 (btag E.length)) M vms vby' vli (E ++ [s, s1, s2, s3]) F mb := by
  have hbl := (Array.getElem?_eq_some_iff.1 h.blk).1
  have hsz := hK.size
  have hne9 : ∀ k, T k ≠ 9 → s.val.ownBlock ≠ some k := fun k hk e => hk (hs9 k e).1
  have hold : ∀ k, k < w.heap.size → T k ≠ 9 → T k ≠ 2 → T k ≠ 4 → w'.heap[k]? = w.heap[k]? := fun k hl h9 h2 h4 => hK.frame k hl (fun e => h2 (by rw [e]; exact h.tbw)) (fun e => h4 (h.bytes.own k e)) (hne9 k h9)
  have hTo : ∀ k, k < w.heap.size → T k ≠ 9 → tagsN T w w' s vby' 4 (btag E.length) k = T k := fun k hl h9 => tagsN_old hl (hne9 k h9)
  have hf := h.bytes.four
  refine ⟨?_, ?_, ?_, ?_, ?_, ?_, ?_, ?_⟩
  · exact hK.blk
  · rw [hTo bw hbl (by rw [h.tbw]; decide)]; exact h.tbw
  · exact owns_kept h.ms (fun b hl hv => hold b hl (by rw [h.msown b hv]; decide) (by rw [h.msown b hv]; decide) (by rw [h.msown b hv]; decide))
  · intro b hb
    obtain ⟨cur, hc⟩ := owns_block h.ms hb
    rw [hTo b (Array.getElem?_eq_some_iff.1 hc).1 (by rw [h.msown b hb]; decide)]; exact h.msown b hb
  · exact fun e he => (h.ents e he).same hsz (fun k hl ht => hold k hl (by rw [ht]; decide) (by rw [ht]; decide) (by rw [ht]; decide)) (fun k hl ht => by rw [hTo k hl (by rw [ht]; decide)]; exact ht)
  · refine h.bytes.more hK _ ?_ ?_ ?_ ?_ ?_ ?_ hsn ?_ ?_
    · intro k hl ht
      refine hTo k hl ?_
      rcases ht with ht | ⟨i, ht⟩ <;> rw [ht]
      · decide
      · exact fun e => btag_ne (i := i) (t := 9) (by omega) e.symm
    · intro j hj; unfold bx markN; rw [div4 hf hj]
    · intro j hj; unfold btag; rw [div4 hf hj]
    · intro b hb i; rw [(hs9 b hb).1]; exact btag_ne (by omega)
    · intro i; rw [h.tbw]; exact btag_ne (by omega)
    · intro i; exact btag_ne (by omega)
    · intro b hb
      rcases hK.lies with e | e
      · have h4 := h.bytes.own b (e ▸ hb)
        obtain ⟨cur, hc⟩ := owns_block h.bytes.row (e ▸ hb)
        rw [hTo b (Array.getElem?_eq_some_iff.1 hc).1 (by rw [h4]; decide)]; exact h4
      · have := e b hb
        unfold tagsN
        rw [if_neg (by omega), if_pos hb]
    · intro b t ht hb
      have hm := hK.marks t ht
      obtain ⟨cur, hc⟩ := owns_block hm.row hb
      have hlb := (Array.getElem?_eq_some_iff.1 hc).1
      rcases hm.own b hb with e | e
      · unfold tagsN
        rw [if_pos (hs9 b e).2, if_pos e]
      · unfold tagsN
        rw [if_neg (by omega), if_neg (fun e2 => ?_), if_pos hlb]
        obtain ⟨cur2, hc2⟩ := owns_block hK.row e2
        exact two_types hc2 hc (by decide) rfl
  · refine h.lists.same (fun k hl ht => ?_) (fun k hl ht => ?_)
    · refine hold k hl ?_ ?_ ?_ <;> rcases ht with ht | ⟨i, ht⟩ <;> rw [ht] <;> first | decide | (unfold ltag; omega)
    · refine hTo k hl ?_
      rcases ht with ht | ⟨i, ht⟩ <;> rw [ht] <;> first | decide | (unfold ltag; omega)
  · intro k hl
    have hv : vby'.ownBlock ≠ some k := fun e => by
      obtain ⟨cur, hc⟩ := owns_block hK.row e
      have := (Array.getElem?_eq_some_iff.1 hc).1
      omega
    unfold tagsN
    rw [if_neg (by omega), if_neg hv, if_neg (by omega)]

/-- One group of lists more. -/
theorem LW.keepsL {w w' : World} {bw bm : Nat} {T : Nat → Nat} {M : List Ent} {vms vby vli vli' : Value} {E F : List Sl} {mb : Nat → Nat} {s s1 s2 s3 : Sl} (h : LW w bw T M vms vby vli E F mb) (hK : Kept4 w w' bw 3 #[vms, .slice none 0 0, vby, vli, .slice none 0 0] 51 30 27 vli F s (.slice (some ⟨bm, 0, none⟩) (1 + F.length / 4) (1 + F.length / 4)) s1 s2 s3 vli')
    (hs9 : ∀ b, s.val.ownBlock = some b → T b = 9 ∧ b < w.heap.size) (hsn : s.n + 3 < 1000000000) :
    LW w' bw (tagsN T w w' s vli' 5 (ltag F.length)) M vms vby vli' E (F ++ [s, s1, s2, s3]) (updN mb (F.length / 4) bm) := by
  have hbl := (Array.getElem?_eq_some_iff.1 h.blk).1
  have hsz := hK.size
  have hne9 : ∀ k, T k ≠ 9 → s.val.ownBlock ≠ some k := fun k hk e => hk (hs9 k e).1
  have hold : ∀ k, k < w.heap.size → T k ≠ 9 → T k ≠ 2 → T k ≠ 5 → w'.heap[k]? = w.heap[k]? := fun k hl h9 h2 h4 => hK.frame k hl (fun e => h2 (by rw [e]; exact h.tbw)) (fun e => h4 (h.lists.own k e)) (hne9 k h9)
  have hTo : ∀ k, k < w.heap.size → T k ≠ 9 → tagsN T w w' s vli' 5 (ltag F.length) k = T k := fun k hl h9 => tagsN_old hl (hne9 k h9)
  have hf := h.lists.four
  have hx0 : lxs (updN mb (F.length / 4) bm) F.length = .slice (some ⟨bm, 0, none⟩) (1 + F.length / 4) (1 + F.length / 4) := by unfold lxs updN; rw [if_pos rfl]
  have hlist : BookOK w T 30 27 5 ltag (lxs (updN mb (F.length / 4) bm)) vli F := ⟨h.lists.row, h.lists.own, fun i t ht => by
    have hi := (List.getElem?_eq_some_iff.1 ht).1
    have e : lxs (updN mb (F.length / 4) bm) i = lxs mb i := by unfold lxs updN; rw [if_neg (by omega)]
    rw [e]; exact h.lists.each i t ht, h.lists.four, h.lists.lens⟩
  refine ⟨?_, ?_, ?_, ?_, ?_, ?_, ?_, ?_⟩
  · exact hK.blk
  · rw [hTo bw hbl (by rw [h.tbw]; decide)]; exact h.tbw
  · exact owns_kept h.ms (fun b hl hv => hold b hl (by rw [h.msown b hv]; decide) (by rw [h.msown b hv]; decide) (by rw [h.msown b hv]; decide))
  · intro b hb
    obtain ⟨cur, hc⟩ := owns_block h.ms hb
    rw [hTo b (Array.getElem?_eq_some_iff.1 hc).1 (by rw [h.msown b hb]; decide)]; exact h.msown b hb
  · exact fun e he => (h.ents e he).same hsz (fun k hl ht => hold k hl (by rw [ht]; decide) (by rw [ht]; decide) (by rw [ht]; decide)) (fun k hl ht => by rw [hTo k hl (by rw [ht]; decide)]; exact ht)
  · refine h.bytes.same (fun k hl ht => ?_) (fun k hl ht => ?_)
    · refine hold k hl ?_ ?_ ?_ <;> rcases ht with ht | ⟨i, ht⟩ <;> rw [ht] <;> first | decide | (unfold btag; omega)
    · refine hTo k hl ?_
      rcases ht with ht | ⟨i, ht⟩ <;> rw [ht] <;> first | decide | (unfold btag; omega)
  · refine hlist.more (hx0.symm ▸ hK) _ ?_ ?_ ?_ ?_ ?_ ?_ hsn ?_ ?_
    · intro k hl ht
      refine hTo k hl ?_
      rcases ht with ht | ⟨i, ht⟩ <;> rw [ht]
      · decide
      · exact fun e => ltag_ne (i := i) (t := 9) (by omega) e.symm
    · intro j hj; unfold lxs; rw [div4 hf hj]
    · intro j hj; unfold ltag; rw [div4 hf hj]
    · intro b hb i; rw [(hs9 b hb).1]; exact ltag_ne (by omega)
    · intro i; rw [h.tbw]; exact ltag_ne (by omega)
    · intro i; exact ltag_ne (by omega)
    · intro b hb
      rcases hK.lies with e | e
      · have h4 := h.lists.own b (e ▸ hb)
        obtain ⟨cur, hc⟩ := owns_block h.lists.row (e ▸ hb)
        rw [hTo b (Array.getElem?_eq_some_iff.1 hc).1 (by rw [h4]; decide)]; exact h4
      · have := e b hb
        unfold tagsN
        rw [if_neg (by omega), if_pos hb]
    · intro b t ht hb
      have hm := hK.marks t ht
      obtain ⟨cur, hc⟩ := owns_block hm.row hb
      have hlb := (Array.getElem?_eq_some_iff.1 hc).1
      rcases hm.own b hb with e | e
      · unfold tagsN
        rw [if_pos (hs9 b e).2, if_pos e]
      · unfold tagsN
        rw [if_neg (by omega), if_neg (fun e2 => ?_), if_pos hlb]
        obtain ⟨cur2, hc2⟩ := owns_block hK.row e2
        exact two_types hc2 hc (by decide) rfl
  · intro k hl
    have hv : vli'.ownBlock ≠ some k := fun e => by
      obtain ⟨cur, hc⟩ := owns_block hK.row e
      have := (Array.getElem?_eq_some_iff.1 hc).1
      omega
    unfold tagsN
    rw [if_neg (by omega), if_neg hv, if_neg (by omega)]
end Go.Proofs.YtibkhphbilfckaaGreatDoor
