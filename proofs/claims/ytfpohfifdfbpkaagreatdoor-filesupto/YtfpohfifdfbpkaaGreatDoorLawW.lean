import Derived.Test.YtfpohfifdfbpkaaGreatDoorMarks
import Derived.Test.YtfpohfifdfbpkaaGreatDoorCompile
namespace Go.Proofs.YtfpohfifdfbpkaaGreatDoor
open Go.RowKit Scour Go.Lib
structure Ent where
 bm : Nat
 br : Nat
 ps : List Str
 S : List Str
structure EntOK (w : World) (T : Nat -> Nat) (e : Ent) : Prop where
 mach : ∃ bt be g, yV w e.bm bt be g e.ps e.S /\ T e.bm = 1 /\ T bt = 1 /\ T be = 1 /\ ∀ k, k ∈ g -> T k = 1
 rmach : ∃ vL gS cS, yZ w e.br vL gS cS e.ps e.S /\ T e.br = 1 /\ T gS = 1 /\ ∀ b, vL.ownBlock = some b -> T b = 1
 ok : (chk e.ps).1 = 0
theorem yZ.same {w w' : World} {br gS cS : Nat} {vL : Value} {ps S : List Str} (h : yZ w br vL gS cS ps S) (hb : ∀ k, k < w.heap.size -> (k = br \/ k = gS \/ vL.ownBlock = some k) -> w'.heap[k]? = w.heap[k]?) : yZ w' br vL gS cS ps S :=
 ⟨(hb br (Array.getElem?_eq_some_iff.1 h.blk).1 (Or.inl rfl)).trans h.blk, zE h.lrow (fun b hl hv => hb b hl (Or.inr (Or.inr hv))), zE h.srow (fun b hl hv => hb b hl (Or.inr (Or.inl (by simpa [Value.ownBlock] using hv.symm)))), h.sorted, h.pos, h.head, h.closed, h.len⟩
theorem EntOK.same {w w' : World} {T T' : Nat -> Nat} {e : Ent} (h : EntOK w T e) (hs : w.heap.size <= w'.heap.size) (hk : ∀ k, k < w.heap.size -> T k = 1 -> w'.heap[k]? = w.heap[k]?) (hT : ∀ k, k < w.heap.size -> T k = 1 -> T' k = 1) : EntOK w' T' e := by
 obtain ⟨bt, be, g, hM, t1, t2, t3, t4⟩ := h.mach
 obtain ⟨vL, gS, cS, hR, r1, r2, r3⟩ := h.rmach
 obtain ⟨l1, l2, l3, l4⟩ := hM.lts
 have lbr := (Array.getElem?_eq_some_iff.1 hR.blk).1
 obtain ⟨cur, hcur⟩ := zK hR.srow
 have lgS := (Array.getElem?_eq_some_iff.1 hcur).1
 refine ⟨⟨bt, be, g, hM.same hs ?_, hT _ l1 t1, hT _ l2 t2, hT _ l3 t3, fun k hk => hT k (l4 k hk) (t4 k hk)⟩, ⟨vL, gS, cS, hR.same ?_, hT _ lbr r1, hT _ lgS r2, ?_⟩, h.ok⟩
 ·rintro k (rfl | rfl | rfl | hg)
  ·exact hk _ l1 t1
  ·exact hk _ l2 t2
  ·exact hk _ l3 t3
  ·exact hk _ (l4 k hg) (t4 k hg)
 ·rintro k hl (rfl | rfl | hv)
  ·exact hk _ hl r1
  ·exact hk _ hl r2
  ·exact hk _ hl (r3 k hv)
 ·intro b hb
  obtain ⟨cur, hc⟩ := zD hR.lrow hb
  exact hT b (Array.getElem?_eq_some_iff.1 hc).1 (r3 b hb)
structure BookOK (w : World) (T : Nat -> Nat) (rt et tr : Nat) (tg : Nat -> Nat) (x : Nat -> Value) (v : Value) (E : List Sl) : Prop where
 row : w.ownsRow 0 rt 1 v E.length (E.map Sl.val)
 own : ∀ b, v.ownBlock = some b -> T b = tr
 each : ∀ i s, E[i]? = some s -> yu w et (x i) (fun b => T b = tg i) s
 four : E.length % 4 = 0
 lens : ∀ s, s ∈ E -> s.n < 1000000000
theorem BookOK.same {w w' : World} {T T' : Nat -> Nat} {rt et tr : Nat} {tg : Nat -> Nat} {x : Nat -> Value} {v : Value} {E : List Sl} (h : BookOK w T rt et tr tg x v E) (hk : ∀ k, k < w.heap.size -> (T k = tr \/ ∃ i, T k = tg i) -> w'.heap[k]? = w.heap[k]?) (hT : ∀ k, k < w.heap.size -> (T k = tr \/ ∃ i, T k = tg i) -> T' k = T k) : BookOK w' T' rt et tr tg x v E := by
 refine ⟨zE h.row (fun b hl hv => hk b hl (Or.inl (h.own b hv))), fun b hb => ?_, fun i s hs => ?_, h.four, h.lens⟩
 ·obtain ⟨cur, hc⟩ := zD h.row hb
  rw [hT b (Array.getElem?_eq_some_iff.1 hc).1 (Or.inl (h.own b hb))]; exact h.own b hb
 ·have hm := h.each i s hs
  have hm2 := hm.same (w' := w') (fun b hl hp => hk b hl (Or.inr ⟨i, hp⟩))
  refine hm2.weaken (fun b hb hp => ?_)
  obtain ⟨cur, hc⟩ := zD hm.row hb
  rw [hT b (Array.getElem?_eq_some_iff.1 hc).1 (Or.inr ⟨i, hp⟩)]; exact hp
def bx (i : Nat) : Value := .int .u8 (zp i)
def lxs (mb : Nat -> Nat) (i : Nat) : Value := .slice (some ⟨mb (i / 4), 0, none⟩) (1 + i / 4) (1 + i / 4)
def yG (i : Nat) : Nat := 10 + 8 * (i / 4)
def ltag (i : Nat) : Nat := 11 + 8 * (i / 4)
def mtag (i : Nat) : Nat := 12 + 8 * (i / 4)
def jG (i : Nat) : Nat := 13 + 8 * i
def rtag (i : Nat) : Nat := 14 + 8 * i
def zn (M : List Ent) : List Value := M.flatMap fun e => [.pointer (some ⟨e.bm, 0, none⟩), .pointer (some ⟨e.br, 0, none⟩)]
structure BookG (w : World) (T : Nat -> Nat) (rt et sz tr : Nat) (tg : Nat -> Nat) (x : Nat -> Nat -> Value) (v : Value) (E : List Sl) : Prop where
 row : w.ownsRow 0 rt 1 v E.length (E.map Sl.val)
 own : ∀ b, v.ownBlock = some b -> T b = tr
 each : ∀ i s, E[i]? = some s -> jP w et sz (x i) (fun b => T b = tg i) s
 four : E.length % 4 = 0
 lens : ∀ s, s ∈ E -> s.n < 100000000000
theorem BookG.same {w w' : World} {T T' : Nat -> Nat} {rt et sz tr : Nat} {tg : Nat -> Nat} {x : Nat -> Nat -> Value} {v : Value} {E : List Sl} (h : BookG w T rt et sz tr tg x v E) (hk : ∀ k, k < w.heap.size -> (T k = tr \/ ∃ i, T k = tg i) -> w'.heap[k]? = w.heap[k]?) (hT : ∀ k, k < w.heap.size -> (T k = tr \/ ∃ i, T k = tg i) -> T' k = T k) : BookG w' T' rt et sz tr tg x v E := by
 refine ⟨zE h.row (fun b hl hv => hk b hl (Or.inl (h.own b hv))), fun b hb => ?_, fun i s hs => ?_, h.four, h.lens⟩
 ·obtain ⟨cur, hc⟩ := zD h.row hb
  rw [hT b (Array.getElem?_eq_some_iff.1 hc).1 (Or.inl (h.own b hb))]; exact h.own b hb
 ·have hm := h.each i s hs
  have hm2 := hm.same (w' := w') (fun b hl hp => hk b hl (Or.inr ⟨i, hp⟩))
  refine hm2.weaken (fun b hb hp => ?_)
  obtain ⟨cur, hc⟩ := zD hm.row hb
  rw [hT b (Array.getElem?_eq_some_iff.1 hc).1 (Or.inr ⟨i, hp⟩)]; exact hp
structure Flow where
 bs : Nat
 bx : Nat
 br : Nat
 ps : List Str
 S : List Str
 t : Str
structure FlowOK (w : World) (T : Nat -> Nat) (i : Nat) (f : Flow) : Prop where
 scan : ∃ g gm, ScanM w f.bs g gm f.ps f.S f.t /\ T f.bs = jG i /\ (∀ k, k ∈ g -> T k = jG i) /\ ∀ k, k ∈ gm -> T k = 1
 rscan : w.heap[f.bx]? = some (.cells #[.pointer (some ⟨f.br, 0, none⟩), .string ⟨f.t.toArray⟩] 188 (0, 0)) /\ T f.bx = rtag i
 rmach : ∃ vL gS cS, yZ w f.br vL gS cS f.ps f.S /\ T f.br = 1 /\ T gS = 1 /\ ∀ b, vL.ownBlock = some b -> T b = 1
 ok : (chk f.ps).1 = 0
theorem FlowOK.same {w w' : World} {T T' : Nat -> Nat} {i : Nat} {f : Flow} (h : FlowOK w T i f) (hs : w.heap.size <= w'.heap.size) (hk : ∀ k, k < w.heap.size -> (T k = 1 \/ T k = jG i \/ T k = rtag i) -> w'.heap[k]? = w.heap[k]?) (hT : ∀ k, k < w.heap.size -> (T k = 1 \/ T k = jG i \/ T k = rtag i) -> T' k = T k) : FlowOK w' T' i f := by
 obtain ⟨g, gm, hM, t1, t2, t3⟩ := h.scan
 obtain ⟨vL, gS, cS, hR, r1, r2, r3⟩ := h.rmach
 obtain ⟨hx, tx⟩ := h.rscan
 obtain ⟨l1, l2, l3⟩ := hM.lts
 have lbr := (Array.getElem?_eq_some_iff.1 hR.blk).1
 have lbx := (Array.getElem?_eq_some_iff.1 hx).1
 obtain ⟨cur, hcur⟩ := zK hR.srow
 have lgS := (Array.getElem?_eq_some_iff.1 hcur).1
 have e1 : ∀ k, k < w.heap.size -> T k = 1 -> T' k = 1 := fun k hl ht => by rw [hT k hl (Or.inl ht)]; exact ht
 have e2 : ∀ k, k < w.heap.size -> T k = jG i -> T' k = jG i := fun k hl ht => by rw [hT k hl (Or.inr (Or.inl ht))]; exact ht
 refine ⟨⟨g, gm, hM.same hs ?_, e2 _ l1 t1, fun k hk => e2 k (l2 k hk) (t2 k hk), fun k hk => e1 k (l3 k hk) (t3 k hk)⟩, ⟨(hk _ lbx (Or.inr (Or.inr tx))).trans hx, by rw [hT _ lbx (Or.inr (Or.inr tx))]; exact tx⟩, ⟨vL, gS, cS, hR.same ?_, e1 _ lbr r1, e1 _ lgS r2, ?_⟩, h.ok⟩
 ·rintro k hl (rfl | hg | hg)
  ·exact hk _ hl (Or.inr (Or.inl t1))
  ·exact hk _ hl (Or.inr (Or.inl (t2 k hg)))
  ·exact hk _ hl (Or.inl (t3 k hg))
 ·rintro k hl (rfl | rfl | hv)
  ·exact hk _ hl (Or.inl r1)
  ·exact hk _ hl (Or.inl r2)
  ·exact hk _ hl (Or.inl (r3 k hv))
 ·intro b hb
  obtain ⟨cur, hc⟩ := zD hR.lrow hb
  exact e1 b (Array.getElem?_eq_some_iff.1 hc).1 (r3 b hb)
structure Ext where
 f : Nat -> Nat
 fs : Value
 ma : Value
 L : List Flow
 G : List Sl
 most : Nat
def Ext.upd (m : Ext) (i b : Nat) : Ext := ⟨updN m.f i b, m.fs, m.ma, m.L, m.G, m.most⟩
structure Ext.Le (m m' : Ext) : Prop where
 l : m'.L.length <= m.L.length + 1
 g : m'.G.length <= m.G.length + 4
 t : m'.most <= m.most + 100000000
theorem Ext.Le.refl (m : Ext) : m.Le m := ⟨by omega, by omega, by omega⟩
theorem Ext.le_upd (m : Ext) (i b : Nat) : m.Le (m.upd i b) := ⟨by simp only [Ext.upd]; omega, by simp only [Ext.upd]; omega, by simp only [Ext.upd]; omega⟩
structure Ext.Small (m : Ext) : Prop where
 l : m.L.length < 900000000000
 g : m.G.length < 900000000000
 t : m.most < 900000000000000000
def zY (L : List Flow) : List Value := L.flatMap fun f => [.pointer (some ⟨f.bs, 0, none⟩), .pointer (some ⟨f.bx, 0, none⟩)]
def mxs (i : Nat) : Nat -> Value := fun j => .int .i64 (if j % 2 = 0 then -1000 - ((i / 4 : Nat) : Int) else 0)
def xtag (t : Nat) : Prop := t = 1 \/ t = 6 \/ t = 7 \/ (10 <= t /\ (t % 8 = 4 \/ t % 8 = 5 \/ t % 8 = 6))
structure ExtOK (w : World) (T : Nat -> Nat) (m : Ext) : Prop where
 row : w.ownsRow 0 104 2 m.fs m.L.length (zY m.L)
 own : ∀ b, m.fs.ownBlock = some b -> T b = 6
 flows : ∀ i f, m.L[i]? = some f -> FlowOK w T i f
 mats : BookG w T 42 49 2 7 mtag mxs m.ma m.G
 most : ∀ f, f ∈ m.L -> f.t.length <= m.most
theorem ExtOK.same {w w' : World} {T T' : Nat -> Nat} {m : Ext} (h : ExtOK w T m) (hs : w.heap.size <= w'.heap.size) (hk : ∀ k, k < w.heap.size -> xtag (T k) -> w'.heap[k]? = w.heap[k]?) (hT : ∀ k, k < w.heap.size -> xtag (T k) -> T' k = T k) : ExtOK w' T' m := by
 refine ⟨zE h.row (fun b hl hv => hk b hl (by rw [h.own b hv]; unfold xtag; omega)), fun b hb => ?_, fun i f hf => (h.flows i f hf).same hs (fun k hl ht => hk k hl ?_) (fun k hl ht => hT k hl ?_), h.mats.same (fun k hl ht => hk k hl ?_) (fun k hl ht => hT k hl ?_), h.most⟩
 ·obtain ⟨cur, hc⟩ := zD h.row hb
  rw [hT b (Array.getElem?_eq_some_iff.1 hc).1 (by rw [h.own b hb]; unfold xtag; omega)]; exact h.own b hb
 all_goals unfold xtag
 ·unfold jG rtag at ht; omega
 ·unfold jG rtag at ht; omega
 ·rcases ht with ht | ⟨i, ht⟩
  ·omega
  ·unfold mtag at ht; omega
 ·rcases ht with ht | ⟨i, ht⟩
  ·omega
  ·unfold mtag at ht; omega
theorem ExtOK.upd {w : World} {T : Nat -> Nat} {m : Ext} (h : ExtOK w T m) (i b : Nat) : ExtOK w T (m.upd i b) := ⟨h.row, h.own, h.flows, h.mats, h.most⟩
structure LW (w : World) (bw : Nat) (T : Nat -> Nat) (M : List Ent) (vms vby vli : Value) (E F : List Sl) (mb : Ext) : Prop where
 blk : w.heap[bw]? = some (.cells #[vms, mb.fs, vby, vli, mb.ma] 68 (0, 0))
 tbw : T bw = 2
 ms : w.ownsRow 0 108 2 vms M.length (zn M)
 msown : ∀ b, vms.ownBlock = some b -> T b = 3
 ents : ∀ e, e ∈ M -> EntOK w T e
 bytes : BookOK w T 27 5 4 yG bx vby E
 lists : BookOK w T 30 27 5 ltag (lxs mb.f) vli F
 fresh : ∀ k, w.heap.size <= k -> T k = 9
 ext : ExtOK w T mb
theorem LW.kept {w w' : World} {bw : Nat} {T : Nat -> Nat} {M : List Ent} {vms vby vli : Value} {E F : List Sl} {mb : Ext} (h : LW w bw T M vms vby vli E F mb) (hs : w.heap.size <= w'.heap.size) (hk : ∀ k, k < w.heap.size -> T k ≠ 9 -> w'.heap[k]? = w.heap[k]?) : LW w' bw T M vms vby vli E F mb := by
 have hbl := (Array.getElem?_eq_some_iff.1 h.blk).1
 refine ⟨(hk bw hbl (by rw [h.tbw]; decide)).trans h.blk, h.tbw, zE h.ms (fun b hl hv => hk b hl (by rw [h.msown b hv]; decide)), h.msown, fun e he => (h.ents e he).same hs (fun k hl ht => hk k hl (by rw [ht]; decide)) (fun _ _ ht => ht), ?_, ?_, fun k hl => h.fresh k (by omega), h.ext.same hs (fun k hl ht => hk k hl (by unfold xtag at ht; omega)) (fun _ _ _ => rfl)⟩
 ·exact h.bytes.same (fun k hl ht => hk k hl (by rcases ht with ht | ⟨i, ht⟩ <;> rw [ht]; decide; unfold yG; omega)) (fun _ _ _ => rfl)
 ·exact h.lists.same (fun k hl ht => hk k hl (by rcases ht with ht | ⟨i, ht⟩ <;> rw [ht]; decide; unfold ltag; omega)) (fun _ _ _ => rfl)
theorem LW.below {w w' : World} {bw : Nat} {T : Nat -> Nat} {M : List Ent} {vms vby vli : Value} {E F : List Sl} {mb : Ext} (h : LW w bw T M vms vby vli E F mb) (hb : Below w.heap.size w w') : LW w' bw T M vms vby vli E F mb := h.kept hb.size (fun k hl _ => hb.block k hl)
theorem div4 {n j : Nat} (h : n % 4 = 0) (hj : j < 4) : (n + j) / 4 = n / 4 := by omega
theorem BookOK.more {w w' : World} {T : Nat -> Nat} {rt et tr bk o ty : Nat} {cs : Array Value} {tg : Nat -> Nat} {x : Nat -> Value} {v v' : Value} {E : List Sl} {s s1 s2 s3 : Sl} (h : BookOK w T rt et tr tg x v E) (hK : Kept4 w w' bk o cs ty rt et v E s (x E.length) s1 s2 s3 v') (T' : Nat -> Nat)
  (hT : ∀ k, k < w.heap.size -> (T k = tr \/ ∃ i, T k = tg i) -> T' k = T k) (hx : ∀ j, j < 4 -> x (E.length + j) = x E.length) (htg : ∀ j, j < 4 -> tg (E.length + j) = tg E.length)
  (hs9 : ∀ b, s.val.ownBlock = some b -> ∀ i, T b ≠ tg i) (hbk : ∀ i, T bk ≠ tg i) (htr : ∀ i, tr ≠ tg i) (hsn : s.n + 3 < 1000000000)
  (hv' : ∀ b, v'.ownBlock = some b -> T' b = tr) (hgr : ∀ b t, t ∈ [s, s1, s2, s3] -> t.val.ownBlock = some b -> T' b = tg E.length) : BookOK w' T' rt et tr tg x v' (E ++ [s, s1, s2, s3]) := by
 refine ⟨?_, hv', ?_, ?_, ?_⟩
 ·have := hK.row
  rw [show (E ++ [s, s1, s2, s3]).length = E.length + 4 by simp]
  exact this
 ·intro i t ht
  by_cases hi : i < E.length
  ·rw [List.getElem?_append_left hi] at ht
   have hm := h.each i t ht
   have hm2 := hm.same (w' := w') (fun b hl hp => hK.frame b hl (fun e => hbk i (by rw [← e]; exact hp)) (fun e => htr i (by rw [← h.own b e]; exact hp)) (fun e => hs9 b e i hp))
   refine hm2.weaken (fun b hb hp => ?_)
   obtain ⟨cur, hc⟩ := zD hm.row hb
   rw [hT b (Array.getElem?_eq_some_iff.1 hc).1 (Or.inr ⟨i, hp⟩)]; exact hp
  ·rw [List.getElem?_append_right (by omega)] at ht
   have hj := (List.getElem?_eq_some_iff.1 ht).1
   simp only [List.length_cons, List.length_nil] at hj
   have hmem : t ∈ [s, s1, s2, s3] := List.mem_of_getElem? ht
   have hi4 : i = E.length + (i - E.length) := by omega
   rw [hi4, hx _ (by omega)]
   refine (hK.marks t hmem).weaken (fun b hb _ => ?_)
   rw [htg _ (by omega)]
   exact hgr b t hmem hb
 ·have := h.four
  simp; omega
 ·intro t ht
  rcases List.mem_append.1 ht with h1 | h1
  ·exact h.lens t h1
  ·have := hK.lens t h1; omega
theorem yk {i t : Nat} (h : t < 10 \/ t % 8 ≠ 2) : t ≠ yG i := by unfold yG; omega
theorem ltag_ne {i t : Nat} (h : t < 10 \/ t % 8 ≠ 3) : t ≠ ltag i := by unfold ltag; omega
def jK (T : Nat -> Nat) (w w' : World) (s : Sl) (v' : Value) (tr tg : Nat) : Nat -> Nat := fun k =>
 if k < w.heap.size then (if s.val.ownBlock = some k then tg else T k) else if v'.ownBlock = some k then tr else if k < w'.heap.size then tg else 9
theorem tagsN_old {T : Nat -> Nat} {w w' : World} {s : Sl} {v' : Value} {tr tg k : Nat} (hk : k < w.heap.size) (hs : s.val.ownBlock ≠ some k) : jK T w w' s v' tr tg k = T k := by
 unfold jK; rw [if_pos hk, if_neg hs]
theorem LW.keeps {w w' : World} {bw : Nat} {T : Nat -> Nat} {M : List Ent} {vms vby vli vby' : Value} {E F : List Sl} {mb : Ext} {s s1 s2 s3 : Sl} (h : LW w bw T M vms vby vli E F mb) (hK : Kept4 w w' bw 2 #[vms, mb.fs, vby, vli, mb.ma] 68 27 5 vby E s (bx E.length) s1 s2 s3 vby')
  (hs9 : ∀ b, s.val.ownBlock = some b -> T b = 9 /\ b < w.heap.size) (hsn : s.n + 3 < 1000000000) :
  LW w' bw (jK T w w' s vby' 4 (yG E.length)) M vms vby' vli (E ++ [s, s1, s2, s3]) F mb := by
 have hbl := (Array.getElem?_eq_some_iff.1 h.blk).1
 have hsz := hK.size
 have hne9 : ∀ k, T k ≠ 9 -> s.val.ownBlock ≠ some k := fun k hk e => hk (hs9 k e).1
 have hold : ∀ k, k < w.heap.size -> T k ≠ 9 -> T k ≠ 2 -> T k ≠ 4 -> w'.heap[k]? = w.heap[k]? := fun k hl h9 h2 h4 => hK.frame k hl (fun e => h2 (by rw [e]; exact h.tbw)) (fun e => h4 (h.bytes.own k e)) (hne9 k h9)
 have hTo : ∀ k, k < w.heap.size -> T k ≠ 9 -> jK T w w' s vby' 4 (yG E.length) k = T k := fun k hl h9 => tagsN_old hl (hne9 k h9)
 have hf := h.bytes.four
 refine ⟨?_, ?_, ?_, ?_, ?_, ?_, ?_, ?_, h.ext.same hsz (fun k hl ht => hold k hl (by unfold xtag at ht; omega) (by unfold xtag at ht; omega) (by unfold xtag at ht; omega)) (fun k hl ht => hTo k hl (by unfold xtag at ht; omega))⟩
 ·exact hK.blk
 ·rw [hTo bw hbl (by rw [h.tbw]; decide)]; exact h.tbw
 ·exact zE h.ms (fun b hl hv => hold b hl (by rw [h.msown b hv]; decide) (by rw [h.msown b hv]; decide) (by rw [h.msown b hv]; decide))
 ·intro b hb
  obtain ⟨cur, hc⟩ := zD h.ms hb
  rw [hTo b (Array.getElem?_eq_some_iff.1 hc).1 (by rw [h.msown b hb]; decide)]; exact h.msown b hb
 ·exact fun e he => (h.ents e he).same hsz (fun k hl ht => hold k hl (by rw [ht]; decide) (by rw [ht]; decide) (by rw [ht]; decide)) (fun k hl ht => by rw [hTo k hl (by rw [ht]; decide)]; exact ht)
 ·refine h.bytes.more hK _ ?_ ?_ ?_ ?_ ?_ ?_ hsn ?_ ?_
  ·intro k hl ht
   refine hTo k hl ?_
   rcases ht with ht | ⟨i, ht⟩ <;> rw [ht]
   ·decide
   ·exact fun e => yk (i := i) (t := 9) (by omega) e.symm
  ·intro j hj; unfold bx zp; rw [div4 hf hj]
  ·intro j hj; unfold yG; rw [div4 hf hj]
  ·intro b hb i; rw [(hs9 b hb).1]; exact yk (by omega)
  ·intro i; rw [h.tbw]; exact yk (by omega)
  ·intro i; exact yk (by omega)
  ·intro b hb
   rcases hK.lies with e | e
   ·have h4 := h.bytes.own b (e ▸ hb)
    obtain ⟨cur, hc⟩ := zD h.bytes.row (e ▸ hb)
    rw [hTo b (Array.getElem?_eq_some_iff.1 hc).1 (by rw [h4]; decide)]; exact h4
   ·have := e b hb
    unfold jK
    rw [if_neg (by omega), if_pos hb]
  ·intro b t ht hb
   have hm := hK.marks t ht
   obtain ⟨cur, hc⟩ := zD hm.row hb
   have hlb := (Array.getElem?_eq_some_iff.1 hc).1
   rcases hm.own b hb with e | e
   ·unfold jK
    rw [if_pos (hs9 b e).2, if_pos e]
   ·unfold jK
    rw [if_neg (by omega), if_neg (fun e2 => ?_), if_pos hlb]
    obtain ⟨cur2, hc2⟩ := zD hK.row e2
    exact zH hc2 hc (by decide) rfl
 ·refine h.lists.same (fun k hl ht => ?_) (fun k hl ht => ?_)
  ·refine hold k hl ?_ ?_ ?_ <;> rcases ht with ht | ⟨i, ht⟩ <;> rw [ht] <;> first | decide | (unfold ltag; omega)
  ·refine hTo k hl ?_
   rcases ht with ht | ⟨i, ht⟩ <;> rw [ht] <;> first | decide | (unfold ltag; omega)
 ·intro k hl
  have hv : vby'.ownBlock ≠ some k := fun e => by
   obtain ⟨cur, hc⟩ := zD hK.row e
   have := (Array.getElem?_eq_some_iff.1 hc).1
   omega
  unfold jK
  rw [if_neg (by omega), if_neg hv, if_neg (by omega)]
theorem LW.keepsL {w w' : World} {bw bm : Nat} {T : Nat -> Nat} {M : List Ent} {vms vby vli vli' : Value} {E F : List Sl} {mb : Ext} {s s1 s2 s3 : Sl} (h : LW w bw T M vms vby vli E F mb) (hK : Kept4 w w' bw 3 #[vms, mb.fs, vby, vli, mb.ma] 68 30 27 vli F s (.slice (some ⟨bm, 0, none⟩) (1 + F.length / 4) (1 + F.length / 4)) s1 s2 s3 vli')
  (hs9 : ∀ b, s.val.ownBlock = some b -> T b = 9 /\ b < w.heap.size) (hsn : s.n + 3 < 1000000000) :
  LW w' bw (jK T w w' s vli' 5 (ltag F.length)) M vms vby vli' E (F ++ [s, s1, s2, s3]) (mb.upd (F.length / 4) bm) := by
 have hbl := (Array.getElem?_eq_some_iff.1 h.blk).1
 have hsz := hK.size
 have hne9 : ∀ k, T k ≠ 9 -> s.val.ownBlock ≠ some k := fun k hk e => hk (hs9 k e).1
 have hold : ∀ k, k < w.heap.size -> T k ≠ 9 -> T k ≠ 2 -> T k ≠ 5 -> w'.heap[k]? = w.heap[k]? := fun k hl h9 h2 h4 => hK.frame k hl (fun e => h2 (by rw [e]; exact h.tbw)) (fun e => h4 (h.lists.own k e)) (hne9 k h9)
 have hTo : ∀ k, k < w.heap.size -> T k ≠ 9 -> jK T w w' s vli' 5 (ltag F.length) k = T k := fun k hl h9 => tagsN_old hl (hne9 k h9)
 have hf := h.lists.four
 have hx0 : lxs (updN mb.f (F.length / 4) bm) F.length = .slice (some ⟨bm, 0, none⟩) (1 + F.length / 4) (1 + F.length / 4) := by unfold lxs updN; rw [if_pos rfl]
 have hlist : BookOK w T 30 27 5 ltag (lxs (updN mb.f (F.length / 4) bm)) vli F := ⟨h.lists.row, h.lists.own, fun i t ht => by
  have hi := (List.getElem?_eq_some_iff.1 ht).1
  have e : lxs (updN mb.f (F.length / 4) bm) i = lxs mb.f i := by unfold lxs updN; rw [if_neg (by omega)]
  rw [e]; exact h.lists.each i t ht, h.lists.four, h.lists.lens⟩
 refine ⟨?_, ?_, ?_, ?_, ?_, ?_, ?_, ?_, (h.ext.upd (F.length / 4) bm).same hsz (fun k hl ht => hold k hl (by unfold xtag at ht; omega) (by unfold xtag at ht; omega) (by unfold xtag at ht; omega)) (fun k hl ht => hTo k hl (by unfold xtag at ht; omega))⟩
 ·exact hK.blk
 ·rw [hTo bw hbl (by rw [h.tbw]; decide)]; exact h.tbw
 ·exact zE h.ms (fun b hl hv => hold b hl (by rw [h.msown b hv]; decide) (by rw [h.msown b hv]; decide) (by rw [h.msown b hv]; decide))
 ·intro b hb
  obtain ⟨cur, hc⟩ := zD h.ms hb
  rw [hTo b (Array.getElem?_eq_some_iff.1 hc).1 (by rw [h.msown b hb]; decide)]; exact h.msown b hb
 ·exact fun e he => (h.ents e he).same hsz (fun k hl ht => hold k hl (by rw [ht]; decide) (by rw [ht]; decide) (by rw [ht]; decide)) (fun k hl ht => by rw [hTo k hl (by rw [ht]; decide)]; exact ht)
 ·refine h.bytes.same (fun k hl ht => ?_) (fun k hl ht => ?_)
  ·refine hold k hl ?_ ?_ ?_ <;> rcases ht with ht | ⟨i, ht⟩ <;> rw [ht] <;> first | decide | (unfold yG; omega)
  ·refine hTo k hl ?_
   rcases ht with ht | ⟨i, ht⟩ <;> rw [ht] <;> first | decide | (unfold yG; omega)
 ·refine hlist.more (hx0.symm ▸ hK) _ ?_ ?_ ?_ ?_ ?_ ?_ hsn ?_ ?_
  ·intro k hl ht
   refine hTo k hl ?_
   rcases ht with ht | ⟨i, ht⟩ <;> rw [ht]
   ·decide
   ·exact fun e => ltag_ne (i := i) (t := 9) (by omega) e.symm
  ·intro j hj; unfold lxs; rw [div4 hf hj]
  ·intro j hj; unfold ltag; rw [div4 hf hj]
  ·intro b hb i; rw [(hs9 b hb).1]; exact ltag_ne (by omega)
  ·intro i; rw [h.tbw]; exact ltag_ne (by omega)
  ·intro i; exact ltag_ne (by omega)
  ·intro b hb
   rcases hK.lies with e | e
   ·have h4 := h.lists.own b (e ▸ hb)
    obtain ⟨cur, hc⟩ := zD h.lists.row (e ▸ hb)
    rw [hTo b (Array.getElem?_eq_some_iff.1 hc).1 (by rw [h4]; decide)]; exact h4
   ·have := e b hb
    unfold jK
    rw [if_neg (by omega), if_pos hb]
  ·intro b t ht hb
   have hm := hK.marks t ht
   obtain ⟨cur, hc⟩ := zD hm.row hb
   have hlb := (Array.getElem?_eq_some_iff.1 hc).1
   rcases hm.own b hb with e | e
   ·unfold jK
    rw [if_pos (hs9 b e).2, if_pos e]
   ·unfold jK
    rw [if_neg (by omega), if_neg (fun e2 => ?_), if_pos hlb]
    obtain ⟨cur2, hc2⟩ := zD hK.row e2
    exact zH hc2 hc (by decide) rfl
 ·intro k hl
  have hv : vli'.ownBlock ≠ some k := fun e => by
   obtain ⟨cur, hc⟩ := zD hK.row e
   have := (Array.getElem?_eq_some_iff.1 hc).1
   omega
  unfold jK
  rw [if_neg (by omega), if_neg hv, if_neg (by omega)]
end Go.Proofs.YtfpohfifdfbpkaaGreatDoor
namespace Go.Proofs.YtfpohfifdfbpkaaGreatDoor
open Go.RowKit Scour Go.Lib
theorem Tryz.infoLL : (Tryz.prog.info? 30).map (fun i => (i.zero, i.size, i.bytes)) = some (some (.slice none 0 0), 1, 24) := by kernel_rfl
structure Fr (T : Nat -> Nat) (w w' : World) (T' : Nat -> Nat) : Prop where
 os : w'.os = w.os
 tape : w'.tape = w.tape
 output : w'.output = w.output
 size : w.heap.size <= w'.heap.size
 zero : ∀ k, k < w.heap.size -> T k = 0 -> w'.heap[k]? = w.heap[k]? /\ T' k = 0
theorem Fr.refl (T : Nat -> Nat) (w : World) : Fr T w w T := ⟨rfl, rfl, rfl, Nat.le_refl _, fun _ _ h => ⟨rfl, h⟩⟩
theorem Fr.trans {T T1 T2 : Nat -> Nat} {w w1 w2 : World} (h : Fr T w w1 T1) (k : Fr T1 w1 w2 T2) : Fr T w w2 T2 :=
 ⟨k.os.trans h.os, k.tape.trans h.tape, k.output.trans h.output, Nat.le_trans h.size k.size, fun i hi h0 => by
  obtain ⟨a, b⟩ := h.zero i hi h0
  obtain ⟨c, d⟩ := k.zero i (Nat.lt_of_lt_of_le hi h.size) b
  exact ⟨c.trans a, d⟩⟩
theorem zl {T : Nat -> Nat} {w w' : World} (h : Below w.heap.size w w') : Fr T w w' T := ⟨h.os, h.tape, h.output, h.size, fun k hk h0 => ⟨h.block k hk, h0⟩⟩
structure Free (w : World) (T : Nat -> Nat) (b0 c0 : Nat) (gs cs : Nat -> Nat) (ps : List Str) (k : Nat) : Prop where
 row : w.ownsRow 0 27 1 (.slice (some ⟨b0, 0, none⟩) ps.length c0) ps.length (outsF gs cs ps ps.length)
 trow : T b0 = 9
 each : ∀ i, k <= i -> i < ps.length -> w.ownsRow 0 5 1 (.slice (some ⟨gs i, 0, none⟩) (pat ps i).length (cs i)) (pat ps i).length ((pat ps i).map zT)
 teach : ∀ i, k <= i -> i < ps.length -> T (gs i) = 9
 apart : ∀ i j, i < ps.length -> j < ps.length -> gs i = gs j -> i = j
theorem LW.keepsFr {w w' : World} {bw : Nat} {T : Nat -> Nat} {M : List Ent} {vms vby vli vby' : Value} {E F : List Sl} {mb : Ext} {s s1 s2 s3 : Sl} (h : LW w bw T M vms vby vli E F mb) (hK : Kept4 w w' bw 2 #[vms, mb.fs, vby, vli, mb.ma] 68 27 5 vby E s (bx E.length) s1 s2 s3 vby')
  (hs9 : ∀ b, s.val.ownBlock = some b -> T b = 9 /\ b < w.heap.size) : Fr T w w' (jK T w w' s vby' 4 (yG E.length)) := by
 refine ⟨hK.os, hK.tape, hK.output, hK.size, fun k hk h0 => ?_⟩
 have hn : s.val.ownBlock ≠ some k := fun e => by have := (hs9 k e).1; omega
 refine ⟨hK.frame k hk (fun e => by rw [e, h.tbw] at h0; cases h0) (fun e => by rw [h.bytes.own k e] at h0; cases h0) hn, ?_⟩
 rw [tagsN_old hk hn]; exact h0
theorem LW.keepsLFr {w w' : World} {bw : Nat} {x : Value} {T : Nat -> Nat} {M : List Ent} {vms vby vli vli' : Value} {E F : List Sl} {mb : Ext} {s s1 s2 s3 : Sl} (h : LW w bw T M vms vby vli E F mb) (hK : Kept4 w w' bw 3 #[vms, mb.fs, vby, vli, mb.ma] 68 30 27 vli F s x s1 s2 s3 vli')
  (hs9 : ∀ b, s.val.ownBlock = some b -> T b = 9 /\ b < w.heap.size) : Fr T w w' (jK T w w' s vli' 5 (ltag F.length)) := by
 refine ⟨hK.os, hK.tape, hK.output, hK.size, fun k hk h0 => ?_⟩
 have hn : s.val.ownBlock ≠ some k := fun e => by have := (hs9 k e).1; omega
 refine ⟨hK.frame k hk (fun e => by rw [e, h.tbw] at h0; cases h0) (fun e => by rw [h.lists.own k e] at h0; cases h0) hn, ?_⟩
 rw [tagsN_old hk hn]; exact h0
theorem Free.step {w w' : World} {bw : Nat} {T : Nat -> Nat} {M : List Ent} {vms vby vli vby' : Value} {E F : List Sl} {mb : Ext} {s1 s2 s3 : Sl} {b0 c0 k : Nat} {gs cs : Nat -> Nat} {ps : List Str} (h : LW w bw T M vms vby vli E F mb) (hF : Free w T b0 c0 gs cs ps k) (hk : k < ps.length)
  (hK : Kept4 w w' bw 2 #[vms, mb.fs, vby, vli, mb.ma] 68 27 5 vby E ⟨some ⟨gs k, 0, none⟩, (pat ps k).length, cs k⟩ (bx E.length) s1 s2 s3 vby') : Free w' (jK T w w' ⟨some ⟨gs k, 0, none⟩, (pat ps k).length, cs k⟩ vby' 4 (yG E.length)) b0 c0 gs cs ps (k + 1) := by
 obtain ⟨curk, hck⟩ := zK (hF.each k (Nat.le_refl _) hk)
 obtain ⟨cur0, hc0⟩ := zK hF.row
 have l0 := (Array.getElem?_eq_some_iff.1 hc0).1
 have hsame : ∀ b, b < w.heap.size -> T b = 9 -> b ≠ gs k -> w'.heap[b]? = w.heap[b]? /\ jK T w w' ⟨some ⟨gs k, 0, none⟩, (pat ps k).length, cs k⟩ vby' 4 (yG E.length) b = 9 := fun b hb h9 hn => by
  have hn' : (Sl.val ⟨some ⟨gs k, 0, none⟩, (pat ps k).length, cs k⟩).ownBlock ≠ some b := fun e => hn (by simpa [Sl.val, Value.ownBlock] using e.symm)
  refine ⟨hK.frame b hb (fun e => by rw [e, h.tbw] at h9; cases h9) (fun e => by rw [h.bytes.own b e] at h9; cases h9) hn', ?_⟩
  rw [tagsN_old hb hn']; exact h9
 have h0 := hsame b0 l0 hF.trow (zH hc0 hck (by decide))
 refine ⟨yp hF.row h0.1, h0.2, fun i hi hl => ?_, fun i hi hl => ?_, hF.apart⟩
 ·obtain ⟨curi, hci⟩ := zK (hF.each i (by omega) hl)
  exact yp (hF.each i (by omega) hl) (hsame (gs i) (Array.getElem?_eq_some_iff.1 hci).1 (hF.teach i (by omega) hl) (fun e => by have := hF.apart i k hl hk e; omega)).1
 ·obtain ⟨curi, hci⟩ := zK (hF.each i (by omega) hl)
  exact (hsame (gs i) (Array.getElem?_eq_some_iff.1 hci).1 (hF.teach i (by omega) hl) (fun e => by have := hF.apart i k hl hk e; omega)).2
set_option maxHeartbeats 4000000 in
set_option maxRecDepth 100000 in
theorem keepsLists_any (bw : Nat) (T : Nat -> Nat) (M : List Ent) (vms vby vli : Value) (E F : List Sl) (mb : Ext) (b0 c0 : Nat) (gs cs : Nat -> Nat) (ps : List Str) (w : World) (hW : LW w bw T M vms vby vli E F mb) (hF : Free w T b0 c0 gs cs ps 0)
  (hps : ps.length <= 64) (hpl : ∀ i, i < ps.length -> (pat ps i).length <= 64) (hE : E.length < 900000000000) (hFl : F.length < 900000000000) :
  Calls Tryz.prog 93 #[.pointer (some ⟨bw, 2, none⟩), .slice (some ⟨b0, 0, none⟩) ps.length c0] w fun e w' => e = .returned (.tuple #[]) /\ ∃ T' vby' vli' E' F' mb', LW w' bw T' M vms vby' vli' E' F' mb' /\ Fr T w w' T' /\ E'.length = E.length + 4 * ps.length /\ F'.length = F.length + 4 /\ mb.Le mb' := by
 have HF := zB hF
 have HW := zB hW
 have HPL := zB hpl
 clear hF hW hpl
 go_enter Tryz.func93, Tryz.ntmps93
 go_wp2
 go_loopw [4] (fun v wr => ∃ (k : Nat) (T' : Nat -> Nat) (vby' : Value) (E' : List Sl), v = .int .i64 k /\ k <= ps.length /\ E'.length = E.length + 4 * k /\ Hid (LW wr bw T' M vms vby' vli E' F mb) /\ Hid (Fr T w wr T') /\ Hid (Free wr T' b0 c0 gs cs ps k)) (fun v _ => ps.length - (intOf v).toNat)
 case atStart => exact ⟨0, T, vby, E, rfl, Nat.zero_le _, rfl, HW, zB (Fr.refl _ _), HF⟩
 case round =>
  obtain ⟨k, T', vby', E', rfl, hk, hEl, HW1, HFR, HF1⟩ := hrel
  by_cases hlt : k < ps.length
  ·have c1 : wr.cell? ⟨b0, k, none⟩ = some (.slice (some ⟨gs k, 0, none⟩) (pat ps k).length (cs k)) := by
    rw [(zA HF1).row.cellAt k (by omega), jL _ _ _ _ _ hlt, if_pos hlt]
   have hlk := zA HPL k hlt
   have HS9 : Hid (∀ b, (Sl.val ⟨some ⟨gs k, 0, none⟩, (pat ps k).length, cs k⟩).ownBlock = some b -> T' b = 9 /\ b < wr.heap.size) := zB (fun b hb => by
    have e : gs k = b := by simpa [Sl.val, Value.ownBlock] using hb
    obtain ⟨cur, hc⟩ := zK ((zA HF1).each k (Nat.le_refl _) hlt)
    rw [← e]; exact ⟨(zA HF1).teach k (Nat.le_refl _) hlt, (Array.getElem?_eq_some_iff.1 hc).1⟩)
   have HKE := zB (keeps_any bw #[vms, mb.fs, vby', vli, mb.ma] 68 vby' E' ⟨some ⟨gs k, 0, none⟩, (pat ps k).length, cs k⟩ ((pat ps k).map zT) wr (zA HW1).blk rfl (by decide) (by decide) (zA HW1).bytes.row ((zA HF1).each k (Nat.le_refl _) hlt) (by omega) (by simp only []; omega))
   have HST : Hid (∀ w2 s1 s2 s3 vby2, Kept4 wr w2 bw 2 #[vms, mb.fs, vby', vli, mb.ma] 68 27 5 vby' E' ⟨some ⟨gs k, 0, none⟩, (pat ps k).length, cs k⟩ (.int .u8 (zp E'.length)) s1 s2 s3 vby2 -> ∃ T2 E2, E2.length = E.length + 4 * (k + 1) /\ LW w2 bw T2 M vms vby2 vli E2 F mb /\ Fr T w w2 T2 /\ Free w2 T2 b0 c0 gs cs ps (k + 1)) := zB (fun w2 s1 s2 s3 vby2 hK =>
    ⟨_, _, by simp; omega, (zA HW1).keeps hK (zA HS9) (by simp only []; omega), (zA HFR).trans ((zA HW1).keepsFr hK (zA HS9)), (zA HF1).step (zA HW1) hlt hK⟩)
   have i1 : (k : Int) < (ps.length : Int) := by omega
   simp only [Sl.val] at HKE
   go_wp2_with (go_at_call 96; refine (zA HKE).mono ?_; rintro e w2 ⟨rfl, s1, s2, s3, vby2, hK⟩; obtain ⟨T2, E2, e1, e2, e3, e4⟩ := zA HST w2 s1 s2 s3 vby2 hK; have HE2 := zB e2; have HE3 := zB e3; have HE4 := zB e4; clear hK e2 e3 e4)
   go_roundw
   case rel => exact ⟨k + 1, T2, vby2, E2, by go_num, hlt, e1, HE2, HE3, HE4⟩
   case measure => simp [intOf]; omega
  ·obtain rfl : k = ps.length := by omega
   obtain ⟨i0, hi, hz0, hz1, hz2⟩ := info_parts Tryz.infoL
   obtain ⟨j0, hj, hy0, hy1, hy2⟩ := info_parts Tryz.infoLL
   obtain ⟨l0, hu, hx0, hx1, hx2⟩ := info_parts Tryz.infoB
   have c2 : wr.cell? ⟨bw, 3, none⟩ = some vli := by rw [zC (zA HW1).blk]; rfl
   obtain ⟨ali, cli, hvli⟩ : ∃ ali cli, vli = .slice ali F.length cli := by
    rcases (zA HW1).lists.row.2 with ⟨h, h0⟩ | ⟨g, cap, cur, h, _⟩
    ·exact ⟨none, 0, by rw [h, h0]⟩
    ·exact ⟨_, cap, h⟩
   have c2' := c2
   rw [hvli] at c2'
   have HVL := zB hvli
   clear hvli c2
   have HN : Hid ((1 : Int) + (F.length : Int) / 4 = ((1 + F.length / 4 : Nat) : Int)) := zB (by omega)
   have i1 : ¬ (ps.length : Int) < (ps.length : Int) := by omega
   go_wp2_with (first | (at_make; go_loud (refine wpList_make_full _ rfl (.tmp 28) (.tmp 28) 27 rfl 0 5 l0 (.int .u8 0) 1 Tryz.underlying27 hu hx0 hx1 .i64 .i64 _ _ (1 + F.length / 4) rfl rfl (zA HN) (zA HN) (by rw [hx2]; omega) (by unfold maxLen; omega) (Nat.zero_le _) ?_); intro wm hown hgrow; have HGW := zB hgrow; clear hown hgrow))
   have hgm := zA HGW
   have HWM : Hid (LW wm bw T' M vms vby' vli E' F mb) := zB ((zA HW1).kept hgm.size (fun k hl _ => hgm.block k hl (by simp)))
   have HFRM : Hid (Fr T w wm T') := zB ((zA HFR).trans (zl (zG hgm (Nat.le_refl _) (fun k h => by cases h))))
   have HRW : Hid (wm.ownsRow 0 27 1 (.slice (some ⟨b0, 0, none⟩) ps.length c0) ps.length (outsF gs cs ps ps.length)) := zB ((zA HF1).row.kept hgm (by simp [Value.ownBlock]))
   have HT0 := zB (zA HF1).trow
   have hbm : wr.heap.size <= wm.heap.size := hgm.size
   clear hgm HGW HW1 HFR HF1 HF HW c2'
   generalize wr.heap.size = bm at *
   have hxl : (outsF gs cs ps ps.length).length = ps.length := yi _ _ _ _
   generalize outsF gs cs ps ps.length = xs at *
   have hbl := (Array.getElem?_eq_some_iff.1 (zA HWM).blk).1
   have hcl : 3 < (#[vms, mb.fs, vby', vli, mb.ma] : Array Value).size := by simp
   have HPB : Hid (¬ (some b0 = some bw \/ wm.heap.size <= bw)) := zB (by
    rintro (h | h)
    ·obtain ⟨cur, hc⟩ := zK (zA HRW)
     exact zH hc (zA HWM).blk (by decide) (by simpa using h)
    ·omega)
   have HPV : Hid (∀ b, vli.ownBlock = some b -> ¬ (some b0 = some b \/ wm.heap.size <= b)) := zB (by
    intro b hb
    obtain ⟨cur, hc⟩ := zD (zA HWM).lists.row hb
    rintro (h | h)
    ·obtain ⟨cur2, hc2⟩ := zK (zA HRW)
     exact zH hc2 hc (by decide) (by simpa using h)
    ·have := (Array.getElem?_eq_some_iff.1 hc).1; omega)
   obtain ⟨P, hP⟩ : ∃ P : Nat -> Prop, P = fun b => some b0 = some b \/ wm.heap.size <= b := ⟨_, rfl⟩
   have HPI : Hid (∀ b, P b ↔ (some b0 = some b \/ wm.heap.size <= b)) := zB (fun b => by rw [hP])
   have HPE := zB hP
   clear hP
   go_loopw [6] (fun v wr => ∃ k : Nat, v = .int .i64 k /\ k <= ps.length /\ Hid (wr.ownsRow 0 27 1 (.slice (some ⟨b0, 0, none⟩) ps.length c0) ps.length (List.replicate k (.slice (some ⟨bm, 0, none⟩) (1 + F.length / 4) (1 + F.length / 4)) ++ xs.drop k)) /\ Hid (zk 27 (.slice (some ⟨bm, 0, none⟩) (1 + F.length / 4) (1 + F.length / 4)) P wm wr)) (fun v _ => ps.length - (intOf v).toNat)
   case atStart => exact ⟨0, rfl, Nat.zero_le _, HRW, zB (zk.refl _ _ _ _)⟩
   case round =>
    obtain ⟨k, rfl, hk2, HR, HM⟩ := hrel
    by_cases hlt : k < ps.length
    ·obtain ⟨cur, hcur⟩ := zK (zA HR)
     have c1 : ∃ u, wr.cell? ⟨b0, k, none⟩ = some u := by
      rw [(zA HR).cellAt k (by omega)]
      exact ⟨_, List.getElem?_eq_getElem (by simp; omega)⟩
     obtain ⟨u, c1⟩ := c1
     have f1 : wr.frozen? ⟨b0, k, none⟩ = false := (zA HR).frozenAt k
     have HR2 : Hid ((wr.setCell ⟨b0, k, none⟩ (.slice (some ⟨bm, 0, none⟩) (1 + F.length / 4) (1 + F.length / 4))).ownsRow 0 27 1 (.slice (some ⟨b0, 0, none⟩) ps.length c0) ps.length (List.replicate (k + 1) (.slice (some ⟨bm, 0, none⟩) (1 + F.length / 4) (1 + F.length / 4)) ++ xs.drop (k + 1))) := zB (by
      have := ((zA HR).stored k (.slice (some ⟨bm, 0, none⟩) (1 + F.length / 4) (1 + F.length / 4))).1
      rw [rep_set (.slice (some ⟨bm, 0, none⟩) (1 + F.length / 4) (1 + F.length / 4)) xs k (by omega)] at this
      exact this)
     have HM2 : Hid (zk 27 (.slice (some ⟨bm, 0, none⟩) (1 + F.length / 4) (1 + F.length / 4)) P wm (wr.setCell ⟨b0, k, none⟩ (.slice (some ⟨bm, 0, none⟩) (1 + F.length / 4) (1 + F.length / 4)))) := zB ((zA HM).trans (mstep_setCell wr b0 k cur hcur ((zA HPI b0).2 (Or.inl rfl))))
     have i1 : (k : Int) < (ps.length : Int) := by omega
     clear hcur
     go_wp2
     go_roundw
     case rel => exact ⟨k + 1, by go_num, hlt, HR2, HM2⟩
     case measure => simp [intOf]; omega
    ·obtain rfl : k = ps.length := by omega
     have HM0 : Hid (yu wr 27 (.slice (some ⟨bm, 0, none⟩) (1 + F.length / 4) (1 + F.length / 4)) P ⟨some ⟨b0, 0, none⟩, ps.length, c0⟩) := zB ⟨by
      have := zA HR
      rw [List.drop_of_length_le (by omega), List.append_nil] at this
      exact this, fun b hb => (zA HPI b).2 (Or.inl hb)⟩
     have hszr := (zA HM).size
     have HNEW : Hid (∀ b, wm.heap.size <= b -> P b) := zB (fun b hb => (zA HPI b).2 (Or.inr hb))
     have HSTART : Hid (∀ W, zk 27 (.slice (some ⟨bm, 0, none⟩) (1 + F.length / 4) (1 + F.length / 4)) P wm W -> zw W W bw 3 #[vms, mb.fs, vby', vli, mb.ma] 68 30 1 vli vli F.length (F.map Sl.val)) := zB (fun W hW => by
      refine zw.start ((hW.out bw hbl (fun h => zA HPB ((zA HPI bw).1 h))).trans (zA HWM).blk) rfl ?_
      exact zE (zA HWM).lists.row (fun b hl hv => hW.out b hl (fun h => zA HPV b hv ((zA HPI b).1 h))))
     go_wp2_with (first | (at_builtin; refine yJ _ rfl (.tmp 40) (.tmp 42) 30 rfl 27 i0 (.slice none 0 0) 24 Tryz.underlying30 hi hz0 hz1 hz2 rfl (.slice (some ⟨bm, 0, none⟩) (1 + F.length / 4) (1 + F.length / 4)) rfl P ⟨some ⟨b0, 0, none⟩, ps.length, c0⟩ rfl ((zA HM0).step ((zk.refl _ _ _ _).alloc _)) (fun b hb => zA HNEW b (by simp at hb; omega)) ⟨wr.heap.size, 0, none⟩ 1 1 rfl (World.news_of_block (heap_alloc_new wr _)) (by decide) (by simp only [maxLen]; omega) (by simp only []; omega) ?_; intro ao1 cc1 w1 m1 st1; have hz1' := st1.size; simp only [World.alloc, Array.size_push] at hz1'; have ST1 := (zk.refl 27 (.slice (some ⟨bm, 0, none⟩) (1 + F.length / 4) (1 + F.length / 4)) P wr).alloc (.cells #[(.slice (some ⟨bm, 0, none⟩) (1 + F.length / 4) (1 + F.length / 4))] 27); have HM01 := zB (((zA HM0).step ST1).step st1); have HM11 := zB m1; have HW1 := zB (((zA HM).trans ST1).trans st1); clear m1 st1 ST1) | (at_builtin; refine yJ _ rfl (.tmp 44) (.tmp 47) 30 rfl 27 i0 (.slice none 0 0) 24 Tryz.underlying30 hi hz0 hz1 hz2 rfl (.slice (some ⟨bm, 0, none⟩) (1 + F.length / 4) (1 + F.length / 4)) rfl P ⟨some ⟨b0, 0, none⟩, ps.length, c0⟩ rfl ((zA HM01).step ((zk.refl _ _ _ _).alloc _)) (fun b hb => zA HNEW b (by simp at hb; omega)) ⟨w1.heap.size, 0, none⟩ 2 2 rfl (World.news_of_block (heap_alloc_new w1 _)) (by decide) (by simp only [maxLen]; omega) (by simp only []; omega) ?_; intro ao2 cc2 w2 m2 st2; have hz2' := st2.size; simp only [World.alloc, Array.size_push] at hz2'; have ST2 := (zk.refl 27 (.slice (some ⟨bm, 0, none⟩) (1 + F.length / 4) (1 + F.length / 4)) P w1).alloc (.cells #[(.slice (some ⟨bm, 0, none⟩) (1 + F.length / 4) (1 + F.length / 4)), (.slice (some ⟨bm, 0, none⟩) (1 + F.length / 4) (1 + F.length / 4))] 27); have HM02 := zB (((zA HM01).step ST2).step st2); have HM12 := zB (((zA HM11).step ST2).step st2); have HM22 := zB m2; have HW2 := zB (((zA HW1).trans ST2).trans st2); clear m2 st2 ST2) | (at_builtin; refine yJ _ rfl (.tmp 49) (.tmp 53) 30 rfl 27 i0 (.slice none 0 0) 24 Tryz.underlying30 hi hz0 hz1 hz2 rfl (.slice (some ⟨bm, 0, none⟩) (1 + F.length / 4) (1 + F.length / 4)) rfl P ⟨some ⟨b0, 0, none⟩, ps.length, c0⟩ rfl ((zA HM02).step ((zk.refl _ _ _ _).alloc _)) (fun b hb => zA HNEW b (by simp at hb; omega)) ⟨w2.heap.size, 0, none⟩ 3 3 rfl (World.news_of_block (heap_alloc_new w2 _)) (by decide) (by simp only [maxLen]; omega) (by simp only []; omega) ?_; intro ao3 cc3 w3 m3 st3; have hz3' := st3.size; simp only [World.alloc, Array.size_push] at hz3'; have ST3 := (zk.refl 27 (.slice (some ⟨bm, 0, none⟩) (1 + F.length / 4) (1 + F.length / 4)) P w2).alloc (.cells #[(.slice (some ⟨bm, 0, none⟩) (1 + F.length / 4) (1 + F.length / 4)), (.slice (some ⟨bm, 0, none⟩) (1 + F.length / 4) (1 + F.length / 4)), (.slice (some ⟨bm, 0, none⟩) (1 + F.length / 4) (1 + F.length / 4))] 27); have HM03 := zB (((zA HM02).step ST3).step st3); have HM13 := zB (((zA HM12).step ST3).step st3); have HM23 := zB (((zA HM22).step ST3).step st3); have HM33 := zB m3; have HW3 := zB (((zA HW2).trans ST3).trans st3); clear m3 st3 ST3; have HR3 := zB (zA HSTART w3 (zA HW3)); have c3 := (zA HR3).cell hcl) | (at_builtin; refine wpList_append_lies _ rfl (.tmp 59) (.tmp 61) 63 rfl 0 30 j0 (.slice none 0 0) 1 24 Tryz.underlying63 hj hy0 hy1 hy2 rfl (by decide) _ (F.length) _ rfl ((zA HR3).ready #[.slice (some ⟨b0, 0, none⟩) ps.length c0] w3.heap.size rfl).1 ⟨w3.heap.size, 0, none⟩ 1 1 [.slice (some ⟨b0, 0, none⟩) ps.length c0] rfl rfl ((zA HR3).ready #[.slice (some ⟨b0, 0, none⟩) ps.length c0] w3.heap.size rfl).2 (by intro u hu; simp at hu; subst hu; rfl) (by omega) (by unfold maxLen; omega) (by omega) (Nat.zero_le _) (w3.heap.size + 1) (by simp) ?_; intro g4 cg4 w4 ho4 hg4 hat4 hl4; obtain ⟨c4, f4⟩ := (zA HR3).behind (by decide) hcl _ hg4; have HR4 := zB ((zA HR3).step (by decide) #[.slice (some ⟨b0, 0, none⟩) ps.length c0] w3.heap.size rfl ho4 hg4 hat4); have d4 := (zA HR4).cell hcl; clear ho4 hg4 hat4 hl4) | (at_builtin; refine wpList_append_lies _ rfl (.tmp 69) (.tmp 71) 63 rfl 0 30 j0 (.slice none 0 0) 1 24 Tryz.underlying63 hj hy0 hy1 hy2 rfl (by decide) _ (F.length + 1) _ rfl ((zA HR4).ready #[.slice ao1 (ps.length + 1) cc1] w4.heap.size (by simp [World.setCell])).1 ⟨w4.heap.size, 0, none⟩ 1 1 [.slice ao1 (ps.length + 1) cc1] rfl rfl ((zA HR4).ready #[.slice ao1 (ps.length + 1) cc1] w4.heap.size (by simp [World.setCell])).2 (by intro u hu; simp at hu; subst hu; rfl) (by omega) (by unfold maxLen; omega) (by omega) (Nat.zero_le _) (w4.heap.size + 1) (by simp [World.setCell]) ?_; intro g5 cg5 w5 ho5 hg5 hat5 hl5; obtain ⟨c5, f5⟩ := (zA HR4).behind (by decide) hcl _ hg5; have HR5 := zB ((zA HR4).step (by decide) #[.slice ao1 (ps.length + 1) cc1] w4.heap.size (by simp [World.setCell]) ho5 hg5 hat5); have d5 := (zA HR5).cell hcl; clear ho5 hg5 hat5 hl5) | (at_builtin; refine wpList_append_lies _ rfl (.tmp 79) (.tmp 81) 63 rfl 0 30 j0 (.slice none 0 0) 1 24 Tryz.underlying63 hj hy0 hy1 hy2 rfl (by decide) _ (F.length + 1 + 1) _ rfl ((zA HR5).ready #[.slice ao2 (ps.length + 2) cc2] w5.heap.size (by simp [World.setCell])).1 ⟨w5.heap.size, 0, none⟩ 1 1 [.slice ao2 (ps.length + 2) cc2] rfl rfl ((zA HR5).ready #[.slice ao2 (ps.length + 2) cc2] w5.heap.size (by simp [World.setCell])).2 (by intro u hu; simp at hu; subst hu; rfl) (by omega) (by unfold maxLen; omega) (by omega) (Nat.zero_le _) (w5.heap.size + 1) (by simp [World.setCell]) ?_; intro g6 cg6 w6 ho6 hg6 hat6 hl6; obtain ⟨c6, f6⟩ := (zA HR5).behind (by decide) hcl _ hg6; have HR6 := zB ((zA HR5).step (by decide) #[.slice ao2 (ps.length + 2) cc2] w5.heap.size (by simp [World.setCell]) ho6 hg6 hat6); have d6 := (zA HR6).cell hcl; clear ho6 hg6 hat6 hl6) | (at_builtin; refine wpList_append_lies _ rfl (.tmp 89) (.tmp 91) 63 rfl 0 30 j0 (.slice none 0 0) 1 24 Tryz.underlying63 hj hy0 hy1 hy2 rfl (by decide) _ (F.length + 1 + 1 + 1) _ rfl ((zA HR6).ready #[.slice ao3 (ps.length + 3) cc3] w6.heap.size (by simp [World.setCell])).1 ⟨w6.heap.size, 0, none⟩ 1 1 [.slice ao3 (ps.length + 3) cc3] rfl rfl ((zA HR6).ready #[.slice ao3 (ps.length + 3) cc3] w6.heap.size (by simp [World.setCell])).2 (by intro u hu; simp at hu; subst hu; rfl) (by omega) (by unfold maxLen; omega) (by omega) (Nat.zero_le _) (w6.heap.size + 1) (by simp [World.setCell]) ?_; intro g7 cg7 w7 ho7 hg7 hat7 hl7; obtain ⟨c7, f7⟩ := (zA HR6).behind (by decide) hcl _ hg7; have HR7 := zB ((zA HR6).step (by decide) #[.slice ao3 (ps.length + 3) cc3] w6.heap.size (by simp [World.setCell]) ho7 hg7 hat7); have d7 := (zA HR7).cell hcl; clear ho7 hg7 hat7 hl7))
     go_end0
     have hst := zA HR7
     have hpe := zA HPE
     have hw3 := zA HW3
     have m0 := zA HM03
     have m1 := zA HM13
     have m2 := zA HM23
     have m3 := zA HM33
     subst hpe
     have hs9 : ∀ b, (Sl.val ⟨some ⟨b0, 0, none⟩, ps.length, c0⟩).ownBlock = some b -> T' b = 9 /\ b < wm.heap.size := fun b hb => by
      have e : b0 = b := by simpa [Sl.val, Value.ownBlock] using hb
      obtain ⟨cur, hc⟩ := zK (zA HRW)
      rw [← e]; exact ⟨zA HT0, (Array.getElem?_eq_some_iff.1 hc).1⟩
     simp only [List.append_assoc] at hst
     have hK := kept4_of (s := ⟨some ⟨b0, 0, none⟩, ps.length, c0⟩) (s1 := ⟨ao1, ps.length + 1, cc1⟩) (s2 := ⟨ao2, ps.length + 2, cc2⟩) (s3 := ⟨ao3, ps.length + 3, cc3⟩) (E := F) (by rw [List.map_append]; exact hst) hw3 (zA HPB) (zA HPV) m0 m1 m2 m3 (by simp) (by simp) (by simp)
     exact ⟨rfl, _, _, _, _, _, _, (zA HWM).keepsL hK hs9 (by simp only []; omega), (zA HFRM).trans ((zA HWM).keepsLFr hK hs9), hEl, by simp, mb.le_upd _ _⟩
end Go.Proofs.YtfpohfifdfbpkaaGreatDoor
