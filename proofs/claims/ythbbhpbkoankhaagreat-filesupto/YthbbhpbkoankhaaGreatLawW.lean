import Derived.Test.YthbbhpbkoankhaaGreatMarks
namespace Go.Proofs.YthbbhpbkoankhaaGreat
open Go.RowKit Scour Go.Lib

/-- A machine of the program, and the document's: blocks, patterns, states. -/
structure Ent where
  bm : Nat
  br : Nat
  ps : List Str
  S : List Str

/-- Both lie in memory, in blocks of the tag 1. -/
structure EntOK (w : World) (T : Nat → Nat) (e : Ent) : Prop where
  mach : ∃ bt be g, Mach w e.bm bt be g e.ps e.S ∧ T e.bm = 1 ∧ T bt = 1 ∧ T be = 1 ∧ ∀ k, k ∈ g → T k = 1
  rmach : ∃ vL gS cS, RMach w e.br vL gS cS e.ps e.S ∧ T e.br = 1 ∧ T gS = 1 ∧ ∀ b, vL.ownBlock = some b → T b = 1
  ok : (chk e.ps).1 = 0

theorem RMach.same {w w' : World} {br gS cS : Nat} {vL : Value} {ps S : List Str} (h : RMach w br vL gS cS ps S) (hb : ∀ k, k < w.heap.size → (k = br ∨ k = gS ∨ vL.ownBlock = some k) → w'.heap[k]? = w.heap[k]?) : RMach w' br vL gS cS ps S :=
  ⟨(hb br (Array.getElem?_eq_some_iff.1 h.blk).1 (Or.inl rfl)).trans h.blk, owns_kept h.lrow (fun b hl hv => hb b hl (Or.inr (Or.inr hv))), owns_kept h.srow (fun b hl hv => hb b hl (Or.inr (Or.inl (by simpa [Value.ownBlock] using hv.symm)))), h.sorted, h.pos, h.head, h.closed, h.len⟩

theorem EntOK.same {w w' : World} {T T' : Nat → Nat} {e : Ent} (h : EntOK w T e) (hs : w.heap.size ≤ w'.heap.size) (hk : ∀ k, k < w.heap.size → T k = 1 → w'.heap[k]? = w.heap[k]?) (hT : ∀ k, k < w.heap.size → T k = 1 → T' k = 1) : EntOK w' T' e := by
  obtain ⟨bt, be, g, hM, t1, t2, t3, t4⟩ := h.mach
  obtain ⟨vL, gS, cS, hR, r1, r2, r3⟩ := h.rmach
  obtain ⟨l1, l2, l3, l4⟩ := hM.lts
  have lbr := (Array.getElem?_eq_some_iff.1 hR.blk).1
  obtain ⟨cur, hcur⟩ := owns_blk hR.srow
  have lgS := (Array.getElem?_eq_some_iff.1 hcur).1
  refine ⟨⟨bt, be, g, hM.same hs ?_, hT _ l1 t1, hT _ l2 t2, hT _ l3 t3, fun k hk => hT k (l4 k hk) (t4 k hk)⟩, ⟨vL, gS, cS, hR.same ?_, hT _ lbr r1, hT _ lgS r2, ?_⟩, h.ok⟩
  · rintro k (rfl | rfl | rfl | hg)
    · exact hk _ l1 t1
    · exact hk _ l2 t2
    · exact hk _ l3 t3
    · exact hk _ (l4 k hg) (t4 k hg)
  · rintro k hl (rfl | rfl | hv)
    · exact hk _ hl r1
    · exact hk _ hl r2
    · exact hk _ hl (r3 k hv)
  · intro b hb
    obtain ⟨cur, hc⟩ := owns_block hR.lrow hb
    exact hT b (Array.getElem?_eq_some_iff.1 hc).1 (r3 b hb)

/-- The rows of the book: lists that came out, in groups of four, each group in blocks of a tag of its own. -/
structure BookOK (w : World) (T : Nat → Nat) (rt et tr : Nat) (tg : Nat → Nat) (x : Nat → Value) (v : Value) (E : List Sl) : Prop where
  row : w.ownsRow 0 rt 1 v E.length (E.map Sl.val)
  own : ∀ b, v.ownBlock = some b → T b = tr
  each : ∀ i s, E[i]? = some s → Marks w et (x i) (fun b => T b = tg i) s
  four : E.length % 4 = 0
  lens : ∀ s, s ∈ E → s.n < 1000000000

theorem BookOK.same {w w' : World} {T T' : Nat → Nat} {rt et tr : Nat} {tg : Nat → Nat} {x : Nat → Value} {v : Value} {E : List Sl} (h : BookOK w T rt et tr tg x v E) (hk : ∀ k, k < w.heap.size → (T k = tr ∨ ∃ i, T k = tg i) → w'.heap[k]? = w.heap[k]?) (hT : ∀ k, k < w.heap.size → (T k = tr ∨ ∃ i, T k = tg i) → T' k = T k) : BookOK w' T' rt et tr tg x v E := by
  refine ⟨owns_kept h.row (fun b hl hv => hk b hl (Or.inl (h.own b hv))), fun b hb => ?_, fun i s hs => ?_, h.four, h.lens⟩
  · obtain ⟨cur, hc⟩ := owns_block h.row hb
    rw [hT b (Array.getElem?_eq_some_iff.1 hc).1 (Or.inl (h.own b hb))]; exact h.own b hb
  · have hm := h.each i s hs
    have hm2 := hm.same (w' := w') (fun b hl hp => hk b hl (Or.inr ⟨i, hp⟩))
    refine hm2.weaken (fun b hb hp => ?_)
    obtain ⟨cur, hc⟩ := owns_block hm.row hb
    rw [hT b (Array.getElem?_eq_some_iff.1 hc).1 (Or.inr ⟨i, hp⟩)]; exact hp

def bx (i : Nat) : Value := .int .u8 (markN i)
def lxs (mb : Nat → Nat) (i : Nat) : Value := .slice (some ⟨mb (i / 4), 0, none⟩) (1 + i / 4) (1 + i / 4)
def btag (i : Nat) : Nat := 10 + 2 * (i / 4)
def ltag (i : Nat) : Nat := 11 + 2 * (i / 4)
def pairCells (M : List Ent) : List Value := M.flatMap fun e => [.pointer (some ⟨e.bm, 0, none⟩), .pointer (some ⟨e.br, 0, none⟩)]

/-- All that a script has made. T: which structure a block belongs to: 0 what was there ahead of it, 1 machines, 2 the struct itself, 3 the row of machines, 4, 5 the book's two rows, 9 nothing's, from 10 on the book's groups. -/
structure LW (w : World) (bw : Nat) (T : Nat → Nat) (M : List Ent) (vms vby vli : Value) (E F : List Sl) (mb : Nat → Nat) : Prop where
  blk : w.heap[bw]? = some (.cells #[vms, .slice none 0 0, vby, vli, .slice none 0 0] 36 (0, 0))
  tbw : T bw = 2
  ms : w.ownsRow 0 55 2 vms M.length (pairCells M)
  msown : ∀ b, vms.ownBlock = some b → T b = 3
  ents : ∀ e, e ∈ M → EntOK w T e
  bytes : BookOK w T 57 5 4 btag bx vby E
  lists : BookOK w T 30 57 5 ltag (lxs mb) vli F
  fresh : ∀ k, w.heap.size ≤ k → T k = 9

/-- What turns free blocks alone turns nothing of it. -/
theorem LW.kept {w w' : World} {bw : Nat} {T : Nat → Nat} {M : List Ent} {vms vby vli : Value} {E F : List Sl} {mb : Nat → Nat} (h : LW w bw T M vms vby vli E F mb) (hs : w.heap.size ≤ w'.heap.size) (hk : ∀ k, k < w.heap.size → T k ≠ 9 → w'.heap[k]? = w.heap[k]?) : LW w' bw T M vms vby vli E F mb := by
  have hbl := (Array.getElem?_eq_some_iff.1 h.blk).1
  refine ⟨(hk bw hbl (by rw [h.tbw]; decide)).trans h.blk, h.tbw, owns_kept h.ms (fun b hl hv => hk b hl (by rw [h.msown b hv]; decide)), h.msown, fun e he => (h.ents e he).same hs (fun k hl ht => hk k hl (by rw [ht]; decide)) (fun _ _ ht => ht), ?_, ?_, fun k hl => h.fresh k (by omega)⟩
  · exact h.bytes.same (fun k hl ht => hk k hl (by rcases ht with ht | ⟨i, ht⟩ <;> rw [ht]; decide; unfold btag; omega)) (fun _ _ _ => rfl)
  · exact h.lists.same (fun k hl ht => hk k hl (by rcases ht with ht | ⟨i, ht⟩ <;> rw [ht]; decide; unfold ltag; omega)) (fun _ _ _ => rfl)

theorem LW.below {w w' : World} {bw : Nat} {T : Nat → Nat} {M : List Ent} {vms vby vli : Value} {E F : List Sl} {mb : Nat → Nat} (h : LW w bw T M vms vby vli E F mb) (hb : Below w.heap.size w w') : LW w' bw T M vms vby vli E F mb := h.kept hb.size (fun k hl _ => hb.block k hl)

theorem div4 {n j : Nat} (h : n % 4 = 0) (hj : j < 4) : (n + j) / 4 = n / 4 := by omega

/-- One group more. -/
theorem BookOK.more {w w' : World} {T : Nat → Nat} {rt et tr bk o ty : Nat} {cs : Array Value} {tg : Nat → Nat} {x : Nat → Value} {v v' : Value} {E : List Sl} {s s1 s2 s3 : Sl} (h : BookOK w T rt et tr tg x v E) (hK : Kept4 w w' bk o cs ty rt et v E s (x E.length) s1 s2 s3 v') (T' : Nat → Nat)
    (hT : ∀ k, k < w.heap.size → (T k = tr ∨ ∃ i, T k = tg i) → T' k = T k) (hx : ∀ j, j < 4 → x (E.length + j) = x E.length) (htg : ∀ j, j < 4 → tg (E.length + j) = tg E.length)
    (hs9 : ∀ b, s.val.ownBlock = some b → ∀ i, T b ≠ tg i) (hbk : ∀ i, T bk ≠ tg i) (htr : ∀ i, tr ≠ tg i) (hsn : s.n + 3 < 1000000000)
    (hv' : ∀ b, v'.ownBlock = some b → T' b = tr) (hgr : ∀ b t, t ∈ [s, s1, s2, s3] → t.val.ownBlock = some b → T' b = tg E.length) : BookOK w' T' rt et tr tg x v' (E ++ [s, s1, s2, s3]) := by
  refine ⟨?_, hv', ?_, ?_, ?_⟩
  · have := hK.row
    rw [show (E ++ [s, s1, s2, s3]).length = E.length + 4 by simp]
    exact this
  · intro i t ht
    by_cases hi : i < E.length
    · rw [List.getElem?_append_left hi] at ht
      have hm := h.each i t ht
      have hm2 := hm.same (w' := w') (fun b hl hp => hK.frame b hl (fun e => hbk i (by rw [← e]; exact hp)) (fun e => htr i (by rw [← h.own b e]; exact hp)) (fun e => hs9 b e i hp))
      refine hm2.weaken (fun b hb hp => ?_)
      obtain ⟨cur, hc⟩ := owns_block hm.row hb
      rw [hT b (Array.getElem?_eq_some_iff.1 hc).1 (Or.inr ⟨i, hp⟩)]; exact hp
    · rw [List.getElem?_append_right (by omega)] at ht
      have hj := (List.getElem?_eq_some_iff.1 ht).1
      simp only [List.length_cons, List.length_nil] at hj
      have hmem : t ∈ [s, s1, s2, s3] := List.mem_of_getElem? ht
      have hi4 : i = E.length + (i - E.length) := by omega
      rw [hi4, hx _ (by omega)]
      refine (hK.marks t hmem).weaken (fun b hb _ => ?_)
      rw [htg _ (by omega)]
      exact hgr b t hmem hb
  · have := h.four
    simp; omega
  · intro t ht
    rcases List.mem_append.1 ht with h1 | h1
    · exact h.lens t h1
    · have := hK.lens t h1; omega

theorem btag_ne {i t : Nat} (h : t < 10 ∨ t % 2 = 1) : t ≠ btag i := by unfold btag; omega
theorem ltag_ne {i t : Nat} (h : t < 10 ∨ t % 2 = 0) : t ≠ ltag i := by unfold ltag; omega

/-- The tags behind a group. -/
def tagsN (T : Nat → Nat) (w w' : World) (s : Sl) (v' : Value) (tr tg : Nat) : Nat → Nat := fun k =>
  if k < w.heap.size then (if s.val.ownBlock = some k then tg else T k) else if v'.ownBlock = some k then tr else if k < w'.heap.size then tg else 9

theorem tagsN_old {T : Nat → Nat} {w w' : World} {s : Sl} {v' : Value} {tr tg k : Nat} (hk : k < w.heap.size) (hs : s.val.ownBlock ≠ some k) : tagsN T w w' s v' tr tg k = T k := by
  unfold tagsN; rw [if_pos hk, if_neg hs]

/-- One group of bytes more. -/
theorem LW.keeps {w w' : World} {bw : Nat} {T : Nat → Nat} {M : List Ent} {vms vby vli vby' : Value} {E F : List Sl} {mb : Nat → Nat} {s s1 s2 s3 : Sl} (h : LW w bw T M vms vby vli E F mb) (hK : Kept4 w w' bw 2 #[vms, .slice none 0 0, vby, vli, .slice none 0 0] 36 57 5 vby E s (bx E.length) s1 s2 s3 vby')
    (hs9 : ∀ b, s.val.ownBlock = some b → T b = 9 ∧ b < w.heap.size) (hsn : s.n + 3 < 1000000000) :
    LW w' bw (tagsN T w w' s vby' 4 (btag E.length)) M vms vby' vli (E ++ [s, s1, s2, s3]) F mb := by
  have hbl := (Array.getElem?_eq_some_iff.1 h.blk).1
  have hsz := hK.size
  have hne9 : ∀ k, T k ≠ 9 → s.val.ownBlock ≠ some k := fun k hk e => hk (hs9 k e).1
  have hold : ∀ k, k < w.heap.size → T k ≠ 9 → T k ≠ 2 → T k ≠ 4 → w'.heap[k]? = w.heap[k]? := fun k hl h9 h2 h4 => hK.frame k hl (fun e => h2 (by rw [e]; exact h.tbw)) (fun e => h4 (h.bytes.own k e)) (hne9 k h9)
  have hTo : ∀ k, k < w.heap.size → T k ≠ 9 → tagsN T w w' s vby' 4 (btag E.length) k = T k := fun k hl h9 => tagsN_old hl (hne9 k h9)
  have hf := h.bytes.four
  refine ⟨?_, ?_, ?_, ?_, ?_, ?_, ?_, ?_⟩
  · exact hK.blk
  · rw [hTo bw hbl (by rw [h.tbw]; decide)]; exact h.tbw
  · exact owns_kept h.ms (fun b hl hv => hold b hl (by rw [h.msown b hv]; decide) (by rw [h.msown b hv]; decide) (by rw [h.msown b hv]; decide))
  · intro b hb
    obtain ⟨cur, hc⟩ := owns_block h.ms hb
    rw [hTo b (Array.getElem?_eq_some_iff.1 hc).1 (by rw [h.msown b hb]; decide)]; exact h.msown b hb
  · exact fun e he => (h.ents e he).same hsz (fun k hl ht => hold k hl (by rw [ht]; decide) (by rw [ht]; decide) (by rw [ht]; decide)) (fun k hl ht => by rw [hTo k hl (by rw [ht]; decide)]; exact ht)
  · refine h.bytes.more hK _ ?_ ?_ ?_ ?_ ?_ ?_ hsn ?_ ?_
    · intro k hl ht
      refine hTo k hl ?_
      rcases ht with ht | ⟨i, ht⟩ <;> rw [ht]
      · decide
      · exact fun e => btag_ne (i := i) (t := 9) (by omega) e.symm
    · intro j hj; unfold bx markN; rw [div4 hf hj]
    · intro j hj; unfold btag; rw [div4 hf hj]
    · intro b hb i; rw [(hs9 b hb).1]; exact btag_ne (by omega)
    · intro i; rw [h.tbw]; exact btag_ne (by omega)
    · intro i; exact btag_ne (by omega)
    · intro b hb
      rcases hK.lies with e | e
      · have h4 := h.bytes.own b (e ▸ hb)
        obtain ⟨cur, hc⟩ := owns_block h.bytes.row (e ▸ hb)
        rw [hTo b (Array.getElem?_eq_some_iff.1 hc).1 (by rw [h4]; decide)]; exact h4
      · have := e b hb
        unfold tagsN
        rw [if_neg (by omega), if_pos hb]
    · intro b t ht hb
      have hm := hK.marks t ht
      obtain ⟨cur, hc⟩ := owns_block hm.row hb
      have hlb := (Array.getElem?_eq_some_iff.1 hc).1
      rcases hm.own b hb with e | e
      · unfold tagsN
        rw [if_pos (hs9 b e).2, if_pos e]
      · unfold tagsN
        rw [if_neg (by omega), if_neg (fun e2 => ?_), if_pos hlb]
        obtain ⟨cur2, hc2⟩ := owns_block hK.row e2
        exact two_types hc2 hc (by decide) rfl
  · refine h.lists.same (fun k hl ht => ?_) (fun k hl ht => ?_)
    · refine hold k hl ?_ ?_ ?_ <;> rcases ht with ht | ⟨i, ht⟩ <;> rw [ht] <;> first | decide | (unfold ltag; omega)
    · refine hTo k hl ?_
      rcases ht with ht | ⟨i, ht⟩ <;> rw [ht] <;> first | decide | (unfold ltag; omega)
  · intro k hl
    have hv : vby'.ownBlock ≠ some k := fun e => by
      obtain ⟨cur, hc⟩ := owns_block hK.row e
      have := (Array.getElem?_eq_some_iff.1 hc).1
      omega
    unfold tagsN
    rw [if_neg (by omega), if_neg hv, if_neg (by omega)]

/-- One group of lists more. -/
theorem LW.keepsL {w w' : World} {bw bm : Nat} {T : Nat → Nat} {M : List Ent} {vms vby vli vli' : Value} {E F : List Sl} {mb : Nat → Nat} {s s1 s2 s3 : Sl} (h : LW w bw T M vms vby vli E F mb) (hK : Kept4 w w' bw 3 #[vms, .slice none 0 0, vby, vli, .slice none 0 0] 36 30 57 vli F s (.slice (some ⟨bm, 0, none⟩) (1 + F.length / 4) (1 + F.length / 4)) s1 s2 s3 vli')
    (hs9 : ∀ b, s.val.ownBlock = some b → T b = 9 ∧ b < w.heap.size) (hsn : s.n + 3 < 1000000000) :
    LW w' bw (tagsN T w w' s vli' 5 (ltag F.length)) M vms vby vli' E (F ++ [s, s1, s2, s3]) (updN mb (F.length / 4) bm) := by
  have hbl := (Array.getElem?_eq_some_iff.1 h.blk).1
  have hsz := hK.size
  have hne9 : ∀ k, T k ≠ 9 → s.val.ownBlock ≠ some k := fun k hk e => hk (hs9 k e).1
  have hold : ∀ k, k < w.heap.size → T k ≠ 9 → T k ≠ 2 → T k ≠ 5 → w'.heap[k]? = w.heap[k]? := fun k hl h9 h2 h4 => hK.frame k hl (fun e => h2 (by rw [e]; exact h.tbw)) (fun e => h4 (h.lists.own k e)) (hne9 k h9)
  have hTo : ∀ k, k < w.heap.size → T k ≠ 9 → tagsN T w w' s vli' 5 (ltag F.length) k = T k := fun k hl h9 => tagsN_old hl (hne9 k h9)
  have hf := h.lists.four
  have hx0 : lxs (updN mb (F.length / 4) bm) F.length = .slice (some ⟨bm, 0, none⟩) (1 + F.length / 4) (1 + F.length / 4) := by unfold lxs updN; rw [if_pos rfl]
  have hlist : BookOK w T 30 57 5 ltag (lxs (updN mb (F.length / 4) bm)) vli F := ⟨h.lists.row, h.lists.own, fun i t ht => by
    have hi := (List.getElem?_eq_some_iff.1 ht).1
    have e : lxs (updN mb (F.length / 4) bm) i = lxs mb i := by unfold lxs updN; rw [if_neg (by omega)]
    rw [e]; exact h.lists.each i t ht, h.lists.four, h.lists.lens⟩
  refine ⟨?_, ?_, ?_, ?_, ?_, ?_, ?_, ?_⟩
  · exact hK.blk
  · rw [hTo bw hbl (by rw [h.tbw]; decide)]; exact h.tbw
  · exact owns_kept h.ms (fun b hl hv => hold b hl (by rw [h.msown b hv]; decide) (by rw [h.msown b hv]; decide) (by rw [h.msown b hv]; decide))
  · intro b hb
    obtain ⟨cur, hc⟩ := owns_block h.ms hb
    rw [hTo b (Array.getElem?_eq_some_iff.1 hc).1 (by rw [h.msown b hb]; decide)]; exact h.msown b hb
  · exact fun e he => (h.ents e he).same hsz (fun k hl ht => hold k hl (by rw [ht]; decide) (by rw [ht]; decide) (by rw [ht]; decide)) (fun k hl ht => by rw [hTo k hl (by rw [ht]; decide)]; exact ht)
  · refine h.bytes.same (fun k hl ht => ?_) (fun k hl ht => ?_)
    · refine hold k hl ?_ ?_ ?_ <;> rcases ht with ht | ⟨i, ht⟩ <;> rw [ht] <;> first | decide | (unfold btag; omega)
    · refine hTo k hl ?_
      rcases ht with ht | ⟨i, ht⟩ <;> rw [ht] <;> first | decide | (unfold btag; omega)
  · refine hlist.more (hx0.symm ▸ hK) _ ?_ ?_ ?_ ?_ ?_ ?_ hsn ?_ ?_
    · intro k hl ht
      refine hTo k hl ?_
      rcases ht with ht | ⟨i, ht⟩ <;> rw [ht]
      · decide
      · exact fun e => ltag_ne (i := i) (t := 9) (by omega) e.symm
    · intro j hj; unfold lxs; rw [div4 hf hj]
    · intro j hj; unfold ltag; rw [div4 hf hj]
    · intro b hb i; rw [(hs9 b hb).1]; exact ltag_ne (by omega)
    · intro i; rw [h.tbw]; exact ltag_ne (by omega)
    · intro i; exact ltag_ne (by omega)
    · intro b hb
      rcases hK.lies with e | e
      · have h4 := h.lists.own b (e ▸ hb)
        obtain ⟨cur, hc⟩ := owns_block h.lists.row (e ▸ hb)
        rw [hTo b (Array.getElem?_eq_some_iff.1 hc).1 (by rw [h4]; decide)]; exact h4
      · have := e b hb
        unfold tagsN
        rw [if_neg (by omega), if_pos hb]
    · intro b t ht hb
      have hm := hK.marks t ht
      obtain ⟨cur, hc⟩ := owns_block hm.row hb
      have hlb := (Array.getElem?_eq_some_iff.1 hc).1
      rcases hm.own b hb with e | e
      · unfold tagsN
        rw [if_pos (hs9 b e).2, if_pos e]
      · unfold tagsN
        rw [if_neg (by omega), if_neg (fun e2 => ?_), if_pos hlb]
        obtain ⟨cur2, hc2⟩ := owns_block hK.row e2
        exact two_types hc2 hc (by decide) rfl
  · intro k hl
    have hv : vli'.ownBlock ≠ some k := fun e => by
      obtain ⟨cur, hc⟩ := owns_block hK.row e
      have := (Array.getElem?_eq_some_iff.1 hc).1
      omega
    unfold tagsN
    rw [if_neg (by omega), if_neg hv, if_neg (by omega)]
end Go.Proofs.YthbbhpbkoankhaaGreat
