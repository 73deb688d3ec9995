import Derived.Test.YtibkhphbilfckaaGreatDoorNum
import Derived.Test.YtibkhphbilfckaaGreatDoorPackDef
import Derived.Test.YtibkhphbilfckaaGreatDoorMarks
namespace Go.Proofs.YtibkhphbilfckaaGreatDoor
open Go.RowKit Scour Go.Lib

theorem any_take {α : Type} (l : List α) (f : α → Bool) (k : Nat) (h : k < l.length) : (l.take (k + 1)).any f = ((l.take k).any f || f l[k]) := by
  rw [List.take_succ_eq_append_getElem h, List.any_append]; simp

theorem any_of_take {α : Type} (l : List α) (f : α → Bool) (k : Nat) (h : (l.take k).any f = true) : l.any f = true := by
  rw [List.any_eq_true] at h ⊢
  obtain ⟨x, hx, hf⟩ := h
  exact ⟨x, List.mem_of_mem_take hx, hf⟩

set_option maxHeartbeats 4000000 in
set_option maxRecDepth 100000 in
theorem classes_any (br gS cS : Nat) (vL : Value) (ps S : List Str) (w : World) (hM : RMach w br vL gS cS ps S) (hps : ps.length ≤ 64) (hpl : ∀ i, i < ps.length → (pat ps i).length ≤ 64) :
    Calls Tryz.prog 96 #[.pointer (some ⟨br, 0, none⟩)] w fun e w' => e = .returned (.string ⟨(clsL ps).toArray⟩) ∧ Below w.heap.size w w' := by
  obtain ⟨j0, hj, hy0, hy1, hy2⟩ := info_parts Tryz.infoB
  obtain ⟨aL, cL, hvL⟩ : ∃ aL cL, vL = .slice aL ps.length cL := by
    rcases hM.lrow.2 with ⟨h, h0⟩ | ⟨g, cap, cur, h, _⟩
    · exact ⟨none, 0, by rw [h, h0]⟩
    · exact ⟨_, cap, h⟩
  subst hvL
  have HCE : Hid (∀ W, Below w.heap.size w W → W.cell? ⟨br, 0, none⟩ = some (.slice aL ps.length cL) ∧ (0 < ps.length → ∃ gL, aL = some ⟨gL, 0, none⟩ ∧ ∀ i, i < ps.length → W.cell? ⟨gL, i, none⟩ = some (.string ⟨(pat ps i).toArray⟩))) := hide (fun W hb => by
    have hM2 := hM.below hb
    refine ⟨by rw [cell_of_blk hM2.blk]; rfl, fun h0 => ?_⟩
    rcases hM2.lrow.2 with ⟨h, h1⟩ | ⟨gL, cap, cur, h, _, hg, _⟩
    · omega
    · obtain ⟨rfl, rfl⟩ : aL = some ⟨gL, 0, none⟩ ∧ cL = cap := by simpa using h
      exact ⟨gL, rfl, fun i hi => cellT hM2.lrow rfl i hi⟩)
  have HPL := hide hpl
  clear hM hpl
  go_enter Tryz.func96, Tryz.ntmps96
  go_wp2
  go_loopw [3, 4] (fun v3 v4 wr => ∃ b : Nat, v4 = .int .i64 b ∧ b ≤ 256 ∧ Hid (wr.ownsRow w.heap.size 5 1 v3 (clsTo ps b).length ((clsTo ps b).map encB)) ∧ Hid (Below w.heap.size w wr)) (fun _ v4 _ => 256 - (intOf v4).toNat)
  case atStart => exact ⟨0, rfl, Nat.zero_le _, hide (World.ownsRow_nil _ _ _ _), hide (Below.refl _ _)⟩
  case round =>
    obtain ⟨b, rfl, hb, HO, HB⟩ := hrel
    obtain ⟨c0, hLc⟩ := unhide HCE wr (unhide HB)
    have HLC := hide hLc
    have hsz := (unhide HB).size
    clear hLc
    by_cases hlt : b < 256
    · have i1 : (b : Int) < 256 := by omega
      go_wp2
      go_loop [5, 6] (fun v5 v6 => ∃ (i : Nat) (x : Bool), v5 = .bool x ∧ v6 = .int .i64 i ∧ i ≤ ps.length ∧ Hid (x = (ps.take i).any fun p => p.any fun c => c.toNat == b)) (fun _ v6 => ps.length - (intOf v6).toNat)
      case atStart => exact ⟨0, false, rfl, rfl, Nat.zero_le _, hide (by simp)⟩
      case round =>
        obtain ⟨i, x, rfl, rfl, hi, HX⟩ := hrel
        by_cases hgo : i < ps.length ∧ x = false
        · obtain ⟨hil, rfl⟩ := hgo
          obtain ⟨gL, rfl, hcell⟩ := unhide HLC (by omega)
          have c1 := hcell i hil
          have hpi := unhide HPL i hil
          have hsz : (⟨(pat ps i).toArray⟩ : ByteArray).size = (pat ps i).length := by simp [ByteArray.size]
          have HTK : Hid (∀ k (hk : k < (⟨(pat ps i).toArray⟩ : ByteArray).size), ((pat ps i).take (k + 1)).any (fun c => c.toNat == b) = (((pat ps i).take k).any (fun c => c.toNat == b) || ((⟨(pat ps i).toArray⟩ : ByteArray)[k].toNat == b))) := hide (fun k hk => by
            rw [any_take _ _ k (by rw [← hsz]; exact hk)]; rfl)
          have HEND : Hid ((ps.take (i + 1)).any (fun p => p.any fun c => c.toNat == b) = (pat ps i).any (fun c => c.toNat == b)) := hide (by
            rw [any_take _ _ i hil, ← unhide HX]
            simp [pat, List.getD, hil])
          have j1 : (i : Int) < (ps.length : Int) := by omega
          have j2 : (0 : Int) ≤ (i : Int) := by omega
          rw [← hsz] at hpi
          have HSZ := hide hsz
          clear hsz hcell
          generalize (⟨(pat ps i).toArray⟩ : ByteArray) = tx at *
          go_wp2
          go_loop [5, 7] (fun v5 v7 => ∃ (k : Nat) (x : Bool), v5 = .bool x ∧ v7 = .int .i64 k ∧ k ≤ tx.size ∧ Hid (x = ((pat ps i).take k).any fun c => c.toNat == b)) (fun _ v7 => tx.size - (intOf v7).toNat)
          case atStart => exact ⟨0, false, rfl, rfl, Nat.zero_le _, hide (by simp)⟩
          case round =>
            obtain ⟨k, x, rfl, rfl, hk, HX2⟩ := hrel
            by_cases hkl : k < tx.size
            · have HT := hide (unhide HTK k hkl)
              have hu : tx[k].toNat < 256 := tx[k].toNat_lt
              have k1 : (k : Int) < (tx.size : Int) := by omega
              cases x with
              | true =>
                have HX3 : Hid (true = ((pat ps i).take (k + 1)).any fun c => c.toNat == b) := hide (by rw [unhide HT, ← unhide HX2]; rfl)
                go_wp2
                go_round
                case rel => exact ⟨k + 1, true, rfl, by go_num, hkl, HX3⟩
                case measure => simp [intOf]; omega
              | false =>
                by_cases he : tx[k].toNat = b
                · have HX3 : Hid (true = ((pat ps i).take (k + 1)).any fun c => c.toNat == b) := hide (by rw [unhide HT, ← unhide HX2, he]; simp)
                  have e1 : ((tx[k].toNat : Int) == (b : Int)) = true := by rw [he]; simp
                  clear he
                  go_wp2
                  go_round
                  case rel => exact ⟨k + 1, true, rfl, by go_num, hkl, HX3⟩
                  case measure => simp [intOf]; omega
                · have HX3 : Hid (false = ((pat ps i).take (k + 1)).any fun c => c.toNat == b) := hide (by rw [unhide HT, ← unhide HX2]; simp [he])
                  have e1 : ((tx[k].toNat : Int) == (b : Int)) = false := by simp only [beq_eq_false_iff_ne, ne_eq]; omega
                  clear he
                  go_wp2
                  go_round
                  case rel => exact ⟨k + 1, false, rfl, by go_num, hkl, HX3⟩
                  case measure => simp [intOf]; omega
            · obtain rfl : k = tx.size := by omega
              have k1 : ¬ (tx.size : Int) < (tx.size : Int) := by omega
              have HX3 : Hid (x = (ps.take (i + 1)).any fun p => p.any fun c => c.toNat == b) := hide (by
                rw [unhide HX2, unhide HEND, unhide HSZ, List.take_length])
              go_wp2
              go_round
              case rel => exact ⟨i + 1, x, rfl, by go_num, hil, HX3⟩
              case measure => simp [intOf]; omega
        · have HOC : Hid (occB ps b = x) := hide (by
            cases x with
            | true => exact any_of_take _ _ i (unhide HX).symm
            | false =>
              have : i = ps.length := by
                rcases Nat.lt_or_ge i ps.length with h | h
                · exact absurd ⟨h, rfl⟩ hgo
                · omega
              subst this
              have := unhide HX
              rw [List.take_length] at this
              exact this.symm)
          have HSU := hide (clsTo_succ ps b)
          have hcl := clsTo_len ps b
          cases x with
          | true =>
            have HNX : Hid (∀ g' cap' w4, w4.ownsRow w.heap.size 5 1 (.slice (some ⟨g', 0, none⟩) ((clsTo ps b).length + 1) cap') ((clsTo ps b).length + 1) ((clsTo ps b).map encB ++ [.int .u8 b]) → (wr.alloc (.cells #[.int .u8 b] 5)).grownBy w4 u3.ownBlock → (u3.ownBlock = some g' ∨ g' = wr.heap.size + 1) → w4.ownsRow w.heap.size 5 1 (.slice (some ⟨g', 0, none⟩) ((clsTo ps b).length + 1) cap') (clsTo ps (b + 1)).length ((clsTo ps (b + 1)).map encB) ∧ Below w.heap.size w w4) := hide (fun g' cap' w4 ho hg hat => by
              have e2 : clsTo ps (b + 1) = clsTo ps b ++ [UInt8.ofNat b] := by rw [unhide HSU, unhide HOC]; rfl
              have e3 : encB (UInt8.ofNat b) = .int .u8 b := by
                unfold encB
                rw [UInt8.toNat_ofNat', Nat.mod_eq_of_lt hlt]
              refine ⟨?_, (own_step ((unhide HB).alloc hsz _) (by simp; omega) (own_lt (unhide HO)) hg hat (by simp)).1⟩
              rw [e2, List.length_append, List.map_append, List.map_singleton, e3]
              exact ho)
            clear HOC HSU HX
            by_cases j1 : (i : Int) < (ps.length : Int)
            all_goals
              go_wp2_with (at_builtin; refine wpList_append_lies _ rfl (.tmp 53) (.tmp 56) 27 rfl w.heap.size 5 j0 (.int .u8 0) 1 1 Tryz.underlying27 hj hy0 hy1 hy2 rfl (by decide) _ (clsTo ps b).length ((clsTo ps b).map encB) rfl ((unhide HO).alloc _) ⟨wr.heap.size, 0, none⟩ 1 1 [.int .u8 b] rfl rfl (World.news_of_block (heap_alloc_new wr _)) (by intro u hu; simp at hu; subst hu; rfl) (by omega) (by unfold maxLen; omega) (by omega) (by simp; omega) (wr.heap.size + 1) (by simp) ?_; intro g' cap' w4 hown' hgrow hat hlt'; obtain ⟨k1, k2⟩ := unhide HNX g' cap' w4 hown' hgrow hat; have HK1 := hide k1; have HK2 := hide k2; clear hown' hgrow hat k1 k2)
              go_roundw
              case rel => exact ⟨b + 1, by go_num, hlt, HK1, HK2⟩
              case measure => simp [intOf]; omega
          | false =>
            obtain rfl : i = ps.length := by
              rcases Nat.lt_or_ge i ps.length with h | h
              · exact absurd ⟨h, rfl⟩ hgo
              · omega
            have HO2 : Hid (wr.ownsRow w.heap.size 5 1 u3 (clsTo ps (b + 1)).length ((clsTo ps (b + 1)).map encB)) := hide (by
              have e2 : clsTo ps (b + 1) = clsTo ps b := by rw [unhide HSU, unhide HOC]; simp
              rw [e2]; exact unhide HO)
            clear HOC HSU HX
            have j1 : ¬ (ps.length : Int) < (ps.length : Int) := by omega
            go_wp2
            go_roundw
            case rel => exact ⟨b + 1, by go_num, hlt, HO2, HB⟩
            case measure => simp [intOf]; omega
    · obtain rfl : b = 256 := by omega
      have HE : Hid (clsTo ps 256 = clsL ps) := hide rfl
      rcases (unhide HO).2 with ⟨rfl, h0⟩ | ⟨g, cap, cur, rfl, _⟩
      · have HE2 : Hid (clsL ps = []) := hide (by rw [← unhide HE]; exact List.length_eq_zero_iff.1 h0)
        clear h0
        have hcv := run_convert_nil_bytes (P := Tryz.prog) wr 27 9 5 0 Tryz.underlying27 Tryz.underlying5 Tryz.underlying9
        go_wp2
        go_ret
        exact ⟨by rw [unhide HE2]; rfl, unhide HB⟩
      · have hcv : (convert 27 9 (.slice (some ⟨g, 0, none⟩) (clsTo ps 256).length cap)).run Tryz.prog wr = .ok (.string ⟨(clsTo ps 256).toArray⟩) wr := conv_back (fun j hj => by
          rw [Nat.zero_add, (unhide HO).cellAt j (by simpa using hj)]
          simp [encB, hj, List.getD])
        generalize clsTo ps 256 = cs at *
        go_wp2
        go_ret
        exact ⟨by rw [← unhide HE]; rfl, unhide HB⟩
end Go.Proofs.YtibkhphbilfckaaGreatDoor

namespace Go.Proofs.YtibkhphbilfckaaGreatDoor
open Go.RowKit Scour Go.Lib

/-- Lists of numbers in memory, and the list of them. -/
structure Owns (w : World) (base : Nat) (v : Value) (rs : Nat → Value) (L : Nat → List (Nat × Nat)) (n : Nat) : Prop where
  row : w.ownsRow base 24 1 v n ((List.range n).map rs)
  each : ∀ i, i < n → w.ownsRow base 3 1 (rs i) (2 * (L i).length) (encP (L i))

theorem Owns.below {w w' : World} {base : Nat} {v : Value} {rs : Nat → Value} {L : Nat → List (Nat × Nat)} {n : Nat} (h : Owns w base v rs L n) (hb : Below w.heap.size w w') : Owns w' base v rs L n :=
  ⟨owns_kept h.row (fun b hl _ => hb.block b hl), fun i hi => owns_kept (h.each i hi) (fun b hl _ => hb.block b hl)⟩

theorem Owns.more {w wa w1 : World} {base g' cap' : Nat} {v vl : Value} {rs : Nat → Value} {L : Nat → List (Nat × Nat)} {n : Nat} (h : Owns w base v rs L n) (hbase : base ≤ w.heap.size) (hb : Below w.heap.size w wa) (hl : wa.ownsRow w.heap.size 3 1 vl (2 * (L n).length) (encP (L n)))
    (ho : w1.ownsRow base 24 1 (.slice (some ⟨g', 0, none⟩) (n + 1) cap') (n + 1) ((List.range n).map rs ++ [vl])) (hg : (wa.alloc (.cells #[vl] 24)).grownBy w1 v.ownBlock) :
    Owns w1 base (.slice (some ⟨g', 0, none⟩) (n + 1) cap') (fun i => if i = n then vl else rs i) L (n + 1) := by
  have hba : Below wa.heap.size wa (wa.alloc (.cells #[vl] 24)) := (Below.refl _ _).alloc (Nat.le_refl _) _
  have hint : ∀ {u : Value} {m : Nat} {xs : List Value} {bs : Nat}, wa.ownsRow bs 3 1 u m xs → w1.ownsRow bs 3 1 u m xs := by
    intro u m xs bs hu
    refine owns_kept hu (fun b hl2 hv => ?_)
    obtain ⟨cur, hc⟩ := owns_block hu hv
    rw [hg.block b (by simp; omega) (fun e => ?_), hba.block b hl2]
    obtain ⟨cur2, hc2⟩ := owns_block (owns_kept h.row (w' := wa) (fun b hl _ => hb.block b hl)) e.symm
    exact two_types hc hc2 (by decide) rfl
  refine ⟨?_, fun i hi => ?_⟩
  · have e1 : (List.range (n + 1)).map (fun i => if i = n then vl else rs i) = (List.range n).map rs ++ [vl] := by
      rw [List.range_succ, List.map_append]
      congr 1
      · refine List.map_congr_left (fun i hi => ?_)
        rw [if_neg (by have := List.mem_range.1 hi; omega)]
      · simp
    rw [e1]; exact ho
  · by_cases e : i = n
    · subst e
      rw [if_pos rfl]
      exact owns_lower (hint hl) hbase
    · rw [if_neg e]
      exact hint (owns_kept (h.each i (by omega)) (fun b hl _ => hb.block b hl))

theorem Tryz.infoIL : (Tryz.prog.info? 24).map (fun i => (i.zero, i.size, i.bytes)) = some (some (.slice none 0 0), 1, 24) := by kernel_rfl

theorem rnext_lt {w : World} {br gS cS : Nat} {vL : Value} {ps S : List Str} (h : RMach w br vL gS cS ps S) (k : Nat) (b : UInt8) : nextN S k b < S.length := by
  have h0 : [] ∈ S := by
    have := at_mem h.pos
    rw [h.head] at this; exact this
  exact List.idxOf_lt_length_of_mem (lsuf_mem S h0 _)

theorem intsF_succ (E : Nat → Int) (m : Nat) : intsF E (m + 1) = intsF E m ++ [.int .i64 (E m)] := by
  unfold intsF; rw [List.range_succ, List.map_append]; rfl

set_option maxHeartbeats 8000000 in
set_option maxRecDepth 100000 in
theorem exceptions_any (br gS cS : Nat) (vL : Value) (ps S : List Str) (c : Str) (w : World) (hM : RMach w br vL gS cS ps S) (hsh : ∀ k, k < S.length → (at' S k).length < 1000) (hcl : c.length ≤ 256) :
    Calls Tryz.prog 123 #[.pointer (some ⟨br, 0, none⟩), .string ⟨c.toArray⟩] w fun e w' => ∃ v rs, e = .returned v ∧ Owns w' w.heap.size v rs (excL S c) S.length ∧ Below w.heap.size w w' := by
  obtain ⟨i0, hi, hz0, hz1, hz2⟩ := info_parts Tryz.infoI
  obtain ⟨j0, hj, hy0, hy1, hy2⟩ := info_parts Tryz.infoIL
  have hSl := hM.len
  have hpos := hM.pos
  have HNX : Hid (∀ W n (b : UInt8), Below w.heap.size w W → n < S.length → Calls Tryz.prog 95 #[.pointer (some ⟨br, 0, none⟩), .int .i64 n, .int .u8 b.toNat] W fun e w' => e = .returned (.int .i64 (nextN S n b)) ∧ Below W.heap.size W w') := hide (fun W n b hb hn => rnext_any br gS cS vL ps S n b W (hM.below hb) hn (hsh n hn))
  have HC1 : Hid (∀ W, Below w.heap.size w W → W.cell? ⟨br, 1, none⟩ = some (.slice (some ⟨gS, 0, none⟩) S.length cS)) := hide (fun W hb => by rw [cell_of_blk (hM.below hb).blk]; rfl)
  have HNL : Hid (∀ n b, nextN S n b < 10000) := hide (fun n b => Nat.lt_of_lt_of_le (rnext_lt hM n b) (by omega))
  have hsz : (⟨c.toArray⟩ : ByteArray).size = c.length := by simp [ByteArray.size]
  have HG : Hid (∀ k (hk : k < (⟨c.toArray⟩ : ByteArray).size), (⟨c.toArray⟩ : ByteArray)[k] = c.getD k 0) := hide (fun k hk => by
    simp only [ByteArray.getElem_eq_getElem_data, List.getElem_toArray]
    simp [List.getD, show k < c.length by omega])
  clear hM hsh
  obtain ⟨tx, htx⟩ : ∃ tx, tx = (⟨c.toArray⟩ : ByteArray) := ⟨_, rfl⟩
  rw [← htx] at hsz ⊢
  have HG2 : Hid (∀ k (hk : k < tx.size), tx[k] = c.getD k 0) := hide (fun k hk => by subst htx; exact unhide HG k hk)
  clear htx HG
  go_enter Tryz.func123, Tryz.ntmps123
  go_wp2
  go_loopw [5, 6] (fun v5 v6 wr => ∃ k : Nat, v6 = .int .i64 k ∧ k ≤ c.length ∧ Hid (wr.ownsRow w.heap.size 3 1 v5 k (intsF (fun i => (nextN S 0 (c.getD i 0) : Nat)) k)) ∧ Hid (Below w.heap.size w wr)) (fun _ v6 _ => c.length - (intOf v6).toNat)
  case atStart => exact ⟨0, rfl, Nat.zero_le _, hide (World.ownsRow_nil _ _ _ _), hide (Below.refl _ _)⟩
  case round =>
    obtain ⟨k, rfl, hk, HO, HB⟩ := hrel
    have hszr := (unhide HB).size
    by_cases hlt : k < c.length
    · have hkx : k < tx.size := by omega
      have i1 : (k : Int) < (tx.size : Int) := by omega
      have HN1 := hide (unhide HNX wr 0 tx[k] (unhide HB) hpos)
      have hnl := unhide HNL 0 tx[k]
      have HST : Hid (∀ w2 g' cap' w4, Below wr.heap.size wr w2 → w4.ownsRow w.heap.size 3 1 (.slice (some ⟨g', 0, none⟩) (k + 1) cap') (k + 1) (intsF (fun i => (nextN S 0 (c.getD i 0) : Nat)) k ++ [.int .i64 (nextN S 0 tx[k] : Nat)]) → (w2.alloc (.cells #[.int .i64 (nextN S 0 tx[k] : Nat)] 3)).grownBy w4 u5.ownBlock → (u5.ownBlock = some g' ∨ g' = w2.heap.size + 1) → w4.ownsRow w.heap.size 3 1 (.slice (some ⟨g', 0, none⟩) (k + 1) cap') (k + 1) (intsF (fun i => (nextN S 0 (c.getD i 0) : Nat)) (k + 1)) ∧ Below w.heap.size w w4) := hide (fun w2 g' cap' w4 hb2 ho hg hat => by
        refine ⟨?_, (own_step (((unhide HB).trans (hb2.mono hszr)).alloc (by have := hb2.size; omega) _) (by have := hb2.size; simp; omega) (own_lt (unhide HO)) hg hat (by simp)).1⟩
        rw [intsF_succ, ← unhide HG2 k hkx]; exact ho)
      have HAL : Hid (∀ w2 ob, Below wr.heap.size wr w2 → (w2.alloc ob).ownsRow w.heap.size 3 1 u5 k (intsF (fun i => (nextN S 0 (c.getD i 0) : Nat)) k)) := hide (fun w2 ob hb2 => (owns_kept (unhide HO) (fun b hl _ => hb2.block b hl)).alloc _)
      rw [Int.natCast_zero] at HN1
      generalize nextN S 0 tx[k] = nx at *
      generalize intsF (fun i => ((nextN S 0 (c.getD i 0) : Nat) : Int)) k = xs at *
      go_wp2_with (first | (go_at_call 95; refine (unhide HN1).mono ?_; rintro e w2 ⟨rfl, hb2⟩; have hs2 := hb2.size; have HB2 := hide hb2; clear hb2) | (at_builtin; refine wpList_append_lies _ rfl (.tmp 24) (.tmp 26) 24 rfl w.heap.size 3 i0 (.int .i64 0) 1 8 Tryz.underlying24 hi hz0 hz1 hz2 rfl (by decide) _ k xs rfl (unhide HAL w2 _ (unhide HB2)) ⟨w2.heap.size, 0, none⟩ 1 1 [.int .i64 nx] rfl rfl (World.news_of_block (heap_alloc_new w2 _)) (by intro u hu; simp at hu; subst hu; rfl) (by omega) (by unfold maxLen; omega) (by omega) (by simp; omega) (w2.heap.size + 1) (by simp) ?_; intro g' cap' w4 hown' hgrow hat hlt'; obtain ⟨k1, k2⟩ := unhide HST w2 g' cap' w4 (unhide HB2) hown' hgrow hat; have HK1 := hide k1; have HK2 := hide k2; clear hown' hgrow hat k1 k2))
      go_roundw
      case rel => exact ⟨k + 1, by go_num, hlt, HK1, HK2⟩
      case measure => simp [intOf]; omega
    · obtain rfl : k = c.length := by omega
      have i1 : ¬ (c.length : Int) < (tx.size : Int) := by omega
      obtain ⟨wf, hwf⟩ : ∃ wf, wf = wr := ⟨_, rfl⟩
      subst hwf
      have HF5 : Hid (∀ W, Below wf.heap.size wf W → ∀ k, k < c.length → ∃ g5 c5, u5 = .slice (some ⟨g5, 0, none⟩) c.length c5 ∧ W.cell? ⟨g5, k, none⟩ = some (.int .i64 (nextN S 0 (c.getD k 0) : Nat))) := hide (fun W hb k hk => by
        have h5 := owns_kept (unhide HO) (w' := W) (fun b hl _ => hb.block b hl)
        rcases h5.2 with ⟨_, h0⟩ | ⟨g5, c5, cur, rfl, _⟩
        · omega
        · exact ⟨g5, c5, rfl, by rw [h5.cellAt k (by omega), intsF_get _ _ _ hk]⟩)
      clear HO
      go_wp2
      go_loopw [8, 9] (fun v8 v9 wr => ∃ (s : Nat) (rs : Nat → Value), v9 = .int .i64 s ∧ s ≤ S.length ∧ Hid (Owns wr wf.heap.size v8 rs (excL S c) s) ∧ Hid (Below wf.heap.size wf wr)) (fun _ v9 _ => S.length - (intOf v9).toNat)
      case atStart => exact ⟨0, fun _ => .slice none 0 0, rfl, Nat.zero_le _, hide ⟨World.ownsRow_nil _ _ _ _, fun i h => absurd h (Nat.not_lt_zero _)⟩, hide (Below.refl _ _)⟩
      case round =>
        obtain ⟨s, rs, rfl, hs, HOW, HBF⟩ := hrel
        obtain ⟨ws, hws⟩ : ∃ ws, ws = wr := ⟨_, rfl⟩
        subst hws
        have hsf := (unhide HBF).size
        have HBW : Hid (Below w.heap.size w ws) := hide ((unhide HB).trans ((unhide HBF).mono hszr))
        have c1 := unhide HC1 ws (unhide HBW)
        by_cases hsl : s < S.length
        · have j1 : (s : Int) < (S.length : Int) := by omega
          go_wp2
          go_loopw [10, 11] (fun v10 v11 wr => ∃ k : Nat, v11 = .int .i64 k ∧ k ≤ c.length ∧ Hid (wr.ownsRow ws.heap.size 3 1 v10 (2 * (excTo S c s k).length) (encP (excTo S c s k))) ∧ Hid (Below ws.heap.size ws wr)) (fun _ v11 _ => c.length - (intOf v11).toNat)
          case atStart => exact ⟨0, rfl, Nat.zero_le _, hide (World.ownsRow_nil _ _ _ _), hide (Below.refl _ _)⟩
          case round =>
            obtain ⟨k, rfl, hk, HL, HBS⟩ := hrel
            have hss := (unhide HBS).size
            by_cases hlt : k < c.length
            · have hkx : k < tx.size := by omega
              have k1 : (k : Int) < (tx.size : Int) := by omega
              have HN1 := hide (unhide HNX wr s tx[k] ((unhide HBW).trans ((unhide HBS).mono (by omega))) hsl)
              have hnl := unhide HNL s tx[k]
              have hn0 := unhide HNL 0 tx[k]
              have hel := excTo_len S c s k
              have HF6 : Hid (∀ w2, Below wr.heap.size wr w2 → ∃ g5 c5, u5 = .slice (some ⟨g5, 0, none⟩) c.length c5 ∧ w2.cell? ⟨g5, k, none⟩ = some (.int .i64 (nextN S 0 tx[k] : Nat))) := hide (fun w2 hb2 => by
                rw [unhide HG2 k hkx]
                exact unhide HF5 w2 ((unhide HBF).trans (((unhide HBS).mono hsf).trans (hb2.mono (by omega)))) k hlt)
              by_cases he : nextN S s tx[k] = nextN S 0 tx[k]
              · have HX : Hid (excTo S c s (k + 1) = excTo S c s k) := hide (by
                  rw [excTo, ← unhide HG2 k hkx, if_pos he, List.append_nil])
                have HK : Hid (∀ w2, Below wr.heap.size wr w2 → w2.ownsRow ws.heap.size 3 1 u10 (2 * (excTo S c s (k + 1)).length) (encP (excTo S c s (k + 1))) ∧ Below ws.heap.size ws w2) := hide (fun w2 hb2 => by
                  rw [unhide HX]
                  exact ⟨owns_kept (unhide HL) (fun b hl _ => hb2.block b hl), (unhide HBS).trans (hb2.mono hss)⟩)
                rw [he] at HN1
                clear he hnl HL
                generalize nextN S 0 tx[k] = n0 at *
                have e1 : ((n0 : Int) != (n0 : Int)) = false := by simp
                go_wp2_with (go_at_call 95; refine (unhide HN1).mono ?_; rintro e w2 ⟨rfl, hb2⟩; obtain ⟨g5, c5, rfl, cc⟩ := unhide HF6 w2 hb2; obtain ⟨q1, q2⟩ := unhide HK w2 hb2; have HQ1 := hide q1; have HQ2 := hide q2; clear hb2 q1 q2)
                go_roundw
                case rel => exact ⟨k + 1, by go_num, hlt, HQ1, HQ2⟩
                case measure => simp [intOf]; omega
              · have HX : Hid (excTo S c s (k + 1) = excTo S c s k ++ [(k + 1, nextN S s tx[k])]) := hide (by
                  rw [excTo, ← unhide HG2 k hkx, if_neg he])
                have HA1 : Hid (∀ w2 ob, Below wr.heap.size wr w2 → (w2.alloc ob).ownsRow ws.heap.size 3 1 u10 (2 * (excTo S c s k).length) (encP (excTo S c s k)) ∧ Below ws.heap.size ws (w2.alloc ob)) := hide (fun w2 ob hb2 => ⟨(owns_kept (unhide HL) (fun b hl _ => hb2.block b hl)).alloc _, ((unhide HBS).trans (hb2.mono hss)).alloc (by have := hb2.size; omega) _⟩)
                have HLO := hide (own_lt (unhide HL))
                have HX2 : Hid (∀ (w4 : World) (g' cap' : Nat), w4.ownsRow ws.heap.size 3 1 (.slice (some ⟨g', 0, none⟩) (2 * (excTo S c s k).length + 1 + 1) cap') (2 * (excTo S c s k).length + 1 + 1) (encP (excTo S c s k) ++ [.int .i64 ((k : Int) + 1)] ++ [.int .i64 (nextN S s tx[k] : Nat)]) → w4.ownsRow ws.heap.size 3 1 (.slice (some ⟨g', 0, none⟩) (2 * (excTo S c s k).length + 1 + 1) cap') (2 * (excTo S c s (k + 1)).length) (encP (excTo S c s (k + 1)))) := hide (fun w4 g' cap' ho => by
                  rw [unhide HX, encP_append, List.length_append]
                  have e3 : encP [(k + 1, nextN S s tx[k])] = [.int .i64 ((k : Int) + 1), .int .i64 (nextN S s tx[k] : Nat)] := by simp [encP]
                  rw [e3]
                  simp only [List.append_assoc, List.cons_append, List.nil_append] at ho
                  exact ho)
                have e1 : (((nextN S s tx[k] : Nat) : Int) != ((nextN S 0 tx[k] : Nat) : Int)) = true := by simp; omega
                clear he HL HX
                generalize nextN S 0 tx[k] = n0 at *
                generalize nextN S s tx[k] = nx at *
                generalize (excTo S c s k).length = ln at *
                generalize encP (excTo S c s k) = xs at *
                go_wp2_with (first | (go_at_call 95; refine (unhide HN1).mono ?_; rintro e w2 ⟨rfl, hb2⟩; have hs2 := hb2.size; obtain ⟨g5, c5, rfl, cc⟩ := unhide HF6 w2 hb2; have HB2 := hide hb2; clear hb2) | (at_builtin; refine wpList_append_lies _ rfl (.tmp 55) (.tmp 58) 24 rfl ws.heap.size 3 i0 (.int .i64 0) 1 8 Tryz.underlying24 hi hz0 hz1 hz2 rfl (by decide) u10 (2 * ln) xs rfl (unhide HA1 w2 _ (unhide HB2)).1 ⟨w2.heap.size, 0, none⟩ 1 1 [.int .i64 ((k : Int) + 1)] rfl rfl (World.news_of_block (heap_alloc_new w2 _)) (by intro u hu; simp at hu; subst hu; rfl) (by omega) (by unfold maxLen; omega) (by omega) (by simp; omega) (w2.heap.size + 1) (by simp) ?_; intro g3 cap3 w3 ho3 hg3 hat3 hlt3; obtain ⟨bb3, bg3⟩ := own_step (unhide HA1 w2 _ (unhide HB2)).2 (by simp; omega) (unhide HLO) hg3 hat3 (by simp); have hs3 := bb3.size; have HO3 := hide ho3; have HB3 := hide bb3; clear ho3 hg3 hat3 bb3) | (at_builtin; refine wpList_append_lies _ rfl (.tmp 60) (.tmp 62) 24 rfl ws.heap.size 3 i0 (.int .i64 0) 1 8 Tryz.underlying24 hi hz0 hz1 hz2 rfl (by decide) (.slice (some ⟨g3, 0, none⟩) (2 * ln + 1) cap3) (2 * ln + 1) (xs ++ [.int .i64 ((k : Int) + 1)]) rfl ((unhide HO3).alloc _) ⟨w3.heap.size, 0, none⟩ 1 1 [.int .i64 nx] rfl rfl (World.news_of_block (heap_alloc_new w3 _)) (by intro u hu; simp at hu; subst hu; rfl) (by omega) (by unfold maxLen; omega) (by omega) (by simp; omega) (w3.heap.size + 1) (by simp) ?_; intro g4 cap4 w4 ho4 hg4 hat4 hlt4; obtain ⟨bb4, bg4⟩ := own_step ((unhide HB3).alloc hs3 _) (by simp; omega) (own_slice bg3) hg4 hat4 (by simp); have HO4 := hide (unhide HX2 w4 g4 cap4 ho4); have HB4 := hide bb4; clear ho4 hg4 hat4 bb4))
                go_roundw
                case rel => exact ⟨k + 1, by go_num, hlt, HO4, HB4⟩
                case measure => simp [intOf]; omega
            · obtain rfl : k = c.length := by omega
              have k1 : ¬ (c.length : Int) < (tx.size : Int) := by omega
              have HMO : Hid (∀ (w4 : World) (g' cap' : Nat), w4.ownsRow wf.heap.size 24 1 (.slice (some ⟨g', 0, none⟩) (s + 1) cap') (s + 1) ((List.range s).map rs ++ [u10]) → (wr.alloc (.cells #[u10] 24)).grownBy w4 u8.ownBlock → (u8.ownBlock = some g' ∨ g' = wr.heap.size + 1) → Owns w4 wf.heap.size (.slice (some ⟨g', 0, none⟩) (s + 1) cap') (fun i => if i = s then u10 else rs i) (excL S c) (s + 1) ∧ Below wf.heap.size wf w4) := hide (fun w4 g' cap' ho hg hat => ⟨(unhide HOW).more hsf (unhide HBS) (unhide HL) ho hg, (own_step (((unhide HBF).trans ((unhide HBS).mono hsf)).alloc (by omega) _) (by simp; omega) (own_lt (unhide HOW).row) hg hat (by simp)).1⟩)
              have HRW : Hid ((wr.alloc (.cells #[u10] 24)).ownsRow wf.heap.size 24 1 u8 s ((List.range s).map rs)) := hide ((owns_kept (unhide HOW).row (fun b hl _ => (unhide HBS).block b hl)).alloc _)
              have hcs := (unhide HL).2
              clear HL
              rcases hcs with ⟨rfl, _⟩ | ⟨gl, cl, cur, rfl, _⟩
              all_goals
                go_wp2_with (at_builtin; go_loud (refine wpList_append_lies _ rfl (.tmp 64) (.tmp 66) 194 rfl wf.heap.size 24 j0 (.slice none 0 0) 1 24 Tryz.underlying194 hj hy0 hy1 hy2 rfl (by decide) u8 s ((List.range s).map rs) rfl (unhide HRW) ⟨wr.heap.size, 0, none⟩ 1 1 [_] rfl rfl (World.news_of_block (heap_alloc_new wr _)) (by intro u hu; simp at hu; subst hu; rfl) (by omega) (by unfold maxLen; omega) (by omega) (by simp; omega) (wr.heap.size + 1) (by simp) ?_); intro g4 cap4 w4 ho4 hg4 hat4 hlt4; obtain ⟨q1, q2⟩ := unhide HMO w4 g4 cap4 ho4 hg4 hat4; have HQ1 := hide q1; have HQ2 := hide q2; clear ho4 hg4 hat4 q1 q2)
                go_roundw
                case rel => exact ⟨s + 1, _, by go_num, hsl, HQ1, HQ2⟩
                case measure => simp [intOf]; omega
        · obtain rfl : s = S.length := by omega
          have j1 : ¬ (S.length : Int) < (S.length : Int) := by omega
          go_wp2
          go_ret
          exact ⟨_, rfl, ⟨rs, owns_lower (unhide HOW).row hszr, fun i hi => owns_lower ((unhide HOW).each i hi) hszr⟩, unhide HBW⟩
end Go.Proofs.YtibkhphbilfckaaGreatDoor
