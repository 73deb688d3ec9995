import Derived.Test.YtfpohfifdfbpkaaGreatDoorMath
import Derived.Test.YtfpohfifdfbpkaaGreatDoorFedDef
import Derived.Test.YtfpohfifdfbpkaaGreatDoorKeep
import Derived.Test.YtfpohfifdfbpkaaGreatDoorRef
import Derived.Test.YtfpohfifdfbpkaaGreatDoorLdG
import Derived.Test.YtfpohfifdfbpkaaGreatDoorRdM
import Derived.Lib.SlBytesConst
namespace Scour
def yD (p text : Str) : Nat -> List Nat
 | 0 => []
 | i + 1 => yD p text i ++ if (text.drop i).take p.length = p then [i + p.length] else []
def thereS (p text : Str) : List Nat := yD p text (text.length + 1 - p.length)
def endsAt (p t b : Str) : Nat -> List Nat
 | 0 => []
 | k + 1 => endsAt p t b k ++ if p <:+ t ++ b.take (k + 1) then [t.length + k + 1] else []
theorem tellTo_count {ps : List Str} {t : Str} {i n : Nat} (hi : i < ps.length) (h1 : 1 <= (ps.getD i []).length) (h2 : (ps.getD i []).length <= n) : (jE ps t n).filter (fun j => decide (j = i)) = if ps.getD i [] <:+ t then [i] else [] := by
 have hs := tellTo_sorted (ps := ps) (t := t) n
 have hnd : (jE ps t n).Nodup := hs.imp (fun {a b} h e => by
  subst e
  rcases h with h | h
  ·exact Nat.lt_irrefl _ h
  ·exact Nat.lt_irrefl _ h.2)
 have key : ∀ (l : List Nat), l.Nodup -> l.filter (fun j => decide (j = i)) = if i ∈ l then [i] else [] := by
  intro l
  induction l with
  | nil => intro _; rfl
  | cons a l ih =>
    intro hn
    obtain ⟨ha, hl⟩ := List.nodup_cons.1 hn
    rw [List.filter_cons, ih hl]
    by_cases e : a = i
    ·subst e
     simp [ha]
    ·have : ¬ i = a := fun h => e h.symm
     simp [e, this]
 rw [key _ hnd]
 have hm := tellTo_mem (ps := ps) (t := t) (i := i) (n := n)
 by_cases h : ps.getD i [] <:+ t
 ·rw [if_pos (hm.2 ⟨hi, h1, h2, h⟩), if_pos h]
 ·rw [if_neg (fun g => h (hm.1 g).2.2.2), if_neg h]
theorem endsAt_cons (p t : Str) (c : UInt8) (cs : Str) : ∀ k, endsAt p t (c :: cs) (k + 1) = (if p <:+ t ++ [c] then [t.length + 1] else []) ++ endsAt p (t ++ [c]) cs k
 | 0 => by simp [endsAt]
 | k + 1 => by
   rw [endsAt, endsAt_cons p t c cs k, endsAt, List.append_assoc]
   congr 2
   have e1 : t ++ (c :: cs).take (k + 1 + 1) = t ++ [c] ++ cs.take (k + 1) := by simp
   have e2 : (t ++ [c]).length + k + 1 = t.length + (k + 1) + 1 := by simp; omega
   rw [e1, e2]
theorem feed_told {ps : List Str} {i : Nat} (hi : i < ps.length) (h1 : 1 <= (ps.getD i []).length) (h2 : (ps.getD i []).length <= 64) : ∀ (b t : Str), ((zJ ps t b).filter (fun m => decide (m.1 = i))).map Prod.snd = endsAt (ps.getD i []) t b b.length
 | [], t => rfl
 | c :: cs, t => by
   rw [zJ, List.filter_append, List.map_append, feed_told hi h1 h2 cs (t ++ [c]), List.length_cons, endsAt_cons]
   congr 1
   have key : ∀ (l : List Nat) (e : Nat), ((l.map (fun p => (p, e))).filter (fun m => decide (m.1 = i))).map Prod.snd = (l.filter (fun j => decide (j = i))).map (fun _ => e) := by
    intro l e
    induction l with
    | nil => rfl
    | cons a l ih =>
      rw [List.map_cons, List.filter_cons, List.filter_cons]
      by_cases ha : a = i
      ·simp only [ha, decide_true, if_true, List.map_cons, ih]
      ·simp only [ha, decide_false, Bool.false_eq_true, if_false, ih]
   rw [key]
   unfold jJ
   rw [tellTo_count hi h1 h2]
   split <;> rfl
theorem suffix_take {p text : Str} {k : Nat} (hk : k < text.length) (hp : p.length <= k + 1) : p <:+ text.take (k + 1) ↔ (text.drop (k + 1 - p.length)).take p.length = p := by
 have hl : (text.take (k + 1)).length = k + 1 := by rw [List.length_take]; omega
 rw [List.suffix_iff_eq_drop, hl, List.drop_take, show k + 1 - (k + 1 - p.length) = p.length by omega]
 exact eq_comm
theorem endsAt_short {p text : Str} : ∀ k, k < p.length -> endsAt p [] text k = []
 | 0, _ => rfl
 | k + 1, h => by
   rw [endsAt, endsAt_short k (by omega), if_neg (fun hs => by
    have := hs.length_le
    simp only [List.nil_append, List.length_take] at this
    omega)]
   rfl
theorem endsAt_there {p text : Str} (h1 : 1 <= p.length) : ∀ i, i + p.length <= text.length + 1 -> endsAt p [] text (i + p.length - 1) = yD p text i
 | 0, _ => by rw [Nat.zero_add, endsAt_short _ (by omega)]; rfl
 | i + 1, h => by
   have ih := endsAt_there (p := p) (text := text) h1 i (by omega)
   have e : i + 1 + p.length - 1 = (i + p.length - 1) + 1 := by omega
   rw [e, endsAt, ih, yD, List.nil_append, List.length_nil]
   congr 1
   have hk := suffix_take (p := p) (text := text) (k := i + p.length - 1) (by omega) (by omega)
   rw [show i + p.length - 1 + 1 - p.length = i by omega] at hk
   by_cases hs : p <:+ text.take (i + p.length - 1 + 1)
   ·rw [if_pos hs, if_pos (hk.1 hs)]
    congr 1; omega
   ·rw [if_neg hs, if_neg (fun g => hs (hk.2 g))]
theorem endsAt_all {p text : Str} (h1 : 1 <= p.length) : endsAt p [] text text.length = thereS p text := by
 unfold thereS
 by_cases h : p.length <= text.length
 ·have := endsAt_there (p := p) (text := text) h1 (text.length + 1 - p.length) (by omega)
  rw [show text.length + 1 - p.length + p.length - 1 = text.length by omega] at this
  exact this
 ·rw [show text.length + 1 - p.length = 0 by omega, endsAt_short _ (by omega)]
  rfl
theorem found_told {ps : List Str} {i : Nat} (hi : i < ps.length) (h1 : 1 <= (ps.getD i []).length) (h2 : (ps.getD i []).length <= 64) (text : Str) : ((zJ ps [] text).filter (fun m => decide (m.1 = i))).map Prod.snd = thereS (ps.getD i []) text := by
 rw [feed_told hi h1 h2, endsAt_all h1]
def matchLt (ps : List Str) (x y : Nat × Nat) : Prop := x.2 < y.2 \/ (x.2 = y.2 /\ tellLt ps x.1 y.1)
theorem feedS_ends {ps : List Str} {m : Nat × Nat} : ∀ {b t : Str}, m ∈ zJ ps t b -> t.length < m.2
 | [], t, h => by cases h
 | c :: cs, t, h => by
   rw [zJ, List.mem_append] at h
   rcases h with h | h
   ·obtain ⟨q, _, rfl⟩ := List.mem_map.1 h
    exact Nat.lt_succ_self _
   ·have := feedS_ends h
    simp at this
    omega
theorem found_order (ps : List Str) : ∀ (b t : Str), (zJ ps t b).Pairwise (matchLt ps)
 | [], t => List.Pairwise.nil
 | c :: cs, t => by
   rw [zJ, List.pairwise_append]
   refine ⟨?_, found_order ps cs (t ++ [c]), ?_⟩
   ·rw [List.pairwise_map]
    exact (tellTo_sorted 64).imp (fun h => Or.inr ⟨rfl, h⟩)
   ·intro x hx y hy
    obtain ⟨q, _, rfl⟩ := List.mem_map.1 hx
    have := feedS_ends hy
    simp at this
    exact Or.inl (by simpa using by omega)
theorem filter_next {α : Type} (f : α -> Bool) : ∀ (l : List α) (i : Nat) (a : α), l[i]? = some a -> f a = true -> (l.filter f)[((l.take i).filter f).length]? = some a
 | [], i, a, h, _ => by simp at h
 | x :: l, 0, a, h, hf => by
   obtain rfl : x = a := by simpa using h
   simp [hf]
 | x :: l, i + 1, a, h, hf => by
   have ih := filter_next f l i a (by simpa using h) hf
   rw [List.take_succ_cons, List.filter_cons, List.filter_cons]
   by_cases hx : f x = true
   ·simp only [hx, if_true, List.length_cons, List.getElem?_cons_succ, ih]
   ·simp only [hx, Bool.false_eq_true, if_false, ih]
end Scour
namespace Go.Proofs.YtfpohfifdfbpkaaGreatDoor
open Go.RowKit Scour Go.Lib
set_option maxHeartbeats 2000000 in
set_option maxRecDepth 100000 in
theorem sameM_any (b1 b2 : Nat) (va vb : Value) (l : List (Nat × Nat)) (w : World) (ha : w.ownsRow b1 49 2 va l.length (ze l)) (hb : w.ownsRow b2 49 2 vb l.length (ze l)) (hl : l.length < 1000000000000) :
  Calls Tryz.prog 22 #[va, vb] w fun e w' => e = .returned (.bool true) /\ ∃ n, w' = w.drewN n := by
 obtain ⟨va, vc, hv, hva⟩ := matches_at ha
 obtain ⟨ra, rc, hr, hra⟩ := matches_at hb
 subst hv hr
 have HVA := zB hva
 have HRA := zB hra
 clear hva hra ha hb
 go_enter Tryz.func22, Tryz.ntmps22
 go_wp2_with fail
 go_loopw [5] (fun v5 wz => ∃ k m : Nat, v5 = .int .i64 k /\ k <= l.length /\ wz = w.drewN m) (fun v5 _ => l.length - (intOf v5).toNat)
 case atStart => exact ⟨0, 0, rfl, Nat.zero_le _, rfl⟩
 case round =>
  obtain ⟨k, m, rfl, hk, rfl⟩ := hrel
  by_cases hlt : k < l.length
  ·obtain ⟨ga, rfl, a0, a1⟩ := zA HVA k hlt
   obtain ⟨gr, rfl, r0, r1⟩ := zA HRA k hlt
   have i1 : (k : Int) < (l.length : Int) := by omega
   have i2 : (0 : Int) <= (k : Int) := by omega
   have z0 : (w.drewN m).cell? ⟨ga, k * 2, none⟩ = some (.int .i64 (l.getD k (0, 0)).1) := a0
   have z1 : (w.drewN m).cell? ⟨ga, k * 2 + 1, none⟩ = some (.int .i64 (l.getD k (0, 0)).2) := a1
   have z2 : (w.drewN m).cell? ⟨gr, k * 2, none⟩ = some (.int .i64 (l.getD k (0, 0)).1) := r0
   have z3 : (w.drewN m).cell? ⟨gr, k * 2 + 1, none⟩ = some (.int .i64 (l.getD k (0, 0)).2) := r1
   obtain ⟨wz, hwz⟩ : ∃ wz, w.drewN m = wz := ⟨_, rfl⟩
   rw [hwz] at z0 z1 z2 z3 ⊢
   have HWZ := zB hwz
   clear hwz a0 a1 r0 r1
   generalize (l.getD k (0, 0)).1 = x0 at *
   generalize (l.getD k (0, 0)).2 = x1 at *
   go_wp2_with fail
   go_quiet (fail)
   go_wp2_with fail
   go_roundw
   case rel => exact ⟨k + 1, m + nq, by go_num, hlt, by rw [← zA HWZ, World.drewN_drewN]⟩
   case measure => simp [intOf]; omega
  ·obtain rfl : k = l.length := by omega
   have i1 : ¬ (l.length : Int) < (l.length : Int) := by omega
   go_wp2_with fail
   go_ret
   exact ⟨rfl, m, rfl⟩
def natsK (l : List Nat) : List Value := l.map fun (n : Nat) => .int .i64 (n : Int)
theorem natsK_get (l : List Nat) (k : Nat) (h : k < l.length) : (natsK l)[k]? = some (.int .i64 (l.getD k 0)) := by simp [natsK, h, List.getD]
theorem nats_at {w : World} {base : Nat} {v : Value} {l : List Nat} (h : w.ownsRow base 3 1 v l.length (natsK l)) : ∃ ao c, v = .slice ao l.length c /\ ∀ k, k < l.length -> ∃ g, ao = some ⟨g, 0, none⟩ /\ w.cell? ⟨g, k, none⟩ = some (.int .i64 (l.getD k 0)) := by
 rcases h.2 with ⟨h1, h0⟩ | ⟨g, cap, cur, h1, _⟩
 ·exact ⟨none, 0, by rw [h1, h0], fun k hk => by omega⟩
 ·subst h1
  exact ⟨_, cap, rfl, fun k hk => ⟨g, rfl, by rw [h.cellAt k (by omega), natsK_get l k hk]⟩⟩
set_option maxHeartbeats 2000000 in
set_option maxRecDepth 100000 in
theorem told_any (b1 b2 : Nat) (va vb : Value) (l : List (Nat × Nat)) (p : Nat) (es : List Nat) (w : World) (ha : w.ownsRow b1 49 2 va l.length (ze l)) (hb : w.ownsRow b2 3 1 vb es.length (natsK es)) (hl : l.length < 1000000000000) (ht : (l.filter (fun m => decide (m.1 = p))).map Prod.snd = es) :
  Calls Tryz.prog 23 #[va, .int .i64 p, vb] w fun e w' => e = .returned (.bool true) /\ ∃ n, w' = w.drewN n := by
 obtain ⟨va, vc, hv, hva⟩ := matches_at ha
 obtain ⟨ra, rc, hr, hra⟩ := nats_at hb
 subst hv hr
 have HVA := zB hva
 have HRA := zB hra
 have hle : es.length <= l.length := by rw [← ht, List.length_map]; exact List.length_filter_le _ _
 have HNX : Hid (∀ i, i < l.length -> (l.getD i (0, 0)).1 = p -> ((l.take i).filter (fun m => decide (m.1 = p))).length < es.length /\ es.getD ((l.take i).filter (fun m => decide (m.1 = p))).length 0 = (l.getD i (0, 0)).2 /\ ((l.take (i + 1)).filter (fun m => decide (m.1 = p))).length = ((l.take i).filter (fun m => decide (m.1 = p))).length + 1) := zB (fun i hi hp => by
  have hg : l[i]? = some (l.getD i (0, 0)) := by simp [List.getD, hi]
  have h1 := filter_next (fun m : Nat × Nat => decide (m.1 = p)) l i _ hg (by simpa using hp)
  refine ⟨?_, ?_, ?_⟩
  ·rw [← ht, List.length_map]; exact (List.getElem?_eq_some_iff.1 h1).1
  ·rw [← ht]; simp [List.getD_eq_getElem?_getD, List.getElem?_map, h1]
  ·rw [List.take_add_one, hg, Option.toList_some, List.filter_append, List.length_append, List.filter_cons, if_pos (by simpa using hp)]
   rfl)
 have HNO : Hid (∀ i, i < l.length -> (l.getD i (0, 0)).1 ≠ p -> ((l.take (i + 1)).filter (fun m => decide (m.1 = p))).length = ((l.take i).filter (fun m => decide (m.1 = p))).length) := zB (fun i hi hp => by
  have hg : l[i]? = some (l.getD i (0, 0)) := by simp [List.getD, hi]
  rw [List.take_add_one, hg, Option.toList_some, List.filter_append, List.length_append, List.filter_cons, if_neg (by simpa using hp)]
  rfl)
 have HEN : Hid (((l.take l.length).filter (fun m => decide (m.1 = p))).length = es.length) := zB (by rw [List.take_length, ← ht, List.length_map])
 have HC0 : Hid (((l.take 0).filter (fun m => decide (m.1 = p))).length = 0) := zB (by simp)
 have HCL : Hid (∀ i, ((l.take i).filter (fun m => decide (m.1 = p))).length <= es.length) := zB (fun i => by
  rw [← ht, List.length_map]
  exact ((List.take_sublist i l).filter _).length_le)
 generalize hcn : (fun i => ((l.take i).filter (fun m : Nat × Nat => decide (m.1 = p))).length) = cn at *
 have hcn' : ∀ i, ((l.take i).filter (fun m : Nat × Nat => decide (m.1 = p))).length = cn i := fun i => congrFun hcn i
 simp only [hcn'] at HNX HNO HEN HC0 HCL
 clear hcn hcn' ht hva hra ha hb
 go_enter Tryz.func23, Tryz.ntmps23
 go_wp2_with fail
 go_loopw [7, 8] (fun v7 v8 wz => ∃ k m : Nat, v7 = .int .i64 (cn k) /\ v8 = .int .i64 k /\ k <= l.length /\ wz = w.drewN m) (fun _ v8 _ => l.length - (intOf v8).toNat)
 case atStart => exact ⟨0, 0, by rw [zA HC0]; rfl, rfl, Nat.zero_le _, rfl⟩
 case round =>
  obtain ⟨k, m, rfl, rfl, hk, rfl⟩ := hrel
  have hcl := zA HCL k
  by_cases hlt : k < l.length
  ·obtain ⟨ga, rfl, a0, a1⟩ := zA HVA k hlt
   have i1 : (k : Int) < (l.length : Int) := by omega
   have i2 : (0 : Int) <= (k : Int) := by omega
   have z0 : (w.drewN m).cell? ⟨ga, k * 2, none⟩ = some (.int .i64 (l.getD k (0, 0)).1) := a0
   have z1 : (w.drewN m).cell? ⟨ga, k * 2 + 1, none⟩ = some (.int .i64 (l.getD k (0, 0)).2) := a1
   by_cases hp : (l.getD k (0, 0)).1 = p
   ·obtain ⟨n1, n2, n3⟩ := zA HNX k hlt hp
    obtain ⟨gr, rfl, r0⟩ := zA HRA (cn k) n1
    have z2 : (w.drewN m).cell? ⟨gr, cn k, none⟩ = some (.int .i64 (l.getD k (0, 0)).2) := by rw [← n2]; exact r0
    rw [hp] at z0
    have HN3 := zB n3
    obtain ⟨wz, hwz⟩ : ∃ wz, w.drewN m = wz := ⟨_, rfl⟩
    rw [hwz] at z0 z1 z2 ⊢
    have HWZ := zB hwz
    have i3 : ((cn k : Nat) : Int) < (es.length : Int) := by omega
    have i4 : (0 : Int) <= ((cn k : Nat) : Int) := by omega
    have i5 : decide ((es.length : Int) <= ((cn k : Nat) : Int)) = false := decide_eq_false (by omega)
    clear hwz a0 a1 r0 n2 n3 hp
    generalize (l.getD k (0, 0)).2 = x1 at *
    generalize hck : cn k = ck at *
    go_wp2_with fail
    go_quiet (fail)
    go_wp2_with fail
    go_roundw
    case rel => exact ⟨k + 1, m + nq, by rw [zA HN3]; go_num, by go_num, hlt, by rw [← zA HWZ, World.drewN_drewN]⟩
    case measure => simp [intOf]; omega
   ·have HN3 := zB (zA HNO k hlt hp)
    have i3 : (((l.getD k (0, 0)).1 : Int) != (p : Int)) = true := by rw [bne_iff_ne]; intro e; exact hp (by omega)
    clear hp
    generalize (l.getD k (0, 0)).1 = x0 at *
    go_wp2_with fail
    go_roundw
    case rel => exact ⟨k + 1, m, by rw [zA HN3], by go_num, hlt, rfl⟩
    case measure => simp [intOf]; omega
  ·obtain rfl : k = l.length := by omega
   have i1 : ¬ (l.length : Int) < (l.length : Int) := by omega
   have hen := zA HEN
   rw [hen]
   go_wp2_with fail
   go_ret
   exact ⟨by simp, m, rfl⟩
theorem there_str {a b : Str} : ((⟨a.toArray⟩ : ByteArray).toList == (⟨b.toArray⟩ : ByteArray).toList) = decide (a = b) := by
 rw [ByteArray.toList_eq, ByteArray.toList_eq, Bool.eq_iff_iff]; simp
theorem thereTo_len (p text : Str) : ∀ i, (yD p text i).length <= i
 | 0 => Nat.le_refl _
 | i + 1 => by
   have := thereTo_len p text i
   rw [yD, List.length_append]
   split <;> simp <;> omega
theorem Tryz.infoN : (Tryz.prog.info? 3).map (fun i => (i.zero, i.size, i.bytes)) = some (some (.int .i64 0), 1, 8) := by kernel_rfl
set_option maxHeartbeats 2000000 in
set_option maxRecDepth 100000 in
theorem there_any (ap : Option Addr) (cp : Nat) (p text : Str) (w : World) (hB : zh w ap cp p) (hp : p.length <= 64) (ht : text.length < 100000000) :
  Calls Tryz.prog 24 #[.slice ap p.length cp, .string ⟨text.toArray⟩] w fun e w' => ∃ v, e = .returned v /\ w'.ownsRow w.heap.size 3 1 v (thereS p text).length (natsK (thereS p text)) /\ Below w.heap.size w w' := by
 obtain ⟨i0, hi, hz0, hz1, hz2⟩ := info_parts Tryz.infoN
 have htz : (⟨text.toArray⟩ : ByteArray).size = text.length := by simp [ByteArray.size]
 have HB := zB hB
 have HEX : Hid (∀ k, (⟨text.toArray⟩ : ByteArray).extract k (k + p.length) = ⟨((text.drop k).take p.length).toArray⟩) := zB (fun k => by
  apply ByteArray.ext
  simp [ByteArray.data_extract])
 obtain ⟨tx, htx⟩ : ∃ tx, tx = (⟨text.toArray⟩ : ByteArray) := ⟨_, rfl⟩
 rw [← htx] at htz HEX ⊢
 have HTX := zB htx
 clear htx hB
 go_enter Tryz.func24, Tryz.ntmps24
 go_wp2_with fail
 go_loopw [5, 6] (fun v5 v6 wr => ∃ k : Nat, v6 = .int .i64 k /\ k <= text.length + 1 - p.length /\ Hid (wr.ownsRow w.heap.size 3 1 v5 (yD p text k).length (natsK (yD p text k))) /\ Hid (Below w.heap.size w wr)) (fun _ v6 _ => text.length + 1 - p.length - (intOf v6).toNat)
 case atStart => exact ⟨0, rfl, Nat.zero_le _, zB (World.ownsRow_nil _ _ _ _), zB (Below.refl _ _)⟩
 case round =>
  obtain ⟨k, rfl, hk, HO, HBW⟩ := hrel
  by_cases hlt : k < text.length + 1 - p.length
  ·have i1 : (k : Int) + (p.length : Int) <= (tx.size : Int) := by omega
   have HSU : Hid (yD p text (k + 1) = yD p text k ++ if (text.drop k).take p.length = p then [k + p.length] else []) := zB rfl
   have hel := thereTo_len p text k
   have hcv : ∀ q, (convert 27 9 (.slice ap p.length cp)).run Tryz.prog (wr.drewN q) = .ok (.string ⟨p.toArray⟩) (wr.drewN q) := fun q => conv_at ((zA HB).below (below_drewN (zA HBW) q))
   have HCM : Hid (((tx.extract k (k + p.length)).toList == (⟨p.toArray⟩ : ByteArray).toList) = decide ((text.drop k).take p.length = p)) := zB (by rw [zA HEX k, there_str])
   have j0 : (0 : Int) <= (k : Int) := by omega
   have j1 : (k : Int) <= (k : Int) + (p.length : Int) := by omega
   have hwj : IntKind.i64.wrap ((k : Int) + (p.length : Int)) = (k : Int) + (p.length : Int) := by rw [IntKind.wrap_i64]; omega
   have hjn : ((k : Int) + (p.length : Int)).toNat = k + p.length := by omega
   obtain ⟨tp, htp⟩ : ∃ tp, tp = (⟨p.toArray⟩ : ByteArray) := ⟨_, rfl⟩
   rw [← htp] at hcv HCM
   clear htp
   obtain ⟨ty, hty⟩ : ∃ ty, tx.extract k (k + p.length) = ty := ⟨_, rfl⟩
   rw [hty] at HCM
   by_cases he : (text.drop k).take p.length = p
   ·rw [decide_eq_true he] at HCM
    rw [if_pos he] at HSU
    have hcm := zA HCM
    clear he
    go_wp2_with fail
    go_quiet (fail)
    have HO2 : Hid ((wr.drewN nq).ownsRow w.heap.size 3 1 u5 (yD p text k).length (natsK (yD p text k))) := HO
    have HB2 := zB (below_drewN (zA HBW) nq)
    have hsz2 := (zA HB2).size
    clear hcv
    generalize wr.drewN nq = wz at *
    have HST : Hid (∀ w4 g' cap', w4.ownsRow w.heap.size 3 1 (.slice (some ⟨g', 0, none⟩) ((yD p text k).length + 1) cap') ((yD p text k).length + 1) (natsK (yD p text k) ++ [.int .i64 ((k : Int) + (p.length : Int))]) -> (wz.alloc (.cells #[.int .i64 ((k : Int) + (p.length : Int))] 3)).grownBy w4 u5.ownBlock -> w4.ownsRow w.heap.size 3 1 (.slice (some ⟨g', 0, none⟩) ((yD p text k).length + 1) cap') (yD p text (k + 1)).length (natsK (yD p text (k + 1))) /\ Below w.heap.size w w4) := zB (fun w4 g' cap' ho hg => by
     refine ⟨?_, ((zA HB2).alloc hsz2 _).trans (zG hg (by simp; omega) (fun b hb => ((zA HO2).lt b hb).1))⟩
     rw [zA HSU, List.length_append]
     have e : natsK (yD p text k ++ [k + p.length]) = natsK (yD p text k) ++ [.int .i64 ((k : Int) + (p.length : Int))] := by simp [natsK]
     rw [e]; exact ho)
    have HOW : Hid ((wz.alloc (.cells #[.int .i64 ((k : Int) + (p.length : Int))] 3)).ownsRow w.heap.size 3 1 u5 (yD p text k).length (natsK (yD p text k))) := zB ((zA HO2).alloc _)
    generalize (yD p text k).length = ln at *
    generalize natsK (yD p text k) = xs at *
    go_wp2_with (at_builtin; refine wpList_append_lies _ rfl (.tmp 26) (.tmp 31) 24 rfl w.heap.size 3 i0 (.int .i64 0) 1 8 Tryz.underlying24 hi hz0 hz1 hz2 rfl (by decide) _ ln xs rfl (zA HOW) ⟨wz.heap.size, 0, none⟩ 1 1 [.int .i64 ((k : Int) + (p.length : Int))] rfl rfl (World.news_of_block (heap_alloc_new wz _)) (by intro u hu; simp at hu; subst hu; rfl) (by omega) (by unfold maxLen; omega) (by omega) (by simp; omega) (wz.heap.size + 1) (by simp) ?_; intro g' cap' w4 ho hg hat hlt4; obtain ⟨q1, q2⟩ := zA HST w4 g' cap' ho hg; have HQ1 := zB q1; have HQ2 := zB q2; clear ho hg hat hlt4 q1 q2)
    go_roundw
    case rel => exact ⟨k + 1, by go_num, hlt, HQ1, HQ2⟩
    case measure => simp [intOf]; omega
   ·rw [decide_eq_false he] at HCM
    rw [if_neg he, List.append_nil] at HSU
    have hcm := zA HCM
    clear he
    go_wp2_with fail
    go_quiet (fail)
    go_wp2_with fail
    go_roundw
    case rel => exact ⟨k + 1, by go_num, hlt, zB (by rw [zA HSU]; exact zA HO), zB (below_drewN (zA HBW) _)⟩
    case measure => simp [intOf]; omega
  ·have hkk : k = text.length + 1 - p.length := by omega
   have i1 : ¬ (k : Int) + (p.length : Int) <= (tx.size : Int) := by omega
   go_wp2_with fail
   go_ret
   exact ⟨_, rfl, by unfold thereS; rw [← hkk]; exact zA HO, zA HBW⟩
end Go.Proofs.YtfpohfifdfbpkaaGreatDoor
namespace Go.Proofs.YtfpohfifdfbpkaaGreatDoor
open Go.RowKit Scour Go.Lib
theorem yf {P : Program} {w : World} {ops : Array Oper} {rest : List Oper} {o : Oper} {a : Act} {Q : Exit -> Act -> World -> Prop} (hgd : o.guard = none) (s x : Operand) (t : TypeId)
  (ho : o.op = .call { callee := .builtin .append, args := #[s, x], argTypes := #[t, t] })
  (base : Nat) (e : TypeId) (i : TypeInfo) (z : Value) (size bytes : Nat) (ht : P.underlying t = some (.slice e)) (hi : P.info? e = some i) (hz : i.zero = some z)
  (hsize : i.size = size) (hby : i.bytes = bytes) (hzs : z.cells.size = size) (hsz : 0 < size)
  (v : Value) (n : Nat) (xs : List Value) (hs : a.eval s = v) (hown : w.ownsRow base e size v n xs)
  (ap : Option Addr) (m c : Nat) (news : List Value) (hx : a.eval x = .slice ap m c) (hnil : ap = none -> c = 0 /\ news = []) (hl : news.length = m * size) (hnews : ∀ ad, ap = some ad -> ∀ j u, news[j]? = some u -> w.cell? (ad.add j) = some u) (h1 : ∀ u ∈ news, u.oneCell' = true)
  (h63 : n + m <= maxLen) (hbytes : (n + m) * bytes <= 140737488355328) (hbase : base <= w.heap.size)
  (h : ∀ v' w', w'.ownsRow base e size v' (n + m) (xs ++ news) -> w.grownBy w' v.ownBlock -> (v'.ownBlock = v.ownBlock \/ v'.ownBlock = some w.heap.size) -> wpList P ops Q rest (a.put o.dst v') w') : wpList P ops Q (o :: rest) a w := by
 cases ap with
 | none =>
   obtain ⟨rfl, rfl⟩ := hnil rfl
   have hm : m = 0 := by
    rcases Nat.eq_zero_or_pos m with e | e
    ·exact e
    ·have := Nat.mul_pos e hsz
     simp at hl; omega
   subst hm
   refine wpList_append_own_none hgd s x t ho base e i size ht hi v n xs hs hown hx ?_
   refine h v w ?_ ⟨rfl, rfl, rfl, Nat.le_refl _, fun _ _ _ => rfl⟩ (Or.inl rfl)
   simpa using hown
 | some ad =>
   refine wpList_plain hgd fun K hK => ?_
   obtain ⟨v', w', hr, h2, h3, _, h5⟩ := run_append_own_at (P := P) w base t o.type e i z size bytes ht hi hz hsize hby hzs hsz v n xs hown ad m c news hl (hnews ad rfl) h1 h63 hbytes hbase
   unfold Oper.wp execOp
   simp only [ho, resolve, invoke, builtin, Sem.run_bind, Sem.run_pure, Result.andThen_ok, List.map_toArray, List.map_cons, List.map_nil, hs, hx, hr]
   exact hK _ _ (h v' w' h2 h3 h5)
theorem conv_bytesF (T : ByteArray) (hT : T.size <= maxLen) : ∃ (capf : World -> Nat) (objf : World -> Obj), (∀ W : World, (convert 9 27 (.string T)).run Tryz.prog W = .ok (.slice (some ⟨W.heap.size, 0, none⟩) T.size (capf W)) (W.alloc (objf W)).drew) /\
  ∀ W : World, (∀ j, j < T.size -> (W.alloc (objf W)).drew.cell? ⟨W.heap.size, j, none⟩ = some (.int .u8 (T.data.toList.getD j 0).toNat) /\ (W.alloc (objf W)).drew.frozen? ⟨W.heap.size, j, none⟩ = false) /\ T.size <= capf W /\ capf W <= 9223372036854775807 := by
 refine ⟨fun W => grownCap W T.size 0 5, fun W => .cells (bytesRow T (grownCap W T.size 0 5)) 5 ((bytesRow T (grownCap W T.size 0 5)).size, (bytesRow T (grownCap W T.size 0 5)).size + 1), fun W => run_bytes_of_string W 9 27 5 T Tryz.underlying9 Tryz.underlying27 Tryz.underlying5, fun W => ⟨fun j hj => ?_, grownCap_ge W T.size 0 5, ?_⟩⟩
 ·have hj' : j < T.data.size := hj
  have hr := bytesRow_at T (grownCap W T.size 0 5) j hj'
  have hn := heap_alloc_new W (.cells (bytesRow T (grownCap W T.size 0 5)) 5 ((bytesRow T (grownCap W T.size 0 5)).size, (bytesRow T (grownCap W T.size 0 5)).size + 1))
  have hlt : j < (bytesRow T (grownCap W T.size 0 5)).size := (Array.getElem?_eq_some_iff.1 hr).1
  have hd : T.data.toList.getD j 0 = T.data[j] := by rw [List.getD_eq_getElem?_getD, Array.getElem?_toList, Array.getElem?_eq_getElem hj']; rfl
  refine ⟨?_, ?_⟩
  ·rw [hd]
   exact (zC hn j).trans hr
  ·show World.frozen? (W.alloc _) _ = false
   unfold World.frozen?
   simp only [hn]
   simp
   omega
 ·have := grownCap_le_maxLen W T.size 0 5 hT
  unfold maxLen at this
  omega
structure KF (w wr : World) (bs : Nat) (g gm : List Nat) (ps S : List Str) (done : Str) (v : Value) : Prop where
 scan : ScanM wr bs g gm ps S done
 ge : w.heap.size <= bs
 geg : ∀ k, k ∈ g -> w.heap.size <= k
 gml : ∀ k, k ∈ gm -> k < w.heap.size
 row : wr.ownsRow w.heap.size 49 2 v (zJ ps [] done).length (ze (zJ ps [] done))
 apart : ∀ k, v.ownBlock = some k -> k ≠ bs /\ k ∉ g
 bel : Below w.heap.size w wr
theorem KF.below {w wr w' : World} {bs : Nat} {g gm : List Nat} {ps S : List Str} {done : Str} {v : Value} (h : KF w wr bs g gm ps S done v) (hb : Below wr.heap.size wr w') : KF w w' bs g gm ps S done v :=
 ⟨h.scan.same hb.size (fun k hk _ => hb.block k hk), h.ge, h.geg, h.gml, zE h.row (fun k hk _ => hb.block k hk), h.apart, h.bel.trans (hb.mono h.bel.size)⟩
theorem KF.fed {w wr w2 : World} {bs : Nat} {g gm : List Nat} {ps S : List Str} {done b : Str} {v : Value} (h : KF w wr bs g gm ps S done v) {vl : Value} {g' : List Nat} (hO : FdOut wr w2 bs g gm ps S done b vl g') :
  w2.ownsRow w.heap.size 49 2 v (zJ ps [] done).length (ze (zJ ps [] done)) :=
 zE h.row (fun k hk hv => hO.frame k hk (h.apart k hv).1 (h.apart k hv).2)
theorem KF.more {w wr w2 w3 : World} {bs : Nat} {g gm : List Nat} {ps S : List Str} {done b : Str} {v v3 : Value} (h : KF w wr bs g gm ps S done v) {vl : Value} {g' : List Nat} (hO : FdOut wr w2 bs g gm ps S done b vl g')
  (ha : w3.ownsRow w.heap.size 49 2 v3 ((zJ ps [] done).length + (zJ ps done b).length) (ze (zJ ps [] done) ++ ze (zJ ps done b))) (hg : w2.grownBy w3 v.ownBlock) (hat : v3.ownBlock = v.ownBlock \/ v3.ownBlock = some w2.heap.size) : KF w w3 bs g' gm ps S (done ++ b) v3 := by
 have s1 := h.bel.size
 have s2 := hO.size
 obtain ⟨l1, l2, l3⟩ := hO.scan.lts
 have hvb : ∀ k, v.ownBlock = some k -> w.heap.size <= k /\ k < wr.heap.size := fun k hk => h.row.lt k hk
 have hv2 : ∀ k, v.ownBlock = some k -> k ≠ bs /\ k ∉ g' := fun k hk => ⟨(h.apart k hk).1, fun hm => by
  rcases hO.own k hm with h1 | h1
  ·exact (h.apart k hk).2 h1
  ·have := (hvb k hk).2; omega⟩
 refine ⟨hO.scan.same hg.size (fun k hk hkk => hg.block k hk (fun e => ?_)), h.ge, fun k hk => ?_, h.gml, ?_, fun k hk => ?_, ?_⟩
 ·rcases hkk with rfl | h1 | h1
  ·exact (hv2 k e.symm).1 rfl
  ·exact (hv2 k e.symm).2 h1
  ·have := h.gml k h1; have := (hvb k e.symm).1; omega
 ·rcases hO.own k hk with h1 | h1
  ·exact h.geg k h1
  ·omega
 ·have e1 : zJ ps [] (done ++ b) = zJ ps [] done ++ zJ ps done b := by rw [feedS_append, List.nil_append]
  rw [e1, List.length_append, mcell_append]
  exact ha
 ·rcases hat with e | e
  ·exact hv2 k (e ▸ hk)
  ·have : w2.heap.size = k := by rw [e] at hk; simpa using hk
   exact ⟨by omega, fun hm => by have := l2 k hm; omega⟩
 ·refine ⟨hg.os.trans (hO.os.trans h.bel.os), hg.tape.trans (hO.tape.trans h.bel.tape), hg.output.trans (hO.output.trans h.bel.output), Nat.le_trans s1 (Nat.le_trans s2 hg.size), fun k hk => ?_⟩
  rw [hg.block k (by omega) (fun e => by have := (hvb k e.symm).1; omega), hO.frame k (by omega) (fun e => by have := h.ge; omega) (fun e => by have := h.geg k e; omega)]
  exact h.bel.block k hk
def IntsIn (w : World) (B : Nat) (ap : Option Addr) (l : List Int) : Prop := ∀ i, i < l.length -> ∃ b o, b < B /\ ap = some ⟨b, o, none⟩ /\ w.cell? ⟨b, o + i, none⟩ = some (.int .i64 (l.getD i 0)) /\ -9223372036854775808 <= l.getD i 0 /\ l.getD i 0 <= 9223372036854775807
theorem IntsIn.below {w w' : World} {B : Nat} {ap : Option Addr} {l : List Int} (h : IntsIn w B ap l) (hb : Below B w w') : IntsIn w' B ap l := fun i hi => by
 obtain ⟨b, o, h1, h2, h3, h4⟩ := h i hi
 exact ⟨b, o, h1, h2, (hb.cell (p := ⟨b, o + i, none⟩) h1).trans h3, h4⟩
theorem mcell_one (l : List (Nat × Nat)) : ∀ u ∈ ze l, u.oneCell' = true := by
 intro u hu
 obtain ⟨p, _, hp⟩ := List.mem_flatMap.1 hu
 simp only [List.mem_cons, List.not_mem_nil, or_false] at hp
 rcases hp with rfl | rfl <;> rfl
theorem matches_src {w : World} {base : Nat} {v : Value} {l : List (Nat × Nat)} (h : w.ownsRow base 49 2 v l.length (ze l)) : ∃ ap c, v = .slice ap l.length c /\ (ap = none -> c = 0 /\ ze l = []) /\ ∀ ad, ap = some ad -> ∀ j u, (ze l)[j]? = some u -> w.cell? (ad.add j) = some u := by
 rcases h.2 with ⟨h1, h0⟩ | ⟨g, cap, cur, h1, _⟩
 ·refine ⟨none, 0, by rw [h1, h0], fun _ => ⟨rfl, ?_⟩, (fun ad e => by cases e)⟩
  exact List.eq_nil_of_length_eq_zero (by rw [mcell_len, h0])
 ·subst h1
  refine ⟨_, cap, rfl, (fun e => by cases e), fun ad e j u hu => ?_⟩
  obtain rfl : ad = ⟨g, 0, none⟩ := by simpa using e.symm
  have hl := (List.getElem?_eq_some_iff.1 hu).1
  rw [mcell_len] at hl
  rw [zg, Nat.zero_add, h.cellAt j (by omega)]; exact hu
set_option maxHeartbeats 8000000 in
set_option maxRecDepth 100000 in
theorem kfed_any (hSC : yl) (hFD : yU) (bm bt be : Nat) (g : List Nat) (ps S : List Str) (text : Str) (ac : Option Addr) (cc : Nat) (cuts : List Int) (w : World) (hM : yV w bm bt be g ps S) (hc : (chk ps).1 = 0) (ht : text.length < 100000000) (hcl : cuts.length < 100000000) (hci : IntsIn w w.heap.size ac cuts) :
  Calls Tryz.prog 21 #[.pointer (some ⟨bm, 0, none⟩), .string ⟨text.toArray⟩, .slice ac cuts.length cc] w fun e w' => ∃ v, e = .returned (.tuple #[v, .bool true]) /\ w'.ownsRow w.heap.size 49 2 v (zJ ps [] text).length (ze (zJ ps [] text)) /\ Below w.heap.size w w' := by
 obtain ⟨i0, hi, hz0, hz1, hz2⟩ := info_parts Tryz.infoM
 obtain ⟨h64, _, _⟩ := yr hc
 have HFD := zB hFD
 have HCI := zB hci
 have HSCN := zB (hSC w bm bt be g ps S hM hc)
 have hlt := hM.lts
 have HC := zB hc
 clear hSC hFD hM hci hc
 go_enter Tryz.func21, Tryz.ntmps21
 go_wp2_with fail
 refine (zA HSCN).mono ?_
 rintro e w1 ⟨bs, g1, gm, rfl, hS, hgm, hbs, hg1, hb1⟩
 have HK0 : Hid (KF w w1 bs g1 gm ps S [] (.slice none 0 0)) := zB ⟨hS, hbs, hg1, fun k hk => by
  rcases hgm k hk with rfl | rfl | rfl | h1
  ·exact hlt.1
  ·exact hlt.2.1
  ·exact hlt.2.2.1
  ·exact hlt.2.2.2 k h1, World.ownsRow_nil _ _ _ _, (fun k hk => by cases hk), hb1⟩
 clear hS hgm hbs hg1 hb1 hlt HSCN
 have HFE : Hid (∀ wr g' done rest v n, KF w wr bs g' gm ps S done v -> done ++ rest = text -> n <= rest.length -> ∀ ao c, zh wr ao c (rest.take n) -> n <= c -> c <= 9223372036854775807 -> Calls Tryz.prog 26 #[.pointer (some ⟨bs, 0, none⟩), .slice ao n c] wr fun e w2 => ∃ vl g2, e = .returned vl /\ FdOut wr w2 bs g' gm ps S done (rest.take n) vl g2) := zB (fun wr g' done rest v n hK hd hn ao c hB h1 h2 => by
  have hl : (rest.take n).length = n := by rw [List.length_take]; omega
  have hdl : done.length + rest.length = text.length := by rw [← hd, List.length_append]
  have := zA HFD wr bs g' gm ps S done (rest.take n) ao c hK.scan (zA HC) hB (by omega) h2 (by omega) (by omega)
  rw [hl] at this
  exact this)
 go_wp2_with fail
 go_loopw [1, 9, 10] (fun v1 v9 v10 wr => ∃ (k : Nat) (rest done : Str) (g' : List Nat), v1 = .string ⟨rest.toArray⟩ /\ v10 = .int .i64 k /\ k <= cuts.length /\ done ++ rest = text /\ Hid (KF w wr bs g' gm ps S done v9)) (fun _ _ v10 _ => cuts.length - (intOf v10).toNat)
 case atStart => exact ⟨0, text, [], g1, rfl, rfl, Nat.zero_le _, rfl, HK0⟩
 case round =>
  obtain ⟨k, rest, done, g', rfl, rfl, hk, hd, HK⟩ := hrel
  have hdl : done.length + rest.length = text.length := by rw [← hd, List.length_append]
  have hrz : (⟨rest.toArray⟩ : ByteArray).size = rest.length := by simp [ByteArray.size]
  by_cases hkc : k < cuts.length
  ·obtain ⟨cb, co, hcb, rfl, ccell, cr1, cr2⟩ := (zA HCI).below (zA HK).bel k hkc
   have i1 : (k : Int) < (cuts.length : Int) := by omega
   have i2 : (0 : Int) <= (k : Int) := by omega
   obtain ⟨hp1, hp2⟩ := pickI_lt (cuts.getD k 0) ((rest.length : Int) + 1) (by omega)
   obtain ⟨n, hn⟩ : ∃ n : Nat, pickI (cuts.getD k 0) ((rest.length : Int) + 1) = n := ⟨(pickI (cuts.getD k 0) ((rest.length : Int) + 1)).toNat, by omega⟩
   have hnr : n <= rest.length := by omega
   have HPK : Hid (∀ W, Calls Tryz.prog 19 #[.int .i64 (cuts.getD k 0), .int .i64 ((rest.length : Int) + 1)] W fun e w' => e = .returned (.int .i64 n) /\ w' = W) := zB (fun W => by
    have := pick_any (cuts.getD k 0) ((rest.length : Int) + 1) W (by omega) (by omega) ⟨cr1, cr2⟩
    rw [hn] at this; exact this)
   have ex1 := extract_take rest n
   have ex2 := jT rest n
   have HD2 : Hid ((done ++ rest.take n) ++ rest.drop n = text) := zB (by rw [List.append_assoc, List.take_append_drop]; exact hd)
   obtain ⟨tx, htx⟩ : ∃ tx, tx = (⟨rest.toArray⟩ : ByteArray) := ⟨_, rfl⟩
   rw [← htx] at hrz ex1 ex2 ⊢
   obtain ⟨X, hX⟩ : ∃ X, tx.extract 0 n = X := ⟨_, rfl⟩
   obtain ⟨Y, hY⟩ : ∃ Y, tx.extract n tx.size = Y := ⟨_, rfl⟩
   have HYY : Hid (Y = ⟨(rest.drop n).toArray⟩) := zB (by rw [← hY]; exact ex2)
   have hXe : X = ⟨(rest.take n).toArray⟩ := by rw [← hX]; exact ex1
   have hXz : X.size = n := by rw [hXe]; simp [ByteArray.size]; omega
   have hXl : X.data.toList = rest.take n := by rw [hXe]
   obtain ⟨capf, objf, hcv, hbb⟩ := conv_bytesF X (by unfold maxLen; omega)
   rw [hXz, hXl] at hbb
   rw [hXz] at hcv
   obtain ⟨hb1, hb2, hb3⟩ := hbb wr
   have hbel : Below wr.heap.size wr (wr.alloc (objf wr)).drew := ((Below.refl _ _).alloc (Nat.le_refl _) _).drew
   have HKW := zB ((zA HK).below hbel)
   have HFC := zB (zA HFE _ g' done rest u9 n (zA HKW) hd hnr (some ⟨wr.heap.size, 0, none⟩) (capf wr) (Or.inr ⟨wr.heap.size, 0, rfl, by simp, fun j hj => by
    have hj' : j < n := by rw [List.length_take] at hj; omega
    rw [Nat.zero_add]; exact (hb1 j hj').1⟩) hb2 hb3)
   have hdz : tx.size = rest.length := hrz
   have k0 : (0 : Int) <= (n : Int) := by omega
   have k1 : (n : Int) <= (tx.size : Int) := by omega
   have hfd := yB ps done []
   have hfl1 : (zJ ps [] done).length <= 6400000000 := Nat.le_trans (yB ps done []) (Nat.le_trans (Nat.mul_le_mul h64 (show done.length <= 100000000 by omega)) (by omega))
   have hfl2 : (zJ ps done (rest.take n)).length <= 6400000000 := Nat.le_trans (yB ps (rest.take n) done) (Nat.le_trans (Nat.mul_le_mul h64 (show (rest.take n).length <= 100000000 by rw [List.length_take]; omega)) (by omega))
   have htl : tx.size < 100000000 := by omega
   have HRZ := zB hrz
   have HXZ := zB hXz
   have HDD := zB hd
   have HDL := zB hdl
   have HNR := zB hnr
   clear hb1 hb2 hb3 hbb hbel ex1 ex2 htx hn hp1 hp2 hXe hXl hfd
   rw [← hrz] at HPK
   clear hrz hXz hd hdl hdz hnr cr1 cr2 hcb
   generalize cuts.getD k 0 = ck at *
   go_wp2_with (go_at_call 19; refine (zA HPK _).mono ?_; rintro e w' ⟨rfl, hw⟩; have hw' := hw.symm; clear hw; subst hw')
   refine (zA HFC).mono ?_
   rintro e w2 ⟨vl, g2, rfl, hO⟩
   obtain ⟨la, lc, hvl, hnil, hsrc⟩ := matches_src hO.row
   subst hvl
   have HROW := zB ((zA HKW).fed hO)
   have HMO : Hid (∀ v3 w3, w3.ownsRow w.heap.size 49 2 v3 ((zJ ps [] done).length + (zJ ps done (rest.take n)).length) (ze (zJ ps [] done) ++ ze (zJ ps done (rest.take n))) -> w2.grownBy w3 u9.ownBlock -> (v3.ownBlock = u9.ownBlock \/ v3.ownBlock = some w2.heap.size) -> KF w w3 bs g2 gm ps S (done ++ rest.take n) v3) := zB (fun v3 w3 h1 h2 h3 => (zA HKW).more hO h1 h2 h3)
   have hs2 : w.heap.size <= w2.heap.size := Nat.le_trans (zA HKW).bel.size hO.size
   have HNL := zB hnil
   have HSR := zB hsrc
   have HL1 := zB (mcell_len (zJ ps done (rest.take n)))
   have HO1 := zB (mcell_one (zJ ps done (rest.take n)))
   clear hO hnil hsrc HFC HKW hcv
   generalize (zJ ps [] done).length = n1 at *
   generalize ze (zJ ps [] done) = x1 at *
   generalize (zJ ps done (rest.take n)).length = n2 at *
   generalize ze (zJ ps done (rest.take n)) = x2 at *
   go_wp2_with (at_builtin; refine yf rfl (.tmp 38) (.tmp 39) 42 rfl w.heap.size 49 i0 _ 2 16 Tryz.underlying42 hi hz0 hz1 hz2 rfl (by decide) u9 n1 x1 rfl (zA HROW) la n2 lc x2 rfl (zA HNL) (zA HL1) (zA HSR) (zA HO1) (by unfold maxLen; omega) (by omega) hs2 ?_; intro v3 w3 ho hg hat; have HK3 := zB (zA HMO v3 w3 ho hg hat); clear ho hg hat)
   go_roundw
   case rel => exact ⟨k + 1, rest.drop n, done ++ rest.take n, g2, by rw [← zA HYY], by go_num, hkc, zA HD2, HK3⟩
   case measure => simp [intOf]; omega
  ·obtain rfl : k = cuts.length := by omega
   have i1 : ¬ (cuts.length : Int) < (cuts.length : Int) := by omega
   obtain ⟨tx, htx⟩ : ∃ tx, tx = (⟨rest.toArray⟩ : ByteArray) := ⟨_, rfl⟩
   rw [← htx] at hrz ⊢
   have hXl : tx.data.toList = rest := by rw [htx]
   obtain ⟨capf, objf, hcv, hbb⟩ := conv_bytesF tx (by unfold maxLen; omega)
   rw [hXl] at hbb
   obtain ⟨hb1, hb2, hb3⟩ := hbb wr
   have hbel : Below wr.heap.size wr (wr.alloc (objf wr)).drew := ((Below.refl _ _).alloc (Nat.le_refl _) _).drew
   have HKW := zB ((zA HK).below hbel)
   have HFC := zB (zA HFE _ g' done rest u9 rest.length (zA HKW) hd (Nat.le_refl _) (some ⟨wr.heap.size, 0, none⟩) (capf wr) (Or.inr ⟨wr.heap.size, 0, rfl, by simp, fun j hj => by
    rw [List.take_length] at hj ⊢
    rw [Nat.zero_add]; exact (hb1 j (by omega)).1⟩) (by omega) hb3)
   rw [List.take_length, ← hrz] at HFC
   have hfl1 : (zJ ps [] done).length <= 6400000000 := Nat.le_trans (yB ps done []) (Nat.le_trans (Nat.mul_le_mul h64 (show done.length <= 100000000 by omega)) (by omega))
   have hfl2 : (zJ ps done rest).length <= 6400000000 := Nat.le_trans (yB ps rest done) (Nat.le_trans (Nat.mul_le_mul h64 (show rest.length <= 100000000 by omega)) (by omega))
   have HDD := zB hd
   clear hb1 hb2 hb3 hbb hbel htx hXl hrz hdl hd
   go_wp2_with fail
   refine (zA HFC).mono ?_
   rintro e w2 ⟨vl, g2, rfl, hO⟩
   obtain ⟨la, lc, hvl, hnil, hsrc⟩ := matches_src hO.row
   subst hvl
   have HROW := zB ((zA HKW).fed hO)
   have HMO : Hid (∀ v3 w3, w3.ownsRow w.heap.size 49 2 v3 ((zJ ps [] done).length + (zJ ps done (rest)).length) (ze (zJ ps [] done) ++ ze (zJ ps done (rest))) -> w2.grownBy w3 u9.ownBlock -> (v3.ownBlock = u9.ownBlock \/ v3.ownBlock = some w2.heap.size) -> KF w w3 bs g2 gm ps S (done ++ rest) v3) := zB (fun v3 w3 h1 h2 h3 => (zA HKW).more hO h1 h2 h3)
   have hs2 : w.heap.size <= w2.heap.size := Nat.le_trans (zA HKW).bel.size hO.size
   have HNL := zB hnil
   have HSR := zB hsrc
   have HL1 := zB (mcell_len (zJ ps done (rest)))
   have HO1 := zB (mcell_one (zJ ps done (rest)))
   clear hO hnil hsrc HFC HKW hcv
   generalize (zJ ps [] done).length = n1 at *
   generalize ze (zJ ps [] done) = x1 at *
   generalize (zJ ps done (rest)).length = n2 at *
   generalize ze (zJ ps done (rest)) = x2 at *
   go_wp2_with (at_builtin; refine yf rfl (.tmp 48) (.tmp 49) 42 rfl w.heap.size 49 i0 _ 2 16 Tryz.underlying42 hi hz0 hz1 hz2 rfl (by decide) u9 n1 x1 rfl (zA HROW) la n2 lc x2 rfl (zA HNL) (zA HL1) (zA HSR) (zA HO1) (by unfold maxLen; omega) (by omega) hs2 ?_; intro v3 w3 ho hg hat; have HK3 := zB (zA HMO v3 w3 ho hg hat); clear ho hg hat)
   go_ret2
   have hK3 := zA HK3
   rw [zA HDD] at hK3
   exact ⟨v3, rfl, hK3.row, hK3.bel⟩
end Go.Proofs.YtfpohfifdfbpkaaGreatDoor
namespace Go.Proofs.YtfpohfifdfbpkaaGreatDoor
open Go.RowKit Scour Go.Lib
def hesP : List Str := [[104, 101], [115, 104, 101], [104, 101, 114, 115]]
theorem hes_chk : (chk hesP).1 = 0 := by decide
theorem hes_feed : zJ hesP [] [117, 115, 104, 101, 114, 115] = [(1, 4), (0, 4), (2, 6)] := by decide +kernel
theorem yO.below' {w w' : World} {ap : Option Addr} {ps : List Str} (h : yO w w.heap.size ap ps) (hb : Below w.heap.size w w') : yO w' w'.heap.size ap ps := fun h0 => by
 obtain ⟨b, o, h1, h2, h3⟩ := h h0
 have hs := hb.size
 refine ⟨b, o, by omega, h2, fun i hi => ?_⟩
 obtain ⟨ao, c, h4, h5⟩ := h3 i hi
 refine ⟨ao, c, (hb.cell (p := ⟨b, o + i, none⟩) h1).trans h4, fun h6 => ?_⟩
 obtain ⟨b', o', h7, h8, h9⟩ := h5 h6
 exact ⟨b', o', by omega, h8, fun j hj => (hb.cell (p := ⟨b', o' + j, none⟩) h7).trans (h9 j hj)⟩
def hesW (w : World) : World := (((w.alloc (.cells #[.int .u8 104, .int .u8 101] 5 (2, 3))).alloc (.cells #[.int .u8 115, .int .u8 104, .int .u8 101] 5 (3, 4))).alloc (.cells #[.int .u8 104, .int .u8 101, .int .u8 114, .int .u8 115] 5 (4, 5))).alloc (.cells #[.slice (some ⟨w.heap.size, 0, none⟩) 2 2, .slice (some ⟨w.heap.size + 1, 0, none⟩) 3 3, .slice (some ⟨w.heap.size + 2, 0, none⟩) 4 4] 27)
theorem hesW_below (w : World) : Below w.heap.size w (hesW w) := ((((Below.refl _ _).alloc (Nat.le_refl _) _).alloc (by simp) _).alloc (by simp; omega) _).alloc (by simp; omega) _
theorem hesW_pats (w : World) : yO (hesW w) (hesW w).heap.size (some ⟨w.heap.size + 3, 0, none⟩) hesP := by
 intro _
 have b3 : (hesW w).heap[w.heap.size + 3]? = some (.cells #[.slice (some ⟨w.heap.size, 0, none⟩) 2 2, .slice (some ⟨w.heap.size + 1, 0, none⟩) 3 3, .slice (some ⟨w.heap.size + 2, 0, none⟩) 4 4] 27) := by
  have := heap_alloc_new (((w.alloc (.cells #[.int .u8 104, .int .u8 101] 5 (2, 3))).alloc (.cells #[.int .u8 115, .int .u8 104, .int .u8 101] 5 (3, 4))).alloc (.cells #[.int .u8 104, .int .u8 101, .int .u8 114, .int .u8 115] 5 (4, 5))) (.cells #[.slice (some ⟨w.heap.size, 0, none⟩) 2 2, .slice (some ⟨w.heap.size + 1, 0, none⟩) 3 3, .slice (some ⟨w.heap.size + 2, 0, none⟩) 4 4] 27)
  simpa [hesW] using this
 have b2 : (hesW w).heap[w.heap.size + 2]? = some (.cells #[.int .u8 104, .int .u8 101, .int .u8 114, .int .u8 115] 5 (4, 5)) := by
  unfold hesW
  rw [Below.heap_alloc _ _ (w.heap.size + 2) (by simp)]
  have := heap_alloc_new ((w.alloc (.cells #[.int .u8 104, .int .u8 101] 5 (2, 3))).alloc (.cells #[.int .u8 115, .int .u8 104, .int .u8 101] 5 (3, 4))) (.cells #[.int .u8 104, .int .u8 101, .int .u8 114, .int .u8 115] 5 (4, 5))
  simpa using this
 have b1 : (hesW w).heap[w.heap.size + 1]? = some (.cells #[.int .u8 115, .int .u8 104, .int .u8 101] 5 (3, 4)) := by
  unfold hesW
  rw [Below.heap_alloc _ _ (w.heap.size + 1) (by simp), Below.heap_alloc _ _ (w.heap.size + 1) (by simp)]
  have := heap_alloc_new (w.alloc (.cells #[.int .u8 104, .int .u8 101] 5 (2, 3))) (.cells #[.int .u8 115, .int .u8 104, .int .u8 101] 5 (3, 4))
  simpa using this
 have b0 : (hesW w).heap[w.heap.size]? = some (.cells #[.int .u8 104, .int .u8 101] 5 (2, 3)) := by
  unfold hesW
  rw [Below.heap_alloc _ _ w.heap.size (by simp; omega), Below.heap_alloc _ _ w.heap.size (by simp; omega), Below.heap_alloc _ _ w.heap.size (by simp)]
  exact heap_alloc_new w _
 have hsz : (hesW w).heap.size = w.heap.size + 4 := by simp [hesW]
 refine ⟨w.heap.size + 3, 0, by omega, rfl, fun i hi => ?_⟩
 have hi3 : i < 3 := hi
 rcases i with _ | _ | _ | i
 ·refine ⟨some ⟨w.heap.size, 0, none⟩, 2, by rw [zC b3]; rfl, fun _ => ⟨w.heap.size, 0, by omega, rfl, fun j hj => ?_⟩⟩
  have : j < 2 := hj
  rw [zC b0]
  rcases j with _ | _ | j
  ·rfl
  ·rfl
  ·omega
 ·refine ⟨some ⟨w.heap.size + 1, 0, none⟩, 3, by rw [zC b3]; rfl, fun _ => ⟨w.heap.size + 1, 0, by omega, rfl, fun j hj => ?_⟩⟩
  have : j < 3 := hj
  rw [zC b1]
  rcases j with _ | _ | _ | j
  ·rfl
  ·rfl
  ·rfl
  ·omega
 ·refine ⟨some ⟨w.heap.size + 2, 0, none⟩, 4, by rw [zC b3]; rfl, fun _ => ⟨w.heap.size + 2, 0, by omega, rfl, fun j hj => ?_⟩⟩
  have : j < 4 := hj
  rw [zC b2]
  rcases j with _ | _ | _ | _ | j
  ·rfl
  ·rfl
  ·rfl
  ·rfl
  ·omega
 ·omega
set_option maxHeartbeats 4000000 in
set_option maxRecDepth 100000 in
theorem works_any (hSC : yl) (hFD : yU) (w : World) (hT : ErrT w) :
  Calls Tryz.prog 40 #[] w fun e w' => e = .returned (.bool true) /\ Below w.heap.size w w' := by
 have HCO := zB (compile_ok (some ⟨w.heap.size + 3, 0, none⟩) 3 hesP (hesW w) (hesW_pats w) hes_chk)
 have HBW := zB (hesW_below w)
 have HT := zB hT
 have HSC := zB hSC
 have HFD := zB hFD
 have hl3 : hesP.length = 3 := rfl
 rw [hl3] at HCO
 clear hT hSC hFD
 obtain ⟨W0, hW0⟩ : ∃ W0, W0 = hesW w := ⟨_, rfl⟩
 rw [← hW0] at HCO HBW
 unfold hesW at hW0
 have HW0 := zB hW0
 clear hW0
 have h0c : (convert 27 27 (.slice (some ⟨w.heap.size, 0, none⟩) 2 2)).run Tryz.prog (w.alloc (.cells #[.int .u8 104, .int .u8 101] 5)) = .ok (.slice (some ⟨w.heap.size, 0, none⟩) 2 2) (w.alloc (.cells #[.int .u8 104, .int .u8 101] 5 (2, 3))) := Lib.run_convert_bytes_const w 27 5 #[.int .u8 104, .int .u8 101] 2 2 Tryz.underlying27 Tryz.underlying5
 have h1c : (convert 27 27 (.slice (some ⟨w.heap.size + 1, 0, none⟩) 3 3)).run Tryz.prog ((w.alloc (.cells #[.int .u8 104, .int .u8 101] 5 (2, 3))).alloc (.cells #[.int .u8 115, .int .u8 104, .int .u8 101] 5)) = .ok (.slice (some ⟨w.heap.size + 1, 0, none⟩) 3 3) ((w.alloc (.cells #[.int .u8 104, .int .u8 101] 5 (2, 3))).alloc (.cells #[.int .u8 115, .int .u8 104, .int .u8 101] 5 (3, 4))) := by
  have := Lib.run_convert_bytes_const (P := Tryz.prog) (w.alloc (.cells #[.int .u8 104, .int .u8 101] 5 (2, 3))) 27 5 #[.int .u8 115, .int .u8 104, .int .u8 101] 3 3 Tryz.underlying27 Tryz.underlying5
  rw [show (w.alloc (.cells #[.int .u8 104, .int .u8 101] 5 (2, 3))).heap.size = w.heap.size + 1 by simp] at this
  exact this
 have h2c : (convert 27 27 (.slice (some ⟨w.heap.size + 2, 0, none⟩) 4 4)).run Tryz.prog (((w.alloc (.cells #[.int .u8 104, .int .u8 101] 5 (2, 3))).alloc (.cells #[.int .u8 115, .int .u8 104, .int .u8 101] 5 (3, 4))).alloc (.cells #[.int .u8 104, .int .u8 101, .int .u8 114, .int .u8 115] 5)) = .ok (.slice (some ⟨w.heap.size + 2, 0, none⟩) 4 4) (((w.alloc (.cells #[.int .u8 104, .int .u8 101] 5 (2, 3))).alloc (.cells #[.int .u8 115, .int .u8 104, .int .u8 101] 5 (3, 4))).alloc (.cells #[.int .u8 104, .int .u8 101, .int .u8 114, .int .u8 115] 5 (4, 5))) := by
  have := Lib.run_convert_bytes_const (P := Tryz.prog) ((w.alloc (.cells #[.int .u8 104, .int .u8 101] 5 (2, 3))).alloc (.cells #[.int .u8 115, .int .u8 104, .int .u8 101] 5 (3, 4))) 27 5 #[.int .u8 104, .int .u8 101, .int .u8 114, .int .u8 115] 4 4 Tryz.underlying27 Tryz.underlying5
  rw [show ((w.alloc (.cells #[.int .u8 104, .int .u8 101] 5 (2, 3))).alloc (.cells #[.int .u8 115, .int .u8 104, .int .u8 101] 5 (3, 4))).heap.size = w.heap.size + 2 by simp] at this
  exact this
 go_enter Tryz.func40, Tryz.ntmps40
 go_wp2_with fail
 rw [← zA HW0]
 refine (zA HCO).mono ?_
 rintro e w1 ⟨bm, bt, be, g, S, rfl, hM, _, hb1⟩
 have hgd := hM.good hes_chk
 have hfl := hgd.fileLen
 have HGD := zB hgd
 have HB1 := zB ((zA HBW).trans (hb1.mono (zA HBW).size))
 have HSV := zB (save_ok w1 bm bt be g hesP S hM hes_chk)
 clear hM hb1 hgd HCO HBW HW0
 go_wp2_with fail
 refine (zA HSV).mono ?_
 rintro e w2 ⟨fb, fc, rfl, hO, hb2⟩
 obtain ⟨fa, fd, e1, hat⟩ := owns_at hO
 cases e1
 obtain ⟨k1, k2⟩ : (zS hesP S).length <= fc /\ fc <= 9223372036854775807 := by
  rcases hO.2 with ⟨h1, _⟩ | ⟨g', cap', cur, h1, _, _, h4, h5, _⟩
  ·cases h1
  ·cases h1
   exact ⟨h4, by unfold maxLen at h5; omega⟩
 have HB2 := zB ((zA HB1).trans (hb2.mono (zA HB1).size))
 have HLO := zB (load_any (some ⟨fb, 0, none⟩) fc (zS hesP S) w2 hat k1 k2 (by omega) ((zA HT).below (zA HB2)))
 clear hO hb2 hat k1 k2 HSV HB1
 go_wp2_with fail
 refine (zA HLO).mono ?_
 rintro e w3 (⟨bn, bt2, be2, g2, ps2, S2, rfl, hM2, hc2, hf2, _, hb3⟩ | ⟨rfl, hnf, hb3⟩)
 ·obtain ⟨hp, hS2⟩ := file_inj (zA HGD) (hM2.good hc2) hf2
  subst hp hS2
  have HB3 := zB ((zA HB2).trans (hb3.mono (zA HB2).size))
  have HSN := zB (zA HSC w3 bn bt2 be2 g2 hesP S hM2 hes_chk)
  clear hM2 hc2 hf2 hb3 HLO HB2
  go_wp2_with fail
  refine (zA HSN).mono ?_
  rintro e w4 ⟨bs, g4, gm, rfl, hS4, _, hbs, hg4, hb4⟩
  have HB4 := zB ((zA HB3).trans (hb4.mono (zA HB3).size))
  have hb5 : Below w4.heap.size w4 (w4.alloc (.cells #[.int .u8 117, .int .u8 115, .int .u8 104, .int .u8 101, .int .u8 114, .int .u8 115] 5 (6, 7))) := (Below.refl _ _).alloc (Nat.le_refl _) _
  have hnb := heap_alloc_new w4 (.cells #[.int .u8 117, .int .u8 115, .int .u8 104, .int .u8 101, .int .u8 114, .int .u8 115] 5 (6, 7))
  have hF := zA HFD (w4.alloc (.cells #[.int .u8 117, .int .u8 115, .int .u8 104, .int .u8 101, .int .u8 114, .int .u8 115] 5 (6, 7))) bs g4 gm hesP S [] [117, 115, 104, 101, 114, 115] (some ⟨w4.heap.size, 0, none⟩) 6 (hS4.same hb5.size (fun k hk _ => hb5.block k hk)) hes_chk (Or.inr ⟨w4.heap.size, 0, rfl, by simp, fun j hj => by
   have : j < 6 := hj
   rw [zC hnb]
   rcases j with _ | _ | _ | _ | _ | _ | j
   ·rfl
   ·rfl
   ·rfl
   ·rfl
   ·rfl
   ·rfl
   ·omega⟩) (by decide) (by omega) (by decide) (by decide)
  have HF5 : Hid (Calls Tryz.prog 26 #[.pointer (some ⟨bs, 0, none⟩), .slice (some ⟨w4.heap.size, 0, none⟩) 6 6] (w4.alloc (.cells #[.int .u8 117, .int .u8 115, .int .u8 104, .int .u8 101, .int .u8 114, .int .u8 115] 5 (6, 7))) fun e w' => ∃ b5 c5, e = .returned (.slice (some ⟨b5, 0, none⟩) 3 c5) /\ (w'.cell? ⟨b5, 0, none⟩ = some (.int .i64 1) /\ w'.cell? ⟨b5, 1, none⟩ = some (.int .i64 4) /\ w'.cell? ⟨b5, 2, none⟩ = some (.int .i64 0) /\ w'.cell? ⟨b5, 3, none⟩ = some (.int .i64 4) /\ w'.cell? ⟨b5, 4, none⟩ = some (.int .i64 2) /\ w'.cell? ⟨b5, 5, none⟩ = some (.int .i64 6)) /\ Below w.heap.size w w') := zB (by
   refine hF.mono ?_
   rintro e w5 ⟨v, g', rfl, hO5⟩
   have hr := hO5.row
   rw [hes_feed] at hr
   obtain ⟨b5, c5, rfl, _, _⟩ := hr.form (by decide)
   have hs5 := (zA HB4).size
   have hs45 := hb4.size
   refine ⟨b5, c5, rfl, ⟨?_, ?_, ?_, ?_, ?_, ?_⟩, ?_⟩
   ·rw [hr.cellAt 0 (by decide)]; rfl
   ·rw [hr.cellAt 1 (by decide)]; rfl
   ·rw [hr.cellAt 2 (by decide)]; rfl
   ·rw [hr.cellAt 3 (by decide)]; rfl
   ·rw [hr.cellAt 4 (by decide)]; rfl
   ·rw [hr.cellAt 5 (by decide)]; rfl
   ·have hB := (zA HB4).alloc (by omega) (.cells #[.int .u8 117, .int .u8 115, .int .u8 104, .int .u8 101, .int .u8 114, .int .u8 115] 5 (6, 7))
    have hs3 := (zA HB3).size
    exact hB.trans ⟨hO5.os, hO5.tape, hO5.output, hO5.size, fun k hk => hO5.frame k (by simp; omega) (by omega) (fun hm => by have := hg4 k hm; omega)⟩)
  have h5c : (convert 27 27 (.slice (some ⟨w4.heap.size, 0, none⟩) 6 6)).run Tryz.prog (w4.alloc (.cells #[.int .u8 117, .int .u8 115, .int .u8 104, .int .u8 101, .int .u8 114, .int .u8 115] 5)) = .ok (.slice (some ⟨w4.heap.size, 0, none⟩) 6 6) (w4.alloc (.cells #[.int .u8 117, .int .u8 115, .int .u8 104, .int .u8 101, .int .u8 114, .int .u8 115] 5 (6, 7))) := Lib.run_convert_bytes_const w4 27 5 #[.int .u8 117, .int .u8 115, .int .u8 104, .int .u8 101, .int .u8 114, .int .u8 115] 6 6 Tryz.underlying27 Tryz.underlying5
  clear hF hnb hb5 hb4 hS4 hg4 HSN
  go_wp2_with fail
  refine (zA HF5).mono ?_
  rintro e w5 ⟨b5, c5, rfl, ⟨y0, y1, y2, y3, y4, y5⟩, hb⟩
  have HBB := zB hb
  clear hb
  go_wp2_with fail
  go_ret
  exact ⟨by simp, zA HBB⟩
 ·exact absurd rfl (hnf hesP S (zA HGD))
set_option maxHeartbeats 1000000 in
theorem machine_any (hSC : yl) (hFD : yU) (ap : Option Addr) (cp : Nat) (ps : List Str) (w : World) (hP : yO w w.heap.size ap ps) (hc : (chk ps).1 = 0) (hT : ErrT w) :
  Calls Tryz.prog 20 #[.slice ap ps.length cp] w fun e w' => ∃ (bm bt be : Nat) (g : List Nat) (S : List Str), e = .returned (.pointer (some ⟨bm, 0, none⟩)) /\ yV w' bm bt be g ps S /\ Below w.heap.size w w' := by
 have HWK := zB (works_any hSC hFD w hT)
 have HMD : Hid (∀ W, Below w.heap.size w W -> Calls Tryz.prog 13 #[.slice ap ps.length cp] W fun e w' => ∃ (bm bt be : Nat) (g : List Nat) (S : List Str), e = .returned (.pointer (some ⟨bm, 0, none⟩)) /\ yV w' bm bt be g ps S /\ Below W.heap.size W w') := zB (fun W hb => by
  refine (made_any ap cp ps W (hP.below' hb) hc).mono ?_
  rintro e w' ⟨bm, bt, be, g, S, rfl, hM, _, hb2⟩
  exact ⟨bm, bt, be, g, S, rfl, hM, hb2⟩)
 clear hP hc hT hSC hFD
 go_enter Tryz.func20, Tryz.ntmps20
 go_wp2_with (first | (go_at_call 40; refine (zA HWK).mono ?_; rintro e w1 ⟨rfl, hb1⟩; have HB1 := zB hb1; clear hb1) | (go_at_call 13; refine (zA HMD w1 (zA HB1)).mono ?_; rintro e w2 ⟨bm, bt, be, g, S, rfl, hM, hb2⟩; have HM := zB hM; have HB2 := zB hb2; clear hM hb2))
 go_ret
 exact ⟨bm, bt, be, g, S, rfl, zA HM, (zA HB1).trans ((zA HB2).mono (zA HB1).size)⟩
end Go.Proofs.YtfpohfifdfbpkaaGreatDoor
