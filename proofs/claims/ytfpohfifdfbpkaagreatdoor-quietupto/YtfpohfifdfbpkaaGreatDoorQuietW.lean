import Derived.Test.YtfpohfifdfbpkaaGreatDoorFoundW
import Derived.Test.YtfpohfifdfbpkaaGreatDoorLawA
namespace Go.Proofs.YtfpohfifdfbpkaaGreatDoor
open Go.RowKit Scour Go.Lib
structure KQ (w wr : World) (bs : Nat) (g gm : List Nat) (b2 : Nat) (g2 m2 : List Nat) (ps S : List Str) (done tt : Str) (v : Value) : Prop where
 kf : KF w wr bs g gm ps S done v
 scan : ScanM wr b2 g2 m2 ps S tt
 ge : w.heap.size <= b2
 geg : ∀ k, k ∈ g2 -> w.heap.size <= k
 gml : ∀ k, k ∈ m2 -> k < w.heap.size
 ne : b2 ≠ bs /\ b2 ∉ g
 neg : ∀ k, k ∈ g2 -> k ≠ bs /\ k ∉ g
 nev : ∀ k, v.ownBlock = some k -> k ≠ b2 /\ k ∉ g2
theorem KQ.below {w wr w' : World} {bs b2 : Nat} {g gm g2 m2 : List Nat} {ps S : List Str} {done tt : Str} {v : Value} (h : KQ w wr bs g gm b2 g2 m2 ps S done tt v) (hb : Below wr.heap.size wr w') : KQ w w' bs g gm b2 g2 m2 ps S done tt v :=
 ⟨h.kf.below hb, h.scan.same hb.size (fun k hk _ => hb.block k hk), h.ge, h.geg, h.gml, h.ne, h.neg, h.nev⟩
theorem KQ.more {w wr w2 w3 : World} {bs b2 : Nat} {g gm g2 m2 : List Nat} {ps S : List Str} {done tt b : Str} {v v3 : Value} (h : KQ w wr bs g gm b2 g2 m2 ps S done tt v) {vl : Value} {g' : List Nat} (hO : FdOut wr w2 bs g gm ps S done b vl g')
  (ha : w3.ownsRow w.heap.size 49 2 v3 ((zJ ps [] done).length + (zJ ps done b).length) (ze (zJ ps [] done) ++ ze (zJ ps done b))) (hg : w2.grownBy w3 v.ownBlock) (hat : v3.ownBlock = v.ownBlock \/ v3.ownBlock = some w2.heap.size) : KQ w w3 bs g' gm b2 g2 m2 ps S (done ++ b) tt v3 := by
 obtain ⟨l1, l2, l3⟩ := h.scan.lts
 have s2 := hO.size
 have s1 := h.kf.bel.size
 have hvb : ∀ k, v.ownBlock = some k -> w.heap.size <= k /\ k < wr.heap.size := fun k hk => h.kf.row.lt k hk
 refine ⟨h.kf.more hO ha hg hat, h.scan.same (Nat.le_trans s2 hg.size) (fun k hk hkk => ?_), h.ge, h.geg, h.gml, ⟨h.ne.1, fun hm => ?_⟩, fun k hk => ⟨(h.neg k hk).1, fun hm => ?_⟩, fun k hk => ?_⟩
 ·have hn : k ≠ bs /\ k ∉ g := by
   rcases hkk with rfl | h1 | h1
   ·exact h.ne
   ·exact h.neg k h1
   ·have := h.gml k h1
    exact ⟨fun e => by have := h.kf.ge; omega, fun e => by have := h.kf.geg k e; omega⟩
  rw [hg.block k (by omega) (fun e => ?_)]
  ·exact hO.frame k hk hn.1 hn.2
  ·rcases hkk with rfl | h1 | h1
   ·exact (h.nev k e.symm).1 rfl
   ·exact (h.nev k e.symm).2 h1
   ·have := h.gml k h1; have := (hvb k e.symm).1; omega
 ·rcases hO.own _ hm with h1 | h1
  ·exact h.ne.2 h1
  ·omega
 ·rcases hO.own _ hm with h1 | h1
  ·exact (h.neg k hk).2 h1
  ·have := l2 k hk; omega
 ·rcases hat with e | e
  ·exact h.nev k (e ▸ hk)
  ·have : w2.heap.size = k := by rw [e] at hk; simpa using hk
   exact ⟨by omega, fun hm => by have := l2 k hm; omega⟩
theorem KQ.noise {w wr w2 : World} {bs b2 : Nat} {g gm g2 m2 : List Nat} {ps S : List Str} {done tt b : Str} {v : Value} (h : KQ w wr bs g gm b2 g2 m2 ps S done tt v) {vl : Value} {g' : List Nat} (hO : FdOut wr w2 b2 g2 m2 ps S tt b vl g') : KQ w w2 bs g gm b2 g' m2 ps S done (tt ++ b) v := by
 obtain ⟨l1, l2, l3⟩ := h.kf.scan.lts
 have s1 := h.kf.bel.size
 have hs : ∀ k, k = bs \/ k ∈ g \/ k ∈ gm -> k ≠ b2 /\ k ∉ g2 := by
  rintro k (rfl | h1 | h1)
  ·exact ⟨fun e => h.ne.1 e.symm, fun e => (h.neg k e).1 rfl⟩
  ·exact ⟨fun e => h.ne.2 (e ▸ h1), fun e => (h.neg k e).2 h1⟩
  ·have := h.kf.gml k h1
   exact ⟨fun e => by have := h.ge; omega, fun e => by have := h.geg k e; omega⟩
 refine ⟨⟨h.kf.scan.same hO.size (fun k hk hkk => hO.frame k hk (hs k hkk).1 (hs k hkk).2), h.kf.ge, h.kf.geg, h.kf.gml, zE h.kf.row (fun k hk hv => hO.frame k hk (h.nev k hv).1 (h.nev k hv).2), h.kf.apart, ?_⟩, hO.scan, h.ge, fun k hk => ?_, h.gml, h.ne, fun k hk => ?_, fun k hk => ⟨(h.nev k hk).1, fun hm => ?_⟩⟩
 ·exact ⟨hO.os.trans h.kf.bel.os, hO.tape.trans h.kf.bel.tape, hO.output.trans h.kf.bel.output, Nat.le_trans s1 hO.size, fun k hk => (hO.frame k (by omega) (fun e => by have := h.ge; omega) (fun e => by have := h.geg k e; omega)).trans (h.kf.bel.block k hk)⟩
 ·rcases hO.own k hk with h1 | h1
  ·exact h.geg k h1
  ·omega
 ·rcases hO.own k hk with h1 | h1
  ·exact h.neg k h1
  ·exact ⟨fun e => by omega, fun e => by have := l2 k e; omega⟩
 ·rcases hO.own k hm with h1 | h1
  ·exact (h.nev k hk).2 h1
  ·have := (h.kf.row.lt k hk).2; omega
theorem KQ.nothing {w wr w2 : World} {bs b2 : Nat} {g gm g2 m2 : List Nat} {ps S : List Str} {done tt : Str} {v : Value} (h : KQ w wr bs g gm b2 g2 m2 ps S done tt v) {vl : Value} {g' : List Nat} (hO : FdOut wr w2 bs g gm ps S done [] vl g') : KQ w w2 bs g' gm b2 g2 m2 ps S done tt v := by
 have hf := h.kf.fed hO
 have e0 : zJ ps done [] = [] := by cases done <;> rfl
 have := h.more hO (v3 := v) (w3 := w2) (by rw [e0]; simpa [ze] using hf) ⟨rfl, rfl, rfl, Nat.le_refl _, fun _ _ _ => rfl⟩ (Or.inl rfl)
 rw [List.append_nil] at this
 exact this
theorem compile_whatever (ap : Option Addr) (cp : Nat) (ps : List Str) (w : World) (hP : yO w w.heap.size ap ps) (hbig : ps.length <= 9000000000000000000) (hl : ∀ i, i < ps.length -> (pat ps i).length <= 9000000000000000000) :
  Calls Tryz.prog 28 #[.slice ap ps.length cp] w fun e w' => ∃ a b c, e = .returned (.tuple #[a, b, c]) /\ Below w.heap.size w w' := by
 by_cases hc : (chk ps).1 = 0
 ·refine (compile_ok ap cp ps w hP hc).mono ?_
  rintro e w' ⟨bm, bt, be, g, S, rfl, _, _, hb⟩
  exact ⟨_, _, _, rfl, hb⟩
 ·refine (compile_bad ap cp w.heap.size ps w hP hbig hl hc).mono ?_
  rintro e w' ⟨rfl, rfl⟩
  exact ⟨_, _, _, rfl, Below.refl _ _⟩
theorem load_whatever (ao : Option Addr) (cap : Nat) (s : Str) (w : World) (hB : zh w ao cap s) (hcap : s.length <= cap) (hc2 : cap <= 9223372036854775807) (hs8 : s.length <= 9223372036854775807) (hT : ErrT w) :
  Calls Tryz.prog 16 #[.slice ao s.length cap] w fun e w' => ∃ a b, e = .returned (.tuple #[a, b]) /\ Below w.heap.size w w' := by
 refine (load_any ao cap s w hB hcap hc2 hs8 hT).mono ?_
 rintro e w' (⟨bm, bt, be, g, ps, S, rfl, _, _, _, _, hb⟩ | ⟨rfl, _, hb⟩)
 ·exact ⟨_, _, rfl, hb⟩
 ·exact ⟨_, _, rfl, hb⟩
theorem conv_at' {capf : World -> Nat} {objf : World -> Obj} {T : ByteArray} {s : Str} (hs : T.data.toList = s) (hbb : ∀ W : World, (∀ j, j < T.size -> (W.alloc (objf W)).drew.cell? ⟨W.heap.size, j, none⟩ = some (.int .u8 (T.data.toList.getD j 0).toNat) /\ (W.alloc (objf W)).drew.frozen? ⟨W.heap.size, j, none⟩ = false) /\ T.size <= capf W /\ capf W <= 9223372036854775807) (W : World) : zh (W.alloc (objf W)).drew (some ⟨W.heap.size, 0, none⟩) (capf W) s /\ s.length <= capf W /\ capf W <= 9223372036854775807 := by
 have hl : T.size = s.length := by rw [← hs, Array.length_toList]; rfl
 obtain ⟨h1, h2, h3⟩ := hbb W
 rw [hs] at h1
 exact ⟨Or.inr ⟨W.heap.size, 0, rfl, by simp, fun j hj => by rw [Nat.zero_add]; exact (h1 j (by omega)).1⟩, by omega, h3⟩
set_option maxHeartbeats 16000000 in
set_option maxRecDepth 100000 in
theorem quiet_any (hSC : yl) (hFD : yU) (ap : Option Addr) (len cap : Nat) (ss : List ByteArray) (text : Str) (ac : Option Addr) (cc : Nat) (cuts : List Int) (noise : Str) (w : World) (hS : StrsIn w w.heap.size ap len ss) (hl : len <= ss.length) (hlen : len <= maxLen) (hsz : ∀ i, i < len -> (ss.getD i .empty).size <= maxLen) (ht : text.length < 100000000) (hcl : cuts.length < 100000000) (hci : IntsIn w w.heap.size ac cuts) (hnz : noise.length < 100000000) (hT : ErrT w) :
  Calls Tryz.prog 10 #[.slice ap len cap, .string ⟨text.toArray⟩, .slice ac cuts.length cc, .string ⟨noise.toArray⟩] w fun e w' => e = .returned (.bool true) /\ Below w.heap.size w w' := by
 obtain ⟨i0, hi, hz0, hz1, hz2⟩ := info_parts Tryz.infoM
 have HPT := zB (keepPats_any ap len cap ss w hS hl hlen hsz)
 have hc : (chk (jH ss len)).1 = 0 := keepP_chk ss len
 obtain ⟨h64, hpl, _⟩ := yr hc
 have HSC := zB hSC
 have HFD := zB hFD
 have HET := zB hT
 have HCI := zB hci
 clear hS hsz hl hlen hci hT hpl hSC hFD
 generalize jH ss len = ps at *
 have HC := zB hc
 clear hc
 obtain ⟨tx, htx⟩ : ∃ tx, tx = (⟨text.toArray⟩ : ByteArray) := ⟨_, rfl⟩
 obtain ⟨tn, htn⟩ : ∃ tn, tn = (⟨noise.toArray⟩ : ByteArray) := ⟨_, rfl⟩
 have hnl : tn.size = noise.length := by rw [htn]; simp [ByteArray.size]
 obtain ⟨capn, objn, hcvn, hbbn⟩ := conv_bytesF tn (by unfold maxLen; omega)
 have HNC := zB (conv_at' (s := noise) (by rw [htn]) hbbn)
 rw [hnl] at hcvn
 rw [← htx, ← htn]
 have HTX := zB htx
 clear htx htn hbbn hnl
 go_enter Tryz.func10, Tryz.ntmps10
 go_wp2_with (first
  | (go_at_call 14; refine (zA HPT).mono ?_; rintro e w1 ⟨ap', cap', rfl, hP, hb1⟩; have HP := zB hP; have HB1 := zB hb1; clear hP hb1)
  | (go_at_call 20; refine (machine_any (zA HSC) (zA HFD) ap' cap' ps w1 (zA HP) (zA HC) ((zA HET).below (zA HB1))).mono ?_; rintro e w2 ⟨bm, bt, be, g, S, rfl, hM, hb2⟩; have HM := zB hM; have HB2 := zB ((zA HB1).trans (hb2.mono (zA HB1).size)); clear hM hb2))
 have HCI2 : Hid (IntsIn w2 w2.heap.size ac cuts) := zB (fun i hi => by
  obtain ⟨b, o, h1, h2⟩ := ((zA HCI).below (zA HB2)) i hi
  exact ⟨b, o, Nat.lt_of_lt_of_le h1 (zA HB2).size, h2⟩)
 have HF1 := zB (kfed_any (zA HSC) (zA HFD) bm bt be g ps S text ac cc cuts w2 (zA HM) (zA HC) ht hcl (zA HCI2))
 rw [← zA HTX] at HF1
 refine (zA HF1).mono ?_
 rintro e w3 ⟨va, rfl, hva, hb3⟩
 have HVA := zB hva
 have HM3 := zB ((zA HM).below hb3)
 have HB3 := zB ((zA HB2).trans (hb3.mono (zA HB2).size))
 have HCI3 : Hid (IntsIn w3 w3.heap.size ac cuts) := zB (fun i hi => by
  obtain ⟨b, o, h1, h2⟩ := ((zA HCI2).below hb3) i hi
  exact ⟨b, o, Nat.lt_of_lt_of_le h1 hb3.size, h2⟩)
 have HS1 := zB (zA HSC w3 bm bt be g ps S (zA HM3) (zA HC))
 clear hva hb3 HF1 HPT HP HB1 HCI HCI2 HM HB2
 go_wp2_with fail
 refine (zA HS1).mono ?_
 rintro e w4 ⟨bs, g1, gm, rfl, hS4, hgm, hbs, hg1, hb4⟩
 have HS2 := zB (zA HSC w4 bm bt be g ps S ((zA HM3).below hb4) (zA HC))
 go_wp2_with fail
 refine (zA HS2).mono ?_
 rintro e w5 ⟨b2, g2, m2, rfl, hS5, hm2, hb2, hg2, hb5⟩
 have HK0 : Hid (KQ w3 w5 bs g1 gm b2 g2 m2 ps S [] [] (.slice none 0 0)) := zB (by
  obtain ⟨l1, l2, l3⟩ := hS4.lts
  obtain ⟨q1, q2, q3, q4⟩ := (zA HM3).lts
  have s34 := hb4.size
  have hgl : ∀ k, (k = bm \/ k = bt \/ k = be \/ k ∈ g) -> k < w3.heap.size := by
   rintro k (rfl | rfl | rfl | h1)
   ·exact q1
   ·exact q2
   ·exact q3
   ·exact q4 k h1
  refine ⟨⟨hS4.same hb5.size (fun k hk _ => hb5.block k hk), hbs, hg1, fun k hk => hgl k (hgm k hk), World.ownsRow_nil _ _ _ _, (fun k hk => by cases hk), hb4.trans (hb5.mono s34)⟩, hS5, by omega, fun k hk => by have := hg2 k hk; omega, fun k hk => hgl k (hm2 k hk), ⟨by omega, fun hm => by have := l2 _ hm; omega⟩, fun k hk => ⟨by have := hg2 k hk; omega, fun hm => by have := l2 _ hm; have := hg2 k hk; omega⟩, (fun k hk => by cases hk)⟩)
 clear hS4 hgm hbs hg1 hb4 hS5 hm2 hb2 hg2 hb5 HS1 HS2
 have HFE : Hid (∀ wr g' g2' done rest tt v n, KQ w3 wr bs g' gm b2 g2' m2 ps S done tt v -> done ++ rest = text -> n <= rest.length -> ∀ ao c, zh wr ao c (rest.take n) -> n <= c -> c <= 9223372036854775807 -> Calls Tryz.prog 26 #[.pointer (some ⟨bs, 0, none⟩), .slice ao n c] wr fun e w2 => ∃ vl g2, e = .returned vl /\ FdOut wr w2 bs g' gm ps S done (rest.take n) vl g2) := zB (fun wr g' g2' done rest tt v n hK hd hn ao c hB h1 h2 => by
  have hl : (rest.take n).length = n := by rw [List.length_take]; omega
  have hdl : done.length + rest.length = text.length := by rw [← hd, List.length_append]
  have := zA HFD wr bs g' gm ps S done (rest.take n) ao c hK.kf.scan (zA HC) hB (by omega) h2 (by omega) (by omega)
  rw [hl] at this
  exact this)
 have HNZ : Hid (∀ wr g' g2' done tt v, KQ w3 wr bs g' gm b2 g2' m2 ps S done tt v -> tt.length < 1000000000000000000 -> ∀ ao c, zh wr ao c noise -> noise.length <= c -> c <= 9223372036854775807 -> Calls Tryz.prog 26 #[.pointer (some ⟨b2, 0, none⟩), .slice ao noise.length c] wr fun e w2 => ∃ vl g2, e = .returned vl /\ KQ w3 w2 bs g' gm b2 g2 m2 ps S done (tt ++ noise) v) := zB (fun wr g' g2' done tt v hK htt ao c hB h1 h2 => by
  refine (zA HFD wr b2 g2' m2 ps S tt noise ao c hK.scan (zA HC) hB h1 h2 (by omega) htt).mono ?_
  rintro e w2 ⟨vl, g2, rfl, hO⟩
  exact ⟨vl, g2, rfl, hK.noise hO⟩)
 have HSV : Hid (∀ wr g' g2' done tt v, KQ w3 wr bs g' gm b2 g2' m2 ps S done tt v -> Calls Tryz.prog 15 #[.pointer (some ⟨bm, 0, none⟩)] wr fun e w2 => ∃ x, e = .returned x /\ KQ w3 w2 bs g' gm b2 g2' m2 ps S done tt v) := zB (fun wr g' g2' done tt v hK => by
  refine (save_ok wr bm bt be g ps S ((zA HM3).below hK.kf.bel) (zA HC)).mono ?_
  rintro e w2 ⟨b, c, rfl, _, hb⟩
  exact ⟨_, rfl, hK.below hb⟩)
 have hpos : 0 < S.length := by
  obtain ⟨_, _, _, _, _, hT, _⟩ := (zA HM3).ex
  exact hT.rep.pos
 have HNX : Hid (∀ wr g' g2' done tt v, KQ w3 wr bs g' gm b2 g2' m2 ps S done tt v -> Calls Tryz.prog 27 #[.pointer (some ⟨bm, 0, none⟩), .int .i64 0, .int .u8 97] wr fun e w2 => ∃ x, e = .returned x /\ KQ w3 w2 bs g' gm b2 g2' m2 ps S done tt v) := zB (fun wr g' g2' done tt v hK => by
  refine (mnext_in bm bt be g ps S wr ((zA HM3).below hK.kf.bel) 0 97 hpos).mono ?_
  rintro e w2 ⟨rfl, hb⟩
  exact ⟨_, rfl, hK.below hb⟩)
 have HLD : Hid (∀ wr g' g2' done tt v, KQ w3 wr bs g' gm b2 g2' m2 ps S done tt v -> ∀ ao c, zh wr ao c noise -> noise.length <= c -> c <= 9223372036854775807 -> Calls Tryz.prog 16 #[.slice ao noise.length c] wr fun e w2 => ∃ x, e = .returned x /\ KQ w3 w2 bs g' gm b2 g2' m2 ps S done tt v) := zB (fun wr g' g2' done tt v hK ao c hB h1 h2 => by
  refine (load_whatever ao c noise wr hB h1 h2 (by omega) ((zA HET).below ((zA HB3).trans (hK.kf.bel.mono (zA HB3).size)))).mono ?_
  rintro e w2 ⟨a, b, rfl, hb⟩
  exact ⟨_, rfl, hK.below hb⟩)
 have HCP : Hid (∀ wr g' g2' done tt v, KQ w3 wr bs g' gm b2 g2' m2 ps S done tt v -> ∀ ap, yO wr wr.heap.size ap [noise] -> Calls Tryz.prog 28 #[.slice ap 1 1] wr fun e w2 => ∃ x, e = .returned x /\ KQ w3 w2 bs g' gm b2 g2' m2 ps S done tt v) := zB (fun wr g' g2' done tt v hK ap hP => by
  refine (compile_whatever ap 1 [noise] wr hP (by simp) (fun i hi => by
   have : i = 0 := by simpa using hi
   subst this
   show noise.length <= _
   omega)).mono ?_
  rintro e w2 ⟨a, b, c, rfl, hb⟩
  exact ⟨_, rfl, hK.below hb⟩)
 have HNU : Hid (∀ wr g' g2' done tt v, KQ w3 wr bs g' gm b2 g2' m2 ps S done tt v -> done.length < 1000000000 -> Calls Tryz.prog 26 #[.pointer (some ⟨bs, 0, none⟩), .slice none 0 0] wr fun e w2 => ∃ x g2, e = .returned x /\ KQ w3 w2 bs g2 gm b2 g2' m2 ps S done tt v) := zB (fun wr g' g2' done tt v hK hdl => by
  have := zA HFD wr bs g' gm ps S done [] none 0 hK.kf.scan (zA HC) (Or.inl ⟨rfl, fun _ => rfl⟩) (by simp) (by omega) (by simp) (by omega)
  refine Calls.mono this ?_
  rintro e w2 ⟨vl, g2, rfl, hO⟩
  exact ⟨vl, g2, rfl, hK.nothing hO⟩)
 have HPN : Hid (∀ W : World, yO ((W.alloc (objn W)).drew.alloc (.cells #[.slice (some ⟨W.heap.size, 0, none⟩) noise.length (capn W)] 27)) ((W.alloc (objn W)).drew.alloc (.cells #[.slice (some ⟨W.heap.size, 0, none⟩) noise.length (capn W)] 27)).heap.size (some ⟨W.heap.size + 1, 0, none⟩) [noise]) := zB (fun W _ => by
  have hnb := heap_alloc_new (W.alloc (objn W)).drew (.cells #[.slice (some ⟨W.heap.size, 0, none⟩) noise.length (capn W)] 27)
  have hs : (W.alloc (objn W)).drew.heap.size = W.heap.size + 1 := by simp
  rw [hs] at hnb
  refine ⟨W.heap.size + 1, 0, by simp, rfl, fun i hi => ?_⟩
  have : i = 0 := by simpa using hi
  subst this
  refine ⟨some ⟨W.heap.size, 0, none⟩, capn W, by rw [zC hnb]; rfl, fun h0 => ?_⟩
  have hB := (zA HNC W).1.below ((Below.refl (W.alloc (objn W)).drew.heap.size (W.alloc (objn W)).drew).alloc (Nat.le_refl _) (.cells #[.slice (some ⟨W.heap.size, 0, none⟩) noise.length (capn W)] 27))
  rcases hB with ⟨e, _⟩ | ⟨b, o, e, h1, h2⟩
  ·have h0' : 0 < noise.length := h0
   rw [e] at h0'; simp at h0'
  ·exact ⟨b, o, h1, e, h2⟩)
 clear HM3 HFD HSC hpos
 go_wp2_with fail
 go_loopw [14, 15, 16] (fun v14 v15 v16 wr => ∃ (k : Nat) (rest done tt : Str) (g' g2' : List Nat), v15 = .string ⟨rest.toArray⟩ /\ v16 = .int .i64 k /\ k <= cuts.length /\ done ++ rest = text /\ tt.length <= k * 100000000 /\ Hid (KQ w3 wr bs g' gm b2 g2' m2 ps S done tt v14)) (fun _ _ v16 _ => cuts.length - (intOf v16).toNat)
 case atStart => exact ⟨0, text, [], [], g1, g2, by rw [← zA HTX], rfl, Nat.zero_le _, rfl, by simp, HK0⟩
 case round =>
  obtain ⟨k, rest, done, tt, g', g2', rfl, rfl, hk, hd, htt, HK⟩ := hrel
  have hdl : done.length + rest.length = text.length := by rw [← hd, List.length_append]
  have hrz : (⟨rest.toArray⟩ : ByteArray).size = rest.length := by simp [ByteArray.size]
  by_cases hkc : k < cuts.length
  ·obtain ⟨cb, co, hcb, rfl, ccell, cr1, cr2⟩ := (zA HCI3).below (zA HK).kf.bel k hkc
   have i1 : (k : Int) < (cuts.length : Int) := by omega
   have i2 : (0 : Int) <= (k : Int) := by omega
   obtain ⟨hp1, hp2⟩ := pickI_lt (cuts.getD k 0) ((rest.length : Int) + 1) (by omega)
   obtain ⟨n, hn⟩ : ∃ n : Nat, pickI (cuts.getD k 0) ((rest.length : Int) + 1) = n := ⟨(pickI (cuts.getD k 0) ((rest.length : Int) + 1)).toNat, by omega⟩
   have hnr : n <= rest.length := by omega
   have HPK : Hid (∀ W, Calls Tryz.prog 19 #[.int .i64 (cuts.getD k 0), .int .i64 ((rest.length : Int) + 1)] W fun e w' => e = .returned (.int .i64 n) /\ w' = W) := zB (fun W => by
    have := pick_any (cuts.getD k 0) ((rest.length : Int) + 1) W (by omega) (by omega) ⟨cr1, cr2⟩
    rw [hn] at this; exact this)
   have ex1 := extract_take rest n
   have ex2 := jT rest n
   have HD2 : Hid ((done ++ rest.take n) ++ rest.drop n = text) := zB (by rw [List.append_assoc, List.take_append_drop]; exact hd)
   obtain ⟨tx, htx⟩ : ∃ tx, tx = (⟨rest.toArray⟩ : ByteArray) := ⟨_, rfl⟩
   rw [← htx] at hrz ex1 ex2 ⊢
   obtain ⟨X, hX⟩ : ∃ X, tx.extract 0 n = X := ⟨_, rfl⟩
   obtain ⟨Y, hY⟩ : ∃ Y, tx.extract n tx.size = Y := ⟨_, rfl⟩
   have HYY : Hid (Y = ⟨(rest.drop n).toArray⟩) := zB (by rw [← hY]; exact ex2)
   have hXe : X = ⟨(rest.take n).toArray⟩ := by rw [← hX]; exact ex1
   have hXz : X.size = n := by rw [hXe]; simp [ByteArray.size]; omega
   have hXl : X.data.toList = rest.take n := by rw [hXe]
   obtain ⟨capf, objf, hcv, hbb⟩ := conv_bytesF X (by unfold maxLen; omega)
   rw [hXz, hXl] at hbb
   rw [hXz] at hcv
   obtain ⟨hb1, hb2, hb3⟩ := hbb wr
   have hbel : Below wr.heap.size wr (wr.alloc (objf wr)).drew := ((Below.refl _ _).alloc (Nat.le_refl _) _).drew
   have HKW := zB ((zA HK).below hbel)
   have HFC := zB (zA HFE _ g' g2' done rest tt u14 n (zA HKW) hd hnr (some ⟨wr.heap.size, 0, none⟩) (capf wr) (Or.inr ⟨wr.heap.size, 0, rfl, by simp, fun j hj => by
    have hj' : j < n := by rw [List.length_take] at hj; omega
    rw [Nat.zero_add]; exact (hb1 j hj').1⟩) hb2 hb3)
   have hdz : tx.size = rest.length := hrz
   have k0 : (0 : Int) <= (n : Int) := by omega
   have k1 : (n : Int) <= (tx.size : Int) := by omega
   have hfd := yB ps done []
   have hfl1 : (zJ ps [] done).length <= 6400000000 := Nat.le_trans (yB ps done []) (Nat.le_trans (Nat.mul_le_mul h64 (show done.length <= 100000000 by omega)) (by omega))
   have hfl2 : (zJ ps done (rest.take n)).length <= 6400000000 := Nat.le_trans (yB ps (rest.take n) done) (Nat.le_trans (Nat.mul_le_mul h64 (show (rest.take n).length <= 100000000 by rw [List.length_take]; omega)) (by omega))
   have htl : tx.size < 100000000 := by omega
   have HRZ := zB hrz
   have HXZ := zB hXz
   have HDD := zB hd
   have HDL := zB hdl
   have HNR := zB hnr
   clear hb1 hb2 hb3 hbb hbel ex1 ex2 htx hn hp1 hp2 hXe hXl hfd
   rw [← hrz] at HPK
   clear hrz hXz hd hdl hdz hnr cr1 cr2 hcb
   generalize cuts.getD k 0 = ck at *
   go_wp2_with (go_at_call 19; refine (zA HPK _).mono ?_; rintro e w' ⟨rfl, hw⟩; have hw' := hw.symm; clear hw; subst hw')
   refine (zA HFC).mono ?_
   rintro e wf ⟨vl, gs, rfl, hO⟩
   obtain ⟨la, lc, hvl, hnil, hsrc⟩ := matches_src hO.row
   subst hvl
   have HROW := zB ((zA HKW).kf.fed hO)
   have HMO : Hid (∀ v3 w6, w6.ownsRow w3.heap.size 49 2 v3 ((zJ ps [] done).length + (zJ ps done (rest.take n)).length) (ze (zJ ps [] done) ++ ze (zJ ps done (rest.take n))) -> wf.grownBy w6 u14.ownBlock -> (v3.ownBlock = u14.ownBlock \/ v3.ownBlock = some wf.heap.size) -> KQ w3 w6 bs gs gm b2 g2' m2 ps S (done ++ rest.take n) tt v3) := zB (fun v3 w6 h1 h2 h3 => (zA HKW).more hO h1 h2 h3)
   have hs2 : w3.heap.size <= wf.heap.size := Nat.le_trans (zA HKW).kf.bel.size hO.size
   have HNL := zB hnil
   have HSR := zB hsrc
   have HL1 := zB (mcell_len (zJ ps done (rest.take n)))
   have HO1 := zB (mcell_one (zJ ps done (rest.take n)))
   clear hO hnil hsrc HFC HKW hcv
   generalize (zJ ps [] done).length = n1 at *
   generalize ze (zJ ps [] done) = x1 at *
   generalize (zJ ps done (rest.take n)).length = n2 at *
   generalize ze (zJ ps done (rest.take n)) = x2 at *
   go_wp2_with (at_builtin; refine yf rfl (.tmp 67) (.tmp 68) 42 rfl w3.heap.size 49 i0 _ 2 16 Tryz.underlying42 hi hz0 hz1 hz2 rfl (by decide) u14 n1 x1 rfl (zA HROW) la n2 lc x2 rfl (zA HNL) (zA HL1) (zA HSR) (zA HO1) (by unfold maxLen; omega) (by omega) hs2 ?_; intro v3 w6 ho hg hat; have HK3 := zB (zA HMO v3 w6 ho hg hat); clear ho hg hat)
   have hbn : Below w6.heap.size w6 (w6.alloc (objn w6)).drew := ((Below.refl _ _).alloc (Nat.le_refl _) _).drew
   refine (zA HNZ _ gs g2' (done ++ rest.take n) tt v3 ((zA HK3).below hbn) (by omega) _ _ (zA HNC w6).1 (zA HNC w6).2.1 (zA HNC w6).2.2).mono ?_
   rintro e w7 ⟨x7, g3, rfl, hK7⟩
   have HK7 := zB hK7
   clear hK7 hbn HK3 HK
   go_wp2_with fail
   refine (zA HSV w7 _ _ _ _ _ (zA HK7)).mono ?_
   rintro e w8 ⟨x8, rfl, hK8⟩
   have HK8 := zB hK8
   clear hK8 HK7
   go_wp2_with fail
   refine (zA HNX w8 _ _ _ _ _ (zA HK8)).mono ?_
   rintro e w9 ⟨x9, rfl, hK9⟩
   have HK9 := zB hK9
   clear hK9 HK8
   go_wp2_with fail
   refine (zA HLD _ _ _ _ _ _ ((zA HK9).below (((Below.refl _ _).alloc (Nat.le_refl _) _).drew)) _ _ (zA HNC w9).1 (zA HNC w9).2.1 (zA HNC w9).2.2).mono ?_
   rintro e w10 ⟨x10, rfl, hK10⟩
   have HK10 := zB hK10
   clear hK10 HK9
   go_wp2_with fail
   refine (zA HCP _ _ _ _ _ _ ((zA HK10).below ((((Below.refl _ _).alloc (Nat.le_refl _) _).drew).alloc (by simp) _)) _ (zA HPN w10)).mono ?_
   rintro e w11 ⟨x11, rfl, hK11⟩
   have HK11 := zB hK11
   clear hK11 HK10
   have HDN : Hid ((done ++ rest.take n).length < 1000000000) := zB (by have := zA HDL; rw [List.length_append, List.length_take]; omega)
   go_wp2_with fail
   refine (zA HNU w11 _ _ _ _ _ (zA HK11) (zA HDN)).mono ?_
   rintro e w12 ⟨x12, g4, rfl, hK12⟩
   have HK12 := zB hK12
   clear hK12 HK11
   go_wp2_with fail
   go_roundw
   case rel => exact ⟨k + 1, rest.drop n, done ++ rest.take n, tt ++ noise, g4, g3, by rw [← zA HYY], by go_num, hkc, zA HD2, by rw [List.length_append]; omega, HK12⟩
   case measure => simp [intOf]; omega
  ·obtain rfl : k = cuts.length := by omega
   have i1 : ¬ (cuts.length : Int) < (cuts.length : Int) := by omega
   obtain ⟨tx, htx⟩ : ∃ tx, tx = (⟨rest.toArray⟩ : ByteArray) := ⟨_, rfl⟩
   rw [← htx] at hrz ⊢
   have hXl : tx.data.toList = rest := by rw [htx]
   obtain ⟨capf, objf, hcv, hbb⟩ := conv_bytesF tx (by unfold maxLen; omega)
   rw [hXl] at hbb
   obtain ⟨hb1, hb2, hb3⟩ := hbb wr
   have hbel : Below wr.heap.size wr (wr.alloc (objf wr)).drew := ((Below.refl _ _).alloc (Nat.le_refl _) _).drew
   have HKW := zB ((zA HK).below hbel)
   have HFC := zB (zA HFE _ g' g2' done rest tt u14 rest.length (zA HKW) hd (Nat.le_refl _) (some ⟨wr.heap.size, 0, none⟩) (capf wr) (Or.inr ⟨wr.heap.size, 0, rfl, by simp, fun j hj => by
    rw [List.take_length] at hj ⊢
    rw [Nat.zero_add]; exact (hb1 j (by omega)).1⟩) (by omega) hb3)
   rw [List.take_length, ← hrz] at HFC
   have hfl1 : (zJ ps [] done).length <= 6400000000 := Nat.le_trans (yB ps done []) (Nat.le_trans (Nat.mul_le_mul h64 (show done.length <= 100000000 by omega)) (by omega))
   have hfl2 : (zJ ps done rest).length <= 6400000000 := Nat.le_trans (yB ps rest done) (Nat.le_trans (Nat.mul_le_mul h64 (show rest.length <= 100000000 by omega)) (by omega))
   have HDD := zB hd
   clear hb1 hb2 hb3 hbb hbel htx hXl hrz hdl hd
   go_wp2_with fail
   refine (zA HFC).mono ?_
   rintro e wf ⟨vl, gs, rfl, hO⟩
   obtain ⟨la, lc, hvl, hnil, hsrc⟩ := matches_src hO.row
   subst hvl
   have HROW := zB ((zA HKW).kf.fed hO)
   have HMO : Hid (∀ v3 w6, w6.ownsRow w3.heap.size 49 2 v3 ((zJ ps [] done).length + (zJ ps done (rest)).length) (ze (zJ ps [] done) ++ ze (zJ ps done (rest))) -> wf.grownBy w6 u14.ownBlock -> (v3.ownBlock = u14.ownBlock \/ v3.ownBlock = some wf.heap.size) -> KQ w3 w6 bs gs gm b2 g2' m2 ps S (done ++ rest) tt v3) := zB (fun v3 w6 h1 h2 h3 => (zA HKW).more hO h1 h2 h3)
   have hs2 : w3.heap.size <= wf.heap.size := Nat.le_trans (zA HKW).kf.bel.size hO.size
   have HNL := zB hnil
   have HSR := zB hsrc
   have HL1 := zB (mcell_len (zJ ps done (rest)))
   have HO1 := zB (mcell_one (zJ ps done (rest)))
   clear hO hnil hsrc HFC HKW hcv
   generalize (zJ ps [] done).length = n1 at *
   generalize ze (zJ ps [] done) = x1 at *
   generalize (zJ ps done (rest)).length = n2 at *
   generalize ze (zJ ps done (rest)) = x2 at *
   go_wp2_with (at_builtin; refine yf rfl (.tmp 94) (.tmp 95) 42 rfl w3.heap.size 49 i0 _ 2 16 Tryz.underlying42 hi hz0 hz1 hz2 rfl (by decide) u14 n1 x1 rfl (zA HROW) la n2 lc x2 rfl (zA HNL) (zA HL1) (zA HSR) (zA HO1) (by unfold maxLen; omega) (by omega) hs2 ?_; intro v3 w6 ho hg hat; have HK3 := zB (zA HMO v3 w6 ho hg hat); clear ho hg hat)
   have hK3 := zA HK3
   rw [zA HDD] at hK3
   have HVA6 := zB (zE (zA HVA) (fun b hb _ => hK3.kf.bel.block b hb))
   have hfl3 : (zJ ps [] text).length <= 6400000000 := Nat.le_trans (yB ps text []) (Nat.le_trans (Nat.mul_le_mul h64 (Nat.le_of_lt ht)) (by omega))
   refine (sameM_any _ _ va v3 (zJ ps [] text) w6 (zA HVA6) hK3.kf.row (by omega)).mono ?_
   rintro e w9 ⟨rfl, n9, rfl⟩
   have HBE := zB (below_drewN ((zA HB3).trans (hK3.kf.bel.mono (zA HB3).size)) n9)
   clear hK3
   go_wp2_with fail
   go_ret
   exact ⟨rfl, zA HBE⟩
end Go.Proofs.YtfpohfifdfbpkaaGreatDoor
