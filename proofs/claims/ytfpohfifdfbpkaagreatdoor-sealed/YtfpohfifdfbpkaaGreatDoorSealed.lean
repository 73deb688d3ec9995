import Derived.Test.YtfpohfifdfbpkaaGreatDoorSealW
import Derived.Test.YtfpohfifdfbpkaaGreatDoorKeep
import Derived.Test.YtfpohfifdfbpkaaGreatDoorLdG
import Derived.Test.YtfpohfifdfbpkaaGreatDoorRdM
namespace Go.Proofs.YtfpohfifdfbpkaaGreatDoor
open Go.RowKit Scour Go.Lib Crc
def IsFile (y : Str) : Prop := ∃ ps S, ym ps S /\ y = zS ps S
theorem seal_cut {ps S : List Str} (g : ym ps S) (n : Nat) (hn : n < (zS ps S).length) : ¬ IsFile ((zS ps S).take n) := by
 rintro ⟨ps', S', g', h⟩
 have t := List.take_append_drop n (zS ps S)
 rw [h] at t
 generalize (zS ps S).drop n = d at t
 have e : yS ps' S' ++ (yK (yS ps' S') ++ d) = yS ps S ++ yK (yS ps S) := by rw [← List.append_assoc]; exact t
 obtain ⟨rfl, rfl⟩ := body_inj g' g e
 have := congrArg List.length h
 rw [List.length_take] at this
 omega
theorem seal_more {ps S : List Str} (g : ym ps S) (c : UInt8) : ¬ IsFile (zS ps S ++ [c]) := by
 rintro ⟨ps', S', g', h⟩
 have e : yS ps S ++ (yK (yS ps S) ++ [c]) = yS ps' S' ++ yK (yS ps' S') := by rw [← List.append_assoc]; exact h
 obtain ⟨rfl, rfl⟩ := body_inj g g' e
 have := congrArg List.length h
 simp at this
theorem file_tok {ps S : List Str} (g : ym ps S) : TOK IsFile ⟨(zS ps S).toArray⟩ := by
 have hl := g.fileLen
 have e : (⟨(zS ps S).toArray⟩ : ByteArray).size = (zS ps S).length := rfl
 have h1 : 1 <= (zN 1).length := by
  unfold zN
  split <;> simp
 refine ⟨?_, by rw [e]; exact hl, ⟨ps, S, g, rfl⟩, fun n hn => seal_cut g n (by rw [e] at hn; exact hn), fun u => seal_more g u, fun y f hy hf hb hP => ?_⟩
 ·rw [e]
  unfold zS yS headS
  simp only [List.length_append, sumS_len, List.length_cons, List.length_nil]
  omega
 ·obtain ⟨ps', S', g', rfl⟩ := hP
  rw [e] at hy hf
  exact burst_files (yS ps' S') (yS ps S) f hy (by show f + 32 <= 8 * (zS ps' S').length; omega) (fun k _ hk => hb k hk)
theorem sealed_any (ap : Option Addr) (len cap : Nat) (ss : List ByteArray) (a b c : Int) (m : UInt8) (w : World) (hS : StrsIn w w.heap.size ap len ss) (hl : len <= ss.length) (hlen : len <= maxLen) (hsz : ∀ i, i < len -> (ss.getD i .empty).size <= maxLen)
  (ha : -9223372036854775808 <= a /\ a <= 9223372036854775807) (hb : -9223372036854775808 <= b /\ b <= 9223372036854775807) (hc : -9223372036854775808 <= c /\ c <= 9223372036854775807) (hT : ErrT w) :
  Calls Tryz.prog 7 #[.slice ap len cap, .int .i64 a, .int .i64 b, .int .i64 c, .int .u8 m.toNat] w fun e w' => e = .returned (.bool true) /\ Below w.heap.size w w' := by
 have hk : (chk (jH ss len)).1 = 0 := keepP_chk ss len
 refine sealed_walk ap len cap a b c m w (fun ap' n' _ w1 => n' = (jH ss len).length /\ yO w1 w1.heap.size ap' (jH ss len) /\ Below w.heap.size w w1)
  (fun bm T w2 => ∃ bt be g S, yV w2 bm bt be g (jH ss len) S /\ T = ⟨(zS (jH ss len) S).toArray⟩ /\ Below w.heap.size w w2) IsFile ha hb hc ?_ ?_ ?_ ?_ ?_ ?_
 ·refine zB ((keepPats_any ap len cap ss w hS hl hlen hsz).mono ?_)
  rintro e w1 ⟨ap', cap', rfl, hP, hb1⟩
  exact ⟨ap', _, cap', rfl, zB ⟨rfl, hP, hb1⟩⟩
 ·refine zB (fun ap' n' cap' w1 h => ?_)
  obtain ⟨rfl, hP, hb1⟩ := zA h
  refine (made_any ap' cap' _ w1 hP hk).mono ?_
  rintro e w2 ⟨bm, bt, be, g, S, rfl, hM, _, hb2⟩
  exact ⟨bm, _, rfl, zB ⟨bt, be, g, S, hM, rfl, hb1.trans (hb2.mono hb1.size)⟩⟩
 ·refine zB (fun bm T w2 h => ?_)
  obtain ⟨bt, be, g, S, hM, rfl, _⟩ := zA h
  exact file_tok (hM.good hk)
 ·refine zB (fun bm T w2 h => ?_)
  obtain ⟨bt, be, g, S, hM, rfl, hb2⟩ := zA h
  refine (save_ok w2 bm bt be g _ S hM hk).mono ?_
  rintro e w3 ⟨fb, fc, rfl, hO, hb3⟩
  obtain ⟨fa, fd, e1, hat⟩ := owns_at hO
  cases e1
  exact ⟨fb, fc, rfl, conv_at hat, zB (hb2.trans (hb3.mono hb2.size))⟩
 ·refine zB (fun g cp y n W hy hn hcp hc2 hbW => ?_)
  subst hn
  refine (load_any (some ⟨g, 0, none⟩) cp y W (Or.inr ⟨g, 0, rfl, hy.1, fun j hj => by rw [Nat.zero_add]; exact hy.2 j hj⟩) hcp hc2 (by omega) (hT.below hbW)).mono ?_
  rintro e W' (⟨bm, bt, be, g2, ps2, S2, rfl, hM2, hc2', hf2, _, hb4⟩ | ⟨rfl, hnf, hb4⟩)
  ·exact Or.inl ⟨bm, rfl, ⟨ps2, S2, hM2.good hc2', hf2⟩, hb4⟩
  ·exact Or.inr ⟨errL y, rfl, by rw [bne_iff_ne]; exact errL_pos y, fun ⟨ps', S', g', e'⟩ => hnf ps' S' g' e', hb4⟩
 ·refine zB (fun x n W h0 h1 h2 => (pick_any x n W h0 h1 h2).mono ?_)
  rintro e w' ⟨rfl, rfl⟩
  obtain ⟨p1, p2⟩ := pickI_lt x n h0
  exact ⟨(pickI x n).toNat, by rw [Int.toNat_of_nonneg p1], by rw [Int.toNat_of_nonneg p1]; exact p2, rfl⟩
end Go.Proofs.YtfpohfifdfbpkaaGreatDoor
