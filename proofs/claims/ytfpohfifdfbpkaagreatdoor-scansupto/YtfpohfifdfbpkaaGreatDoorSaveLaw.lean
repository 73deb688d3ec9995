import Derived.Test.YtfpohfifdfbpkaaGreatDoorPlays
import Derived.Test.YtfpohfifdfbpkaaGreatDoorFileM
namespace Go.Proofs.YtfpohfifdfbpkaaGreatDoor
open Go.RowKit Scour Go.Lib
set_option maxHeartbeats 4000000 in
set_option maxRecDepth 100000 in
theorem asked_save (hSV : SaveOK) (bw : Nat) (T : Nat -> Nat) (M : List Ent) (vms vby vli : Value) (E F : List Sl) (mb : Ext) (vl : Value) (a b : Int) (s : ByteArray) (bm bt be : Nat) (g : List Nat) (br gS cS : Nat) (vL : Value) (ps S : List Str) (w : World) (hW : LW w bw T M vms vby vli E F mb) (hM : yV w bm bt be g ps S) (hR : yZ w br vL gS cS ps S) (hc : (chk ps).1 = 0)
  (hE : E.length < 900000000000) :
  Calls Tryz.prog 52 #[.pointer (some ⟨bw, 0, none⟩), .agg #[.pointer (some ⟨bm, 0, none⟩), .pointer (some ⟨br, 0, none⟩)], .agg #[.int .i64 5, .int .i64 a, .int .i64 b, .string s, vl]] w fun e w' => e = .returned (.bool true) /\ ∃ T' vby' E', LW w' bw T' M vms vby' vli E' F mb /\ Fr T w w' T' /\ E'.length = E.length + 4 := by
 obtain ⟨h64, hlen, hch⟩ := yr hc
 have hfl : (zS ps S).length < 100000000 := fileS_len hR.len h64 (fun k b => Nat.lt_of_lt_of_le (rnext_lt hR k b) (by have := hR.len; omega))
 have HSA : Hid (∀ W, Below w.heap.size w W -> Calls Tryz.prog 15 #[.pointer (some ⟨bm, 0, none⟩)] W fun e w' => ∃ b c, e = .returned (.slice (some ⟨b, 0, none⟩) (zS ps S).length c) /\ w'.ownsRow W.heap.size 5 1 (.slice (some ⟨b, 0, none⟩) (zS ps S).length c) (zS ps S).length ((zS ps S).map zT) /\ Below W.heap.size W w') := zB (fun W hb => hSV W bm bt be g ps S (hM.below hb) hc)
 have HSR : Hid (∀ W, Below w.heap.size w W -> Calls Tryz.prog 95 #[.pointer (some ⟨br, 0, none⟩)] W fun e w' => e = .returned (.string ⟨(zS ps S).toArray⟩) /\ Below W.heap.size W w') := zB (fun W hb => save_any br gS cS vL ps S W (hR.below hb) (fun k hk => mach_short hM hc hk) h64 (fun i hi => (hlen i hi).2) (mach_pats hM hc))
 have HW := zB hW
 clear hM hR hc hW hlen hch hSV
 generalize zS ps S = fs at *
 go_enter Tryz.func52, Tryz.ntmps52
 go_wp2_with (first | (go_at_call 15; refine (zA HSA _ (zf w _ _)).mono ?_; rintro e w1 ⟨bb, cc, rfl, hO, hb1⟩; have HB1 : Hid (Below w.heap.size w w1) := zB ((zf w _ _).trans (hb1.mono (zf w _ _).size)); have c1 := hb1.cell (p := ⟨w.heap.size, 1, none⟩) (by simp only [World.alloc, Array.size_push]; omega); have hge : w.heap.size <= bb := Nat.le_trans (zf w _ _).size (yQ hO); have HO := zB (zu hO); clear hb1 hO; simp at c1) | (go_at_call 95; refine (zA HSR _ (zA HB1)).mono ?_; rintro e w2 ⟨rfl, hb2⟩; have HB2 : Hid (Below w.heap.size w w2) := zB ((zA HB1).trans (hb2.mono (zA HB1).size)); have HO2 : Hid (w2.ownsRow 0 5 1 (.slice (some ⟨bb, 0, none⟩) fs.length cc) fs.length (fs.map zT)) := zB (zE (zA HO) (fun k hk _ => hb2.block k hk)); have hcv : (convert 27 9 (.slice (some ⟨bb, 0, none⟩) fs.length cc)).run Tryz.prog w2 = .ok (.string ⟨fs.toArray⟩) w2 := conv_back (fun j hj => (by rw [Nat.zero_add, (zA HO2).cellAt j (by simpa using hj)]; simp [zT, hj, List.getD])); have HW2 := zB ((zA HW).below (zA HB2)); have HKE := zB (keeps_any bw #[vms, mb.fs, vby, vli, mb.ma] 68 vby E ⟨some ⟨bb, 0, none⟩, fs.length, cc⟩ (fs.map zT) w2 (zA HW2).blk rfl (by decide) (by decide) (zA HW2).bytes.row (zA HO2) (by omega) (by simp only []; omega)); simp only [Sl.val] at HKE; clear hb2 HO) | (go_at_call 96; refine (zA HKE).mono ?_; rintro e w3 ⟨rfl, s1, s2, s3, vby2, hK⟩; have HK := zB hK; clear hK))
 go_ret
 have hs9 : ∀ k, (Sl.val ⟨some ⟨bb, 0, none⟩, fs.length, cc⟩).ownBlock = some k -> T k = 9 /\ k < w2.heap.size := fun k hk => by
  have e : bb = k := by simpa [Sl.val, Value.ownBlock] using hk
  obtain ⟨cur, hcu⟩ := zK (zA HO2)
  rw [← e]
  exact ⟨(zA HW).fresh bb hge, (Array.getElem?_eq_some_iff.1 hcu).1⟩
 exact ⟨by simp, _, _, _, (zA HW2).keeps (zA HK) hs9 (by simp only []; omega), (zl (zA HB2)).trans ((zA HW2).keepsFr (zA HK) hs9), by simp⟩
theorem ask_save (hSV : SaveOK) : AskOK 5 := by
 intro bw T M vms vby vli E F mb o e w he hW hk hs hE hF _
 obtain ⟨bt, be, g, hM, _⟩ := (hW.ents e he).mach
 obtain ⟨vL, gS, cS, hR, _⟩ := (hW.ents e he).rmach
 have hc := (hW.ents e he).ok
 obtain ⟨k, a, b, s, ap, ts, cap⟩ := o
 simp only [] at hk
 subst hk
 refine (asked_save hSV bw T M vms vby vli E F mb _ a b s e.bm bt be g e.br gS cS vL e.ps e.S w hW hM hR hc hE).mono ?_
 rintro r w' ⟨rfl, T', vby', E', k1, k2, k3⟩
 exact ⟨rfl, T', vby', vli, E', F, mb, k1, k2, by omega, by omega, Ext.Le.refl _⟩
theorem steps_save (hSV : SaveOK) : StepOK [1, 5] := by
 intro bw T M vms vby vli E F mb o w hW hO hk hMl hE hF hX _ _
 have h4 : o.k = 1 \/ o.k = 5 := by simpa using hk
 rcases h4 with h1 | h5
 ·exact step_compile bw T M vms vby vli E F mb o w hW hO h1 hMl
 ·cases M with
  | nil => exact step_none bw T vms vby vli E F mb o w hW (by omega)
  | cons x M => exact step_asked bw T (x :: M) vms vby vli E F mb o w hW hO (by omega) (by rw [h5]; exact ask_save hSV) (by simp) hMl hE hF hX
end Go.Proofs.YtfpohfifdfbpkaaGreatDoor
