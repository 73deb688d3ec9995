import Derived.Test.YtfpohfifdfbpkaaGreatDoorLdC
import Derived.Test.YtfpohfifdfbpkaaGreatDoorReads
import Derived.Defers
import Derived.Recover
import Derived.Test.YtfpohfifdfbpkaaGreatDoorRdR
import Derived.LaidEql
import Derived.Stop.Asserts
import Derived.RowKitTokens
import Derived.Test.YtfpohfifdfbpkaaGreatDoorFlI
import Derived.Test.YtfpohfifdfbpkaaGreatDoorLawA
import Derived.Test.YtfpohfifdfbpkaaGreatDoorErrT
namespace Go.Proofs.YtfpohfifdfbpkaaGreatDoor
open Go.RowKit Scour Go.Lib
def RePost (w : World) (bc : Nat) (s : Str) (e : Ending) (w' : World) : Prop :=
 (∃ (pt : Value) (l : List Str), e = .returned (.tuple #[]) /\ l.length <= 64 /\ Hid (∀ i, i < l.length -> (pat l i).length <= 1000) /\ Hid (∃ b o cap st L A, Cts w' bc b o cap st pt L A l) /\ Hid (BK bc w w') /\ Hid (errL s = 10) /\ Hid (AtG s (fun ps _ => l = ps)))
 \/ (∃ k : Int, e = .panicked (faultP k) /\ Hid (BK bc w w') /\ Hid (k = errL s /\ NoFile s))
theorem good_left {s : Str} {ps S : List Str} (g : ym ps S) (e : s = zS ps S) : (s.take (s.length - 4)).drop 4 = zN (zL ps).length ++ (zL ps ++ (zN S.length ++ stT ps S 1)) := by
 have hl : (yK (yS ps S)).length = 4 := sumS_len _
 subst e
 unfold zS
 rw [List.length_append, hl, show (yS ps S).length + 4 - 4 = (yS ps S).length by omega, List.take_left, body_read g.len.1]
 rfl
set_option maxHeartbeats 2000000 in
set_option maxRecDepth 100000 in
theorem cread_any (bc b o cap : Nat) (ao : Option Addr) (s : Str) (w : World) (hb : w.heap[bc]? = some (.cells #[.slice ao s.length cap, .slice none 0 0, .slice none 0 0] 128 (0, 0))) (hc : 0 < s.length -> ao = some ⟨b, o, none⟩ /\ b < bc /\ ∀ j, j < s.length -> w.cell? ⟨b, o + j, none⟩ = some (.int .u8 (s.getD j 0).toNat)) (hcap : s.length <= cap) (hc2 : cap <= 9223372036854775807) (hs8 : s.length <= 9223372036854775807) :
  Calls Tryz.prog 62 #[.pointer (some ⟨bc, 0, none⟩)] w (RePost w bc s) := by
 have hlt : bc < w.heap.size := (Array.getElem?_eq_some_iff.1 hb).1
 by_cases h8 : s.length < 8
 ·have HS := zB (cends_short bc s.length cap ao _ _ w hb h8)
  have HE : Hid (6 = errL s /\ NoFile s) := zB ⟨by unfold errL; rw [if_pos h8], fun ps S g e => (good_head g e).1 h8⟩
  clear hb hc hcap
  go_enter Tryz.func62, Tryz.ntmps62
  go_wp2_with (go_at_call 102; refine (zA HS).mono ?_; rintro e w' ⟨rfl, hw'⟩; obtain rfl := hw'.symm)
  exact ⟨rfl, Or.inr ⟨6, rfl, zB (BK.refl _ _), HE⟩⟩
 ·obtain ⟨rfl, hbb, hcc⟩ := hc (by omega)
  have HS := zB (cends_any bc b o cap s w hb hcc hbb (by omega) hcap hc2 hs8)
  have HER : Hid (∀ k : Int, ((k = 7 /\ s.take 3 ≠ [83, 67, 82]) \/ (k = 8 /\ s.take 3 = [83, 67, 82] /\ s.getD 3 0 ≠ 1) \/ (k = 9 /\ s.take 3 = [83, 67, 82] /\ s.getD 3 0 = 1 /\ yK (s.take (s.length - 4)) ≠ s.drop (s.length - 4))) -> k = errL s /\ NoFile s) := zB (by
   rintro k (⟨rfl, h1⟩ | ⟨rfl, h1, h2⟩ | ⟨rfl, h1, h2, h3⟩)
   ·exact ⟨by unfold errL; rw [if_neg h8, if_pos h1], fun ps S g e => h1 (good_head g e).2.1⟩
   ·exact ⟨by unfold errL; rw [if_neg h8, if_neg (fun h => h h1), if_pos h2], fun ps S g e => h2 (good_head g e).2.2.1⟩
   ·exact ⟨by unfold errL; rw [if_neg h8, if_neg (fun h => h h1), if_neg (fun h => h h2), if_pos h3], fun ps S g e => h3 (good_head g e).2.2.2⟩)
  have HOK : Hid ((s.take 3 = [83, 67, 82] /\ s.getD 3 0 = 1 /\ yK (s.take (s.length - 4)) = s.drop (s.length - 4)) -> errL s = 10) := zB (by
   rintro ⟨h1, h2, h3⟩
   unfold errL; rw [if_neg h8, if_neg (fun h => h h1), if_neg (fun h => h h2), if_neg (fun h => h h3)])
  clear hb hc hcap hcc
  go_enter Tryz.func62, Tryz.ntmps62
  go_wp2_with fail
  refine (zA HS).mono ?_
  rintro e w1 (⟨o1, cap1, rfl, C1, B1, K1⟩ | ⟨k, rfl, B1, K1⟩)
  ·have HE10 := zB (zA HOK (zA K1))
   have H2 := zB (cskip_any _ _ _ _ _ _ _ _ _ w1 (zA C1))
   go_wp2_with fail
   refine (zA H2).mono ?_
   rintro e w2 (⟨L2, o2, cap2, rfl, C2, B2, G2⟩ | ⟨rfl, B2, G2⟩)
   ·have H3 := zB (cstates_any _ _ _ _ _ _ _ w2 (zA C2))
    go_wp2_with fail
    refine (zA H3).mono ?_
    rintro e w3 (⟨L3, o3, cap3, st, A, rfl, hA0, hA6, HAL, C3, B3, G3⟩ | ⟨rfl, B3, G3⟩)
    ·have H4 := zB (cpats_any _ _ _ _ _ _ _ w3 (zA C3) hA0 hA6 (zA HAL))
     go_wp2_with fail
     refine (zA H4).mono ?_
     rintro e w4 (⟨L4, o4, cap4, pt, l, rfl, hl, HE, C4, B4, G4⟩ | ⟨rfl, B4, G4⟩)
     ·go_wp2_with fail
      go_end0
      refine Or.inl ⟨pt, l, rfl, hl, HE, zB ⟨_, _, _, _, _, _, zA C4⟩, zB ((zA B1).trans ((zA B2).trans ((zA B3).trans (zA B4)))), HE10, zB (fun ps S g e => ?_)⟩
      obtain ⟨a1, a2⟩ := zA G3 ps S g (zA G2 (zL ps) _ g.small.2 (good_left g e))
      exact zA G4 ps S g a1 a2
     ·go_wp2_with fail
      refine ⟨rfl, Or.inr ⟨10, rfl, zB ((zA B1).trans ((zA B2).trans ((zA B3).trans (zA B4)))), zB ⟨(zA HE10).symm, fun ps S g e => ?_⟩⟩⟩
      obtain ⟨a1, a2⟩ := zA G3 ps S g (zA G2 (zL ps) _ g.small.2 (good_left g e))
      exact zA G4 ps S g a1 a2
    ·go_wp2_with fail
     exact ⟨rfl, Or.inr ⟨10, rfl, zB ((zA B1).trans ((zA B2).trans (zA B3))), zB ⟨(zA HE10).symm, fun ps S g e => zA G3 ps S g (zA G2 (zL ps) _ g.small.2 (good_left g e))⟩⟩⟩
   ·go_wp2_with fail
    exact ⟨rfl, Or.inr ⟨10, rfl, zB ((zA B1).trans (zA B2)), zB ⟨(zA HE10).symm, fun ps S g e => zA G2 (zL ps) _ g.small.2 (good_left g e)⟩⟩⟩
  ·go_wp2_with fail
   exact ⟨rfl, Or.inr ⟨k, rfl, B1, zB (zA HER k (zA K1))⟩⟩
theorem catch_idle (p : Addr) (w : World) :
  CallsD Tryz.prog 101 #[.pointer (some p)] .returning w fun e u' w' => e = .returned (.tuple #[]) /\ u' = .returning /\ w' = w := by
 refine callsD_of_wpS Tryz.func101 rfl fun c₀ cs hu => ?_
 apply wpS_seq
 apply wpS_region
 simp [wpOpsS, go_sem, recoverD, hu, Tryz.ntmps101, Exit.thenS]
 refine wpS_of_wp ?_
 go_wp2
 cases c₀
 simp_all [bodyPostS, results, Tryz.results101]
theorem assertFault (a : Value) (t : TypeId) (w : World) : (Instr.typeAssert (.iface 85 (.agg #[a])) t 85 true).run Tryz.prog w = .ok (.tuple #[.agg #[a], .bool true]) w := by kernel_rfl
set_option maxHeartbeats 2000000 in
set_option maxRecDepth 100000 in
theorem catch_fault (pb : Nat) (k : Int) (old : Value) (w : World) (hc : w.cell? ⟨pb, 0, none⟩ = some old) (hz : w.frozen? ⟨pb, 0, none⟩ = false) (hpb : pb < w.heap.size) :
  CallsD Tryz.prog 101 #[.pointer (some ⟨pb, 0, none⟩)] (.panicking (faultP k)) w fun e u' w' =>
   e = .returned (.tuple #[]) /\ u' = .panicking [{ v := .iface 85 (.agg #[.int .i64 k]), recovered := true }] /\ w' = (w.setCell ⟨pb, 0, none⟩ (.iface 85 (.agg #[.int .i64 k]))).alloc (.cells #[.int .i64 k] 85) := by
 have hta := assertFault
 refine callsD_of_wpS Tryz.func101 rfl fun c₀ cs hu => ?_
 apply wpS_seq
 apply wpS_region
 simp [wpOpsS, go_sem, recoverD, hu, faultP, Tryz.ntmps101, Exit.thenS]
 refine wpS_of_wp ?_
 go_wp2
 simp [bodyPostS, results, Tryz.results101]
def CaPost (w : World) (bc : Nat) (s : Str) (e : Ending) (w' : World) : Prop :=
 (∃ (pt : Value) (l : List Str), e = .returned .nilIface /\ l.length <= 64 /\ Hid (∀ i, i < l.length -> (pat l i).length <= 1000) /\ Hid (∃ b o cap st L A, Cts w' bc b o cap st pt L A l) /\ Hid (Below bc w w') /\ Hid (errL s = 10) /\ Hid (AtG s (fun ps _ => l = ps)))
 \/ (e = .returned (.iface 85 (.agg #[.int .i64 (errL s)])) /\ Hid (Below bc w w') /\ Hid (NoFile s))
set_option maxHeartbeats 2000000 in
set_option maxRecDepth 100000 in
theorem caught_any (bc b o cap : Nat) (ao : Option Addr) (s : Str) (w : World) (hb : w.heap[bc]? = some (.cells #[.slice ao s.length cap, .slice none 0 0, .slice none 0 0] 128 (0, 0))) (hc : 0 < s.length -> ao = some ⟨b, o, none⟩ /\ b < bc /\ ∀ j, j < s.length -> w.cell? ⟨b, o + j, none⟩ = some (.int .u8 (s.getD j 0).toNat)) (hcap : s.length <= cap) (hc2 : cap <= 9223372036854775807) (hs8 : s.length <= 9223372036854775807) :
  Calls Tryz.prog 61 #[.func (.func 62) #[.pointer (some ⟨bc, 0, none⟩)] #[]] w (CaPost w bc s) := by
 have hlt : bc < w.heap.size := (Array.getElem?_eq_some_iff.1 hb).1
 have hbW : Below w.heap.size w (w.alloc (.cells #[.nilIface] 81)) := (Below.refl _ _).alloc (Nat.le_refl _) _
 have HRE := zB (cread_any bc b o cap ao s (w.alloc (.cells #[.nilIface] 81)) ((hbW.block bc hlt).trans hb) (fun h0 => by
  obtain ⟨h1, h2, h3⟩ := hc h0
  exact ⟨h1, h2, fun j hj => (hbW.cell (p := ⟨b, o + j, none⟩) (by show b < w.heap.size; omega)).trans (h3 j hj)⟩) hcap hc2 hs8)
 have hmf : ∀ (fn : Fn) (first cap : Array Value) (w : World), (Instr.makeFunc fn first cap).run Tryz.prog w = .ok (.func fn first cap) w := fun _ _ _ _ => rfl
 clear hb hc
 have he0 : (w.alloc (.cells #[.nilIface] 81)).heap[w.heap.size]? = some (.cells #[.nilIface] 81 (0, 0)) := heap_alloc_new w _
 go_enter_defers Tryz.func61, Tryz.ntmps61
 go_wp2_with fail
 refine (zA HRE).mono ?_
 rintro e w1 (⟨pt, l, rfl, hl, HE, HC, HB, H10, HG⟩ | ⟨k, rfl, HB, HK⟩)
 ·have he1 := ((zA HB).ke _ _ _ he0).trans he0
  have z0 : w1.cell? ⟨w.heap.size, 0, none⟩ = some .nilIface := by rw [zC he1]; rfl
  have z1 : w1.frozen? ⟨w.heap.size, 0, none⟩ = false := frozen_of_row _ _ _ _ _ he1
  have z2 : (w1.setCell ⟨w.heap.size, 0, none⟩ .nilIface).cell? ⟨w.heap.size, 0, none⟩ = some .nilIface := by
   have := heap_setCell_same w1 w.heap.size 0 _ _ .nilIface he1
   rw [zC this]; rfl
  have hm : Mod (fun k => k = w.heap.size) w1 (w1.setCell ⟨w.heap.size, 0, none⟩ .nilIface) := Mod.setCell w1 w.heap.size 0 _
  have hb2 : Below bc w (w1.setCell ⟨w.heap.size, 0, none⟩ .nilIface) := ((hbW.mono (Nat.le_of_lt hlt)).trans (zA HB).bel).trans (hm.below (Nat.le_trans (Nat.le_of_lt hlt) (Nat.le_trans hbW.size (zA HB).bel.size)) (fun k e => by omega))
  have HC2 : Hid (∃ b o cap st L A, Cts (w1.setCell ⟨w.heap.size, 0, none⟩ .nilIface) bc b o cap st pt L A l) := zB (by
   obtain ⟨b, o, cap, st, L, A, h⟩ := zA HC
   have hbl := h.lt
   have hlw := h.low
   have hk5 : yT w1 (w1.setCell ⟨w.heap.size, 0, none⟩ .nilIface) := fun k cur fr hk => hm.out k (Array.getElem?_eq_some_iff.1 hk).1 (fun e => by
    subst e
    rw [he1] at hk; cases hk)
   obtain ⟨xs, hxs, _⟩ := h.sts.ex
   obtain ⟨ys, hys, _⟩ := h.pts.ex
   refine ⟨b, o, cap, st, L, A, h.rdr.keep (hm.out bc hbl (by omega)) (hm.out b (by omega) (by omega)), h.sts.same hk5 (fun k hk hv => hm.out k hk (fun e => ?_)), h.pts.same hk5 (fun k hk hv => hm.out k hk (fun e => ?_)), h.ne, h.low⟩
   ·obtain ⟨cu, hcu⟩ := zD hxs hv
    subst e
    rw [he1] at hcu; cases hcu
   ·obtain ⟨cu, hcu⟩ := zD hys hv
    subst e
    rw [he1] at hcu; cases hcu)
  have HB2 : Hid (Below bc w (w1.setCell ⟨w.heap.size, 0, none⟩ .nilIface)) := zB hb2
  clear hb2 hm HB HC
  go_wp2_with fail
  refine leaves_cons (f := 101) (args := #[.pointer (some ⟨w.heap.size, 0, none⟩)]) (by simp) (by simp [go_sem]) ?_
  refine (catch_idle ⟨w.heap.size, 0, none⟩ _).mono ?_
  rintro e u' w'' ⟨rfl, rfl, rfl⟩
  simp [Leaves, settle, results, Tryz.results61, go_sem, z2]
  exact Or.inl ⟨pt, l, rfl, hl, HE, HC2, HB2, H10, HG⟩
 ·have he1 := ((zA HB).ke _ _ _ he0).trans he0
  have z0 : w1.cell? ⟨w.heap.size, 0, none⟩ = some .nilIface := by rw [zC he1]; rfl
  have z1 : w1.frozen? ⟨w.heap.size, 0, none⟩ = false := frozen_of_row _ _ _ _ _ he1
  have hl1 : w.heap.size < w1.heap.size := (Array.getElem?_eq_some_iff.1 he1).1
  have hb2 : Below bc w ((w1.setCell ⟨w.heap.size, 0, none⟩ (.iface 85 (.agg #[.int .i64 k]))).alloc (.cells #[.int .i64 k] 85)) := (((hbW.mono (Nat.le_of_lt hlt)).trans (zA HB).bel).trans ((Mod.setCell w1 w.heap.size 0 _).below (by omega) (fun k e => by omega))).alloc (by simp [World.setCell]; omega) _
  have HB2 := zB hb2
  have z3 : ((w1.setCell ⟨w.heap.size, 0, none⟩ (.iface 85 (.agg #[.int .i64 k]))).alloc (.cells #[.int .i64 k] 85)).cell? ⟨w.heap.size, 0, none⟩ = some (.iface 85 (.agg #[.int .i64 k])) := by
   have h1 := heap_setCell_same w1 w.heap.size 0 _ _ (.iface 85 (.agg #[.int .i64 k])) he1
   have h2 := (heap_alloc_old (w1.setCell ⟨w.heap.size, 0, none⟩ (.iface 85 (.agg #[.int .i64 k]))) (.cells #[.int .i64 k] 85) (by simp [World.setCell]; omega)).trans h1
   rw [zC h2]; rfl
  clear hb2
  go_wp2_with fail
  refine leaves_cons (f := 101) (args := #[.pointer (some ⟨w.heap.size, 0, none⟩)]) (by simp) (by simp [go_sem]) ?_
  refine (catch_fault w.heap.size k _ _ z0 z1 hl1).mono ?_
  rintro e u' w'' ⟨rfl, rfl, rfl⟩
  simp [Leaves, settle, results, Tryz.results61, go_sem, z3]
  obtain ⟨e1, e2⟩ := zA HK
  exact Or.inr ⟨by rw [e1], HB2, zB e2⟩
end Go.Proofs.YtfpohfifdfbpkaaGreatDoor
namespace Go.Proofs.YtfpohfifdfbpkaaGreatDoor
open Go.RowKit Go.Extern.Stop Go.Stop Go.Extern
theorem as_nil (t : Value) (w : World) :
  Calls Tryz.prog 36 #[.nilIface, t] w fun e w' => e = .returned (.bool false) /\ w' = w := by
 go_enter Tryz.func36, Tryz.ntmps36
 go_wp2
 go_ret
 exact ⟨rfl, rfl⟩
theorem asValP (t : Addr) (w : World) : (ReflectliteValue.unpack (.iface 87 (.pointer (some t)))).run Tryz.prog w
 = .ok (.agg #[.pointer (some ⟨2, 87, none⟩), .pointer (some ⟨w.heap.size, 0, none⟩), .int .u64 150]) (w.alloc (.cells #[.pointer (some t)] 87)) := by kernel_rfl
theorem asTypeP (a : Addr) (w : World) : (ReflectliteValue.methodAny (ReflectliteValue.valueError "reflectlite.Value.Type" 0) (fun t _ _ _ => ReflectliteType.toType t) #[.agg #[.pointer (some ⟨2, 87, none⟩), .pointer (some a), .int .u64 150]]).run Tryz.prog w
 = .ok (.iface 193 (.agg #[.pointer (some ⟨2, 87, none⟩)])) w := by kernel_rfl
theorem asKindM (h : Value) (w : World) (f : Nat) : (Go.method (f + 3) 193 (.agg #[h]) "Kind").run Tryz.prog w = .ok (199, h) w := by kernel_rfl
theorem asKindP (w : World) : ((ReflectliteType.abiMethod fun t => (fun a : Nat => Value.int IntKind.u8 (a : Int)) <$> Rtype.kind t) #[.pointer (some ⟨2, 87, none⟩)]).run Tryz.prog w = .ok (.int .u8 22) w := by kernel_rfl
theorem asKindF (w : World) : ((ReflectliteType.abiMethod fun t => (fun a : Nat => Value.int IntKind.u8 (a : Int)) <$> Rtype.kind t) #[.pointer (some ⟨2, 85, none⟩)]).run Tryz.prog w = .ok (.int .u8 25) w := by kernel_rfl
theorem asRlm (z : Sem Value) (f : TypeId -> Addr -> Nat -> Nat -> Sem Value) (v : Value) :
 ReflectliteValue.method z f #[v] = (do match ← ReflectliteValue.parts v with | none => z | some (t, a, fl) => f t a fl (fl % 32)) := rfl
theorem asPartsP (a : Addr) (w : World) : (ReflectliteValue.parts (.agg #[.pointer (some ⟨2, 87, none⟩), .pointer (some a), .int .u64 150])).run Tryz.prog w = .ok (some (87, a, 150)) w := by kernel_rfl
theorem asNilP (a p : Addr) (W : World) (ha : W.cell? a = some (.pointer (some p))) :
  (ReflectliteValue.method (ReflectliteValue.valueError "reflectlite.Value.IsNil" 0) ReflectliteValue.isNil #[.agg #[.pointer (some ⟨2, 87, none⟩), .pointer (some a), .int .u64 150]]).run Tryz.prog W = .ok (.bool false) W := by
 rw [asRlm]
 simp only [Sem.run_bind, asPartsP, Result.andThen]
 simp [ReflectliteValue.isNil, loadVar, isAgg, underlying, Tryz.underlying87, ha, Result.andThen]
theorem asElemM (h : Value) (w : World) (f : Nat) : (Go.method (f + 3) 193 (.agg #[h]) "Elem").run Tryz.prog w = .ok (215, .agg #[h]) w := by kernel_rfl
theorem asImplM (h : Value) (w : World) (f : Nat) : (Go.method (f + 3) 193 (.agg #[h]) "Implements").run Tryz.prog w = .ok (216, .agg #[h]) w := by kernel_rfl
theorem asAssM (h : Value) (w : World) (f : Nat) : (Go.method (f + 3) 193 (.agg #[h]) "AssignableTo").run Tryz.prog w = .ok (213, .agg #[h]) w := by kernel_rfl
theorem asElemP (w : World) : (ReflectliteType.method ReflectliteType.elem #[.agg #[.pointer (some ⟨2, 87, none⟩)]]).run Tryz.prog w = .ok (.iface 193 (.agg #[.pointer (some ⟨2, 85, none⟩)])) w := by kernel_rfl
theorem asImplF (w : World) : (ReflectliteType.relation "Implements" ReflectliteType.implements_ #[.agg #[.pointer (some ⟨2, 85, none⟩)], .iface 193 (.agg #[.pointer (some ⟨2, 81, none⟩)])]).run Tryz.prog w = .ok (.bool true) w := by kernel_rfl
theorem asTypeF (v : Value) (w : World) : (ReflectliteType.typeOf #[.iface 85 v]).run Tryz.prog w = .ok (.iface 193 (.agg #[.pointer (some ⟨2, 85, none⟩)])) w := by kernel_rfl
theorem asAssF (w : World) : (ReflectliteType.relation "AssignableTo" ReflectliteType.assignableTo #[.agg #[.pointer (some ⟨2, 85, none⟩)], .iface 193 (.agg #[.pointer (some ⟨2, 85, none⟩)])]).run Tryz.prog w = .ok (.bool true) w := by kernel_rfl
theorem asValF (x : Value) (w : World) : (ReflectliteValue.unpack (.iface 85 (.agg #[x]))).run Tryz.prog w
 = .ok (.agg #[.pointer (some ⟨2, 85, none⟩), .pointer (some ⟨w.heap.size, 0, none⟩), .int .u64 153]) (w.alloc (.cells #[x] 85)) := by kernel_rfl
theorem asElemOf (w : World) : (Rtype.elem? 87).run Tryz.prog w = .ok (some 85) w := by kernel_rfl
theorem asMkF (p : Addr) (w : World) : (ReflectliteValue.mk 85 p ReflectliteValue.flagAddr).run Tryz.prog w = .ok (.agg #[.pointer (some ⟨2, 85, none⟩), .pointer (some p), .int .u64 409]) w := by kernel_rfl
theorem asElemV (a p : Addr) (W : World) (ha : W.cell? a = some (.pointer (some p))) :
  (ReflectliteValue.method (ReflectliteValue.valueError "reflectlite.Value.Elem" 0) ReflectliteValue.elem #[.agg #[.pointer (some ⟨2, 87, none⟩), .pointer (some a), .int .u64 150]]).run Tryz.prog W
   = .ok (.agg #[.pointer (some ⟨2, 85, none⟩), .pointer (some p), .int .u64 409]) W := by
 rw [asRlm]
 simp only [Sem.run_bind, asPartsP, Result.andThen]
 simp [ReflectliteValue.elem, loadVar, isAgg, underlying, Tryz.underlying87, ha, Result.andThen, asElemOf, asMkF]
theorem asRls (v x : Value) : ReflectliteValue.set #[v, x] = (do
 let (some (dst, a, fl), some (src, b, _)) := (← ReflectliteValue.parts v, ← ReflectliteValue.parts x)
  | unsupported (.noEntry "extern/(internal/reflectlite.Value).Set.zeroValue")
 if fl / ReflectliteValue.flagAddr % 2 == 0 then unsupported (.noEntry "extern/(internal/reflectlite.Value).Set.unaddressable")
 let val ← loadVar src b
 if ← Rtype.directlyAssignable dst src then storeVar dst a val
 else if ← Rtype.implements dst src then
  if (← Rtype.kind src) == 20 then
   match val with
   | .nilIface => unsupported (.noEntry "extern/reflectlite: a nil value of one interface type handed on as a value of another")
   | _ => storeVar dst a val
  else storeVar dst a (.iface src val)
 else panicString ("reflectlite.Set: value of type " ++ (← Rtype.spelt src) ++ " is not assignable to type " ++ (← Rtype.spelt dst))
 pure (.tuple #[])) := rfl
theorem asPartsFa (a : Addr) (w : World) : (ReflectliteValue.parts (.agg #[.pointer (some ⟨2, 85, none⟩), .pointer (some a), .int .u64 409])).run Tryz.prog w = .ok (some (85, a, 409)) w := by kernel_rfl
theorem asPartsF (a : Addr) (w : World) : (ReflectliteValue.parts (.agg #[.pointer (some ⟨2, 85, none⟩), .pointer (some a), .int .u64 153])).run Tryz.prog w = .ok (some (85, a, 153)) w := by kernel_rfl
theorem asDirF (w : World) : (Rtype.directlyAssignable 85 85).run Tryz.prog w = .ok true w := by kernel_rfl
theorem asSizeF (w : World) : (sizeOf 85).run Tryz.prog w = .ok 1 w := by kernel_rfl
theorem asAggF (w : World) : (isAgg 85).run Tryz.prog w = .ok true w := by kernel_rfl
theorem asSetF (tb bb : Nat) (k : Int) (old : Value) (W : World) (hb : W.cell? ⟨bb, 0, none⟩ = some (.int .i64 k)) (ht : W.cell? ⟨tb, 0, none⟩ = some old) (hf : W.frozen? ⟨tb, 0, none⟩ = false) :
  (ReflectliteValue.set #[.agg #[.pointer (some ⟨2, 85, none⟩), .pointer (some ⟨tb, 0, none⟩), .int .u64 409], .agg #[.pointer (some ⟨2, 85, none⟩), .pointer (some ⟨bb, 0, none⟩), .int .u64 153]]).run Tryz.prog W
   = .ok (.tuple #[]) (W.setCell ⟨tb, 0, none⟩ (.int .i64 k)) := by
 rw [asRls]
 simp only [Sem.run_bind, asPartsFa, asPartsF, Result.andThen]
 simp [ReflectliteValue.flagAddr, loadVar, loadCells, loadCellsFrom, hb, Result.andThen, asDirF, storeVar, Value.cells, storeCells, Addr.add]
 rw [run_store Tryz.prog W ⟨tb, 0, none⟩ _ _ (by rfl)]
 simp [ht, hf]
set_option maxHeartbeats 4000000 in
set_option maxRecDepth 100000 in
theorem as_hit (tb : Nat) (k : Int) (old : Value) (w : World) (hg : w.cell? ⟨0, 0, none⟩ = some (.iface 193 (.agg #[.pointer (some ⟨2, 81, none⟩)]))) (ht0 : w.cell? ⟨tb, 0, none⟩ = some old) (hf0 : w.frozen? ⟨tb, 0, none⟩ = false) :
  Calls Tryz.prog 36 #[.iface 85 (.agg #[.int .i64 k]), .iface 87 (.pointer (some ⟨tb, 0, none⟩))] w fun ev w' => ev = .returned (.bool true) /\ ∃ W, Hid (Below w.heap.size w W) /\ w' = W.setCell ⟨tb, 0, none⟩ (.int .i64 k) := by
 have h6 := @run_callFunc_extern Tryz.prog 63 _ (fun args => ReflectliteValue.unpack (args.getD 0 (.tuple #[]))) Tryz.func63 (by kernel_rfl) (by kernel_rfl) (by kernel_rfl) (by kernel_rfl)
 have h7 := @run_callFunc_extern Tryz.prog 64 _ (ReflectliteValue.methodAny (ReflectliteValue.valueError "reflectlite.Value.Type" 0) (fun t _ _ _ => ReflectliteType.toType t)) Tryz.func64 (by kernel_rfl) (by kernel_rfl) (by kernel_rfl) (by kernel_rfl)
 have h8 := @run_callFunc_extern Tryz.prog 65 _ (ReflectliteValue.method (ReflectliteValue.valueError "reflectlite.Value.IsNil" 0) ReflectliteValue.isNil) Tryz.func65 (by kernel_rfl) (by kernel_rfl) (by kernel_rfl) (by kernel_rfl)
 have h27 := @run_callFunc_extern Tryz.prog 199 _ (ReflectliteType.abiMethod fun t => do pure (.int .u8 (← Rtype.kind t))) Tryz.func199 (by kernel_rfl) (by kernel_rfl) (by kernel_rfl) (by kernel_rfl)
 have h37 := @run_callFunc_extern Tryz.prog 215 _ (ReflectliteType.method ReflectliteType.elem) Tryz.func215 (by kernel_rfl) (by kernel_rfl) (by kernel_rfl) (by kernel_rfl)
 have h38 := @run_callFunc_extern Tryz.prog 216 _ (ReflectliteType.relation "Implements" ReflectliteType.implements_) Tryz.func216 (by kernel_rfl) (by kernel_rfl) (by kernel_rfl) (by kernel_rfl)
 have h10 := @run_callFunc_extern Tryz.prog 106 _ ReflectliteType.typeOf Tryz.func106 (by kernel_rfl) (by kernel_rfl) (by kernel_rfl) (by kernel_rfl)
 have h35 := @run_callFunc_extern Tryz.prog 213 _ (ReflectliteType.relation "AssignableTo" ReflectliteType.assignableTo) Tryz.func213 (by kernel_rfl) (by kernel_rfl) (by kernel_rfl) (by kernel_rfl)
 have h11 := @run_callFunc_extern Tryz.prog 107 _ (ReflectliteValue.method (ReflectliteValue.valueError "reflectlite.Value.Elem" 0) ReflectliteValue.elem) Tryz.func107 (by kernel_rfl) (by kernel_rfl) (by kernel_rfl) (by kernel_rfl)
 have h12 := @run_callFunc_extern Tryz.prog 108 _ ReflectliteValue.set Tryz.func108 (by kernel_rfl) (by kernel_rfl) (by kernel_rfl) (by kernel_rfl)
 have tO := asTypeF
 have mA := asAssM
 have a25 := asAssF
 have v25 := asValF
 have f6 := asValP
 have f7 := asTypeP
 have mK := asKindM
 have mE := asElemM
 have mI := asImplM
 have k27 := asKindP
 have k25 := asKindF
 have e27 := asElemP
 have i25 := asImplF
 obtain ⟨W1, hW1⟩ : ∃ W, W = (w.alloc (.cells #[.pointer (some ⟨tb, 0, none⟩)] 87)).alloc (.cells #[.pointer (some ⟨2, 87, none⟩), .pointer (some ⟨w.heap.size, 0, none⟩), .int .u64 150] 133) := ⟨_, rfl⟩
 have n8 := asNilP ⟨w.heap.size, 0, none⟩ ⟨tb, 0, none⟩ ((w.alloc (.cells #[.pointer (some ⟨tb, 0, none⟩)] 87)).alloc (.cells #[.pointer (some ⟨2, 87, none⟩), .pointer (some ⟨w.heap.size, 0, none⟩), .int .u64 150] 133)) (by simp)
 have hlt : 0 < w.heap.size := by
  rcases Nat.eq_zero_or_pos w.heap.size with h0 | h
  ·simp [World.cell?, h0] at hg
  ·exact h
 have hg2 : ((w.alloc (.cells #[.pointer (some ⟨tb, 0, none⟩)] 87)).alloc (.cells #[.pointer (some ⟨2, 87, none⟩), .pointer (some ⟨w.heap.size, 0, none⟩), .int .u64 150] 133)).cell? ⟨0, 0, none⟩ = some (.iface 193 (.agg #[.pointer (some ⟨2, 81, none⟩)])) := by
  rw [World.cell?_alloc_lt _ _ ⟨0, 0, none⟩ (by simp), World.cell?_alloc_lt _ _ ⟨0, 0, none⟩ hlt]; exact hg
 have htl : tb < w.heap.size := by
  rcases Nat.lt_or_ge tb w.heap.size with h | h
  ·exact h
  ·simp [World.cell?, Array.getElem?_eq_none h] at ht0
 have el := asElemV ⟨w.heap.size, 0, none⟩ ⟨tb, 0, none⟩ (((w.alloc (.cells #[.pointer (some ⟨tb, 0, none⟩)] 87)).alloc (.cells #[.pointer (some ⟨2, 87, none⟩), .pointer (some ⟨w.heap.size, 0, none⟩), .int .u64 150] 133)).alloc (.cells #[.pointer (some ⟨2, 87, none⟩), .pointer (some ⟨w.heap.size, 0, none⟩), .int .u64 150] 133)) (by rw [World.cell?_alloc_lt _ _ ⟨w.heap.size, 0, none⟩ (by simp; omega)]; simp)
 have st := asSetF tb (w.heap.size + 1 + 1 + 1) k old ((((w.alloc (.cells #[.pointer (some ⟨tb, 0, none⟩)] 87)).alloc (.cells #[.pointer (some ⟨2, 87, none⟩), .pointer (some ⟨w.heap.size, 0, none⟩), .int .u64 150] 133)).alloc (.cells #[.pointer (some ⟨2, 87, none⟩), .pointer (some ⟨w.heap.size, 0, none⟩), .int .u64 150] 133)).alloc (.cells #[.int .i64 k] 85))
  (by rw [World.cell?_alloc_at _ _ _ _ (by simp)]; rfl)
  (by rw [World.cell?_alloc_lt _ _ ⟨tb, 0, none⟩ (by simp; omega), World.cell?_alloc_lt _ _ ⟨tb, 0, none⟩ (by simp; omega), World.cell?_alloc_lt _ _ ⟨tb, 0, none⟩ (by simp; omega), World.cell?_alloc_lt _ _ ⟨tb, 0, none⟩ htl]; exact ht0)
  (by rw [World.frozen?_alloc_old _ _ ⟨tb, 0, none⟩ (by simp; omega), World.frozen?_alloc_old _ _ ⟨tb, 0, none⟩ (by simp; omega), World.frozen?_alloc_old _ _ ⟨tb, 0, none⟩ (by simp; omega), World.frozen?_alloc_old _ _ ⟨tb, 0, none⟩ (Nat.ne_of_lt htl)]; exact hf0)
 clear hW1
 go_enter Tryz.func36, Tryz.ntmps36
 go_wp2
 refine wp_loop_rounds 1 ?_
 rw [rounds_succ]
 go_wp2
 go_ret
 exact ⟨rfl, _, zB ((((((Below.refl w.heap.size w).alloc (Nat.le_refl _) _).alloc (by simp) _).alloc (by simp; omega) _).alloc (by simp; omega) _)), rfl⟩
end Go.Proofs.YtfpohfifdfbpkaaGreatDoor
namespace Go.Proofs.YtfpohfifdfbpkaaGreatDoor
open Go.RowKit Scour Go.Lib
def FrPost (w : World) (s : Str) (e : Ending) (w' : World) : Prop :=
 (∃ (pt : Value) (l : List Str), e = .returned (.tuple #[pt, .nilIface]) /\ l.length <= 64 /\ Hid (∀ i, i < l.length -> (pat l i).length <= 1000) /\ Hid (∃ base, yx w' base pt l) /\ Hid (Below w.heap.size w w') /\ Hid (errL s = 10) /\ Hid (AtG s (fun ps _ => l = ps)))
 \/ (e = .returned (.tuple #[.slice none 0 0, .iface 85 (.agg #[.int .i64 (errL s)])]) /\ Hid (Below w.heap.size w w') /\ Hid (NoFile s))
set_option maxHeartbeats 2000000 in
set_option maxRecDepth 100000 in
theorem fread_any (ao : Option Addr) (cap : Nat) (s : Str) (w : World) (hB : zh w ao cap s) (hcap : s.length <= cap) (hc2 : cap <= 9223372036854775807) (hs8 : s.length <= 9223372036854775807) :
  Calls Tryz.prog 35 #[.slice ao s.length cap] w (FrPost w s) := by
 have hbW : Below w.heap.size w (w.alloc (.cells #[.slice ao s.length cap, .slice none 0 0, .slice none 0 0] 128)) := (Below.refl _ _).alloc (Nat.le_refl _) _
 have hbk : (w.alloc (.cells #[.slice ao s.length cap, .slice none 0 0, .slice none 0 0] 128)).heap[w.heap.size]? = some (.cells #[.slice ao s.length cap, .slice none 0 0, .slice none 0 0] 128 (0, 0)) := heap_alloc_new w _
 obtain ⟨b, o, hc⟩ : ∃ b o, 0 < s.length -> ao = some ⟨b, o, none⟩ /\ b < w.heap.size /\ ∀ j, j < s.length -> w.cell? ⟨b, o + j, none⟩ = some (.int .u8 (s.getD j 0).toNat) := by
  rcases hB with ⟨rfl, _⟩ | ⟨b, o, e, hl, hc⟩
  ·exact ⟨0, 0, fun h => by simp at h⟩
  ·exact ⟨b, o, fun _ => ⟨e, hl, hc⟩⟩
 have HCA := zB (caught_any w.heap.size b o cap ao s _ hbk (fun h0 => by
  obtain ⟨h1, h2, h3⟩ := hc h0
  exact ⟨h1, h2, fun j hj => (hbW.cell (p := ⟨b, o + j, none⟩) h2).trans (h3 j hj)⟩) hcap hc2 hs8)
 have hmf : ∀ (fn : Fn) (first cap : Array Value) (w : World), (Instr.makeFunc fn first cap).run Tryz.prog w = .ok (.func fn first cap) w := fun _ _ _ _ => rfl
 have HBW := zB hbW
 clear hc hbk hB hbW
 go_enter Tryz.func35, Tryz.ntmps35
 go_wp2_with fail
 refine (zA HCA).mono ?_
 rintro e w1 (⟨pt, l, rfl, hl, HE, HC, HB, H10, HG⟩ | ⟨rfl, HB, HN⟩)
 ·obtain ⟨b', o', cap', st, L, A, hC⟩ := zA HC
  have c2 : w1.cell? ⟨w.heap.size, 2, none⟩ = some pt := by rw [zC hC.rdr.blk]; rfl
  have HK := zB hC.pts
  clear hC
  go_wp2_with fail
  go_ret2
  exact Or.inl ⟨pt, l, rfl, hl, HE, zB ⟨_, zA HK⟩, zB ((zA HBW).trans (zA HB)), H10, HG⟩
 ·go_wp2_with fail
  go_ret2
  exact Or.inr ⟨rfl, zB ((zA HBW).trans (zA HB)), HN⟩
end Go.Proofs.YtfpohfifdfbpkaaGreatDoor
namespace Go.Proofs.YtfpohfifdfbpkaaGreatDoor
open Go.RowKit Scour Go.Lib
def LoPost (w : World) (s : Str) (e : Ending) (w' : World) : Prop :=
 (∃ (bm bt be : Nat) (g : List Nat) (ps S : List Str), e = .returned (.tuple #[.pointer (some ⟨bm, 0, none⟩), .int .i64 0]) /\ yV w' bm bt be g ps S /\ (chk ps).1 = 0 /\ s = zS ps S /\ (w.heap.size <= bm /\ w.heap.size <= bt /\ w.heap.size <= be /\ ∀ k, k ∈ g -> w.heap.size <= k) /\ Below w.heap.size w w')
 \/ (e = .returned (.tuple #[.pointer none, .int .i64 (errL s)]) /\ NoFile s /\ Below w.heap.size w w')
set_option maxHeartbeats 4000000 in
set_option maxRecDepth 100000 in
theorem load_any (ao : Option Addr) (cap : Nat) (s : Str) (w : World) (hB : zh w ao cap s) (hcap : s.length <= cap) (hc2 : cap <= 9223372036854775807) (hs8 : s.length <= 9223372036854775807) (hT : ErrT w) :
  Calls Tryz.prog 16 #[.slice ao s.length cap] w (LoPost w s) := by
 have HFR := zB (fread_any ao cap s w hB hcap hc2 hs8)
 have HBA := zB hB
 have HET := zB hT
 clear hB hT
 go_enter Tryz.func16, Tryz.ntmps16
 go_wp2_with fail
 refine (zA HFR).mono ?_
 rintro e w1 (⟨pt, l, rfl, hl, HE, HK, HB, H10, HG⟩ | ⟨rfl, HB, HN⟩)
 ·have hbF : Below w1.heap.size w1 (w1.alloc (.cells #[.int .i64 0] 85)) := (Below.refl _ _).alloc (Nat.le_refl _) _
  obtain ⟨base, hk⟩ := zA HK
  obtain ⟨ap, cp, rfl, hP⟩ := hk.pats
  have hP2 : yO (w1.alloc (.cells #[.int .i64 0] 85)) (w1.alloc (.cells #[.int .i64 0] 85)).heap.size ap l := fun h0 => by
   obtain ⟨bp, op, h1, h2, h3⟩ := (hP.below hbF (Nat.le_refl _)) h0
   have hs := hbF.size
   refine ⟨bp, op, by omega, h2, fun i hi => ?_⟩
   obtain ⟨a, c, h4, h5⟩ := h3 i hi
   exact ⟨a, c, h4, fun h6 => by
    obtain ⟨b', o', q1, q2, q3⟩ := h5 h6
    exact ⟨b', o', by omega, q2, q3⟩⟩
  have HB2 : Hid (Below w.heap.size w (w1.alloc (.cells #[.int .i64 0] 85))) := zB ((zA HB).trans (hbF.mono (zA HB).size))
  have hsz := (zA HB2).size
  generalize hw2 : w1.alloc (.cells #[.int .i64 0] 85) = w2 at *
  by_cases hc : (chk l).1 = 0
  ·have HCO := zB (compile_ok ap cp l w2 hP2 hc)
   clear hk hP hP2 hbF
   have HW2 := zB hw2
   clear hw2
   go_wp2_with (first
    | (go_at_call 36; rw [zA HW2]; refine (as_nil _ _).mono ?_; rintro e w' ⟨rfl, hw'⟩; subst hw')
    | (go_at_call 28; refine (zA HCO).mono ?_; rintro e w3 ⟨bm, bt, be, g, S, rfl, hM, hfr, hb3⟩; have HM := zB hM; have HFR2 := zB hfr; have HB3 := zB hb3; clear hM hfr hb3))
   have hSV := save_ok w3 bm bt be g l S (zA HM) hc
   refine hSV.mono ?_
   rintro e w4 ⟨fb, fc, rfl, hO, hb4⟩
   have HB34 := zB ((zA HB2).trans ((zA HB3).mono hsz))
   have hs3 := (zA HB34).size
   have HB4 := zB ((zA HB34).trans (hb4.mono hs3))
   have HM4 := zB ((zA HM).below hb4)
   obtain ⟨a1, d1, e1, hat⟩ := owns_at hO
   cases e1
   have HEQ := zB (bequal_any _ ao fc cap (zS l S) s w4 hat ((zA HBA).below (zA HB4)))
   have HGO := zB ((zA HM).good hc)
   clear hSV hO hb4 hat HCO HM HB3
   by_cases hf : zS l S = s
   ·rw [decide_eq_true hf] at HEQ
    have HF := zB hf
    clear hf
    generalize hF : (zS l S).length = nF at *
    clear hF
    go_wp2_with (go_at_call 37; refine (zA HEQ).mono ?_; rintro e w5 ⟨rfl, hw5⟩; obtain rfl := hw5.symm)
    go_ret2
    obtain ⟨q1, q2, q3, q4⟩ := zA HFR2
    exact Or.inl ⟨bm, bt, be, g, l, S, rfl, zA HM4, hc, (zA HF).symm, ⟨by omega, by omega, by omega, fun k hk => by have := q4 k hk; omega⟩, zA HB4⟩
   ·rw [decide_eq_false hf] at HEQ
    have HF := zB hf
    clear hf
    have HNF : Hid (NoFile s) := zB (fun ps S' gd e => by
     have := zA HG ps S' gd e
     subst this
     have := (zA HGO).uniq gd
     subst this
     exact zA HF e.symm)
    clear HF
    generalize zS l S = F at *
    go_wp2_with (go_at_call 37; refine (zA HEQ).mono ?_; rintro e w5 ⟨rfl, hw5⟩; obtain rfl := hw5.symm)
    go_ret2
    exact Or.inr ⟨by rw [zA H10]; rfl, zA HNF, zA HB4⟩
  ·have HCO := zB (compile_bad ap cp _ l w2 hP2 (by omega) (fun i hi => by have := zA HE i hi; omega) hc)
   have hcn : ((chk l).1 != 0) = true := by rw [bne_iff_ne]; exact hc
   have HCN := zB hc
   clear hk hP hP2 hbF
   have HW2 := zB hw2
   clear hw2 hc
   go_wp2_with (first
    | (go_at_call 36; rw [zA HW2]; refine (as_nil _ _).mono ?_; rintro e w' ⟨rfl, hw'⟩; subst hw')
    | (go_at_call 28; refine (zA HCO).mono ?_; rintro e w3 ⟨rfl, hw3⟩; obtain rfl := hw3.symm))
   go_ret2
   refine Or.inr ⟨by rw [zA H10]; rfl, fun ps S g e => ?_, zA HB2⟩
   have := zA HG ps S g e
   subst this
   exact zA HCN g.ok
 ·have hbF : Below w1.heap.size w1 (w1.alloc (.cells #[.int .i64 0] 85)) := (Below.refl _ _).alloc (Nat.le_refl _) _
  have hnb : (w1.alloc (.cells #[.int .i64 0] 85)).heap[w1.heap.size]? = some (.cells #[.int .i64 0] 85 (0, 0)) := heap_alloc_new w1 _
  have HB2 : Hid (Below w.heap.size w (w1.alloc (.cells #[.int .i64 0] 85))) := zB ((zA HB).trans (hbF.mono (zA HB).size))
  have hE2 : ErrT (w1.alloc (.cells #[.int .i64 0] 85)) := (zA HET).below (zA HB2)
  have HAS := zB (as_hit w1.heap.size (errL s) (.int .i64 0) (w1.alloc (.cells #[.int .i64 0] 85)) hE2 (by rw [zC hnb]; rfl) (frozen_of_row _ _ _ _ _ hnb))
  have hsz := (zA HB2).size
  have hsz1 := (zA HB).size
  have HNB := zB hnb
  clear hbF hnb hE2
  generalize hw2 : w1.alloc (.cells #[.int .i64 0] 85) = w2 at HB2 HAS HNB hsz
  have HW2 := zB hw2
  clear hw2
  have hEL := errL_pos s
  generalize hel : errL s = k at *
  go_wp2_with (go_at_call 36; rw [zA HW2]; refine (zA HAS).mono ?_; rintro e w' ⟨rfl, W, HBW, rfl⟩; have hW1 := ((zA HBW).block w1.heap.size (Array.getElem?_eq_some_iff.1 (zA HNB)).1).trans (zA HNB); have hW2 := heap_setCell_same W w1.heap.size 0 _ _ (.int .i64 k) hW1; have z0 : (W.setCell ⟨w1.heap.size, 0, none⟩ (.int .i64 k)).cell? ⟨w1.heap.size, 0, none⟩ = some (.int .i64 k) := (by rw [zC hW2]; rfl); have HB4 : Hid (Below w.heap.size w (W.setCell ⟨w1.heap.size, 0, none⟩ (.int .i64 k))) := zB ((zA HB2).trans (((zA HBW).mono hsz).trans ((Mod.setCell W w1.heap.size 0 _).below (Nat.le_trans hsz (zA HBW).size) (fun k e => by omega)))); clear hW1 hW2)
  go_quiet (fail)
  go_wp2_with fail
  go_ret2
  exact Or.inr ⟨by rw [hel]; rfl, zA HN, (zA HB4).trans ((below_drewN (Below.refl _ _) nq).mono (zA HB4).size)⟩
end Go.Proofs.YtfpohfifdfbpkaaGreatDoor
