import Derived.Test.YtfpohfifdfbpkaaGreatDoorLawW
namespace Go.Proofs.YtfpohfifdfbpkaaGreatDoor
open Go.RowKit Scour Go.Lib
theorem BookOK.entry {w : World} {T : Nat -> Nat} {rt et tr : Nat} {tg : Nat -> Nat} {x : Nat -> Value} {v : Value} {E : List Sl} (h : BookOK w T rt et tr tg x v E) (i : Nat) (hi : i < E.length) :
  ∃ (g cap : Nat) (ao : Option Addr) (n c : Nat), v = .slice (some ⟨g, 0, none⟩) E.length cap /\ E[i]? = some ⟨ao, n, c⟩ /\ w.cell? ⟨g, i, none⟩ = some (.slice ao n c) /\ n < 1000000000 /\ ∀ j, j < n -> ∃ b, ao = some ⟨b, 0, none⟩ /\ T b = tg i /\ w.cell? ⟨b, j, none⟩ = some (x i) /\ w.frozen? ⟨b, j, none⟩ = false := by
 obtain ⟨g, cap, hv, _, _⟩ := h.row.form (by omega)
 have hs : E[i]? = some E[i] := List.getElem?_eq_getElem hi
 have hm := h.each i E[i] hs
 have hl := h.lens E[i] (List.getElem_mem _)
 have hc : w.cell? ⟨g, i, none⟩ = some (E[i]).val := by
  have hr := h.row
  rw [hv] at hr
  rw [hr.cellAt i (by omega)]
  simp [hi]
 generalize E[i] = s at *
 obtain ⟨ao, n, c⟩ := s
 refine ⟨g, cap, ao, n, c, hv, hs, hc, hl, fun j hj => ?_⟩
 obtain ⟨b, cap2, hv2, _, _⟩ := hm.row.form (by simp only []; omega)
 simp only [Sl.val, Value.slice.injEq, true_and] at hv2
 obtain ⟨rfl, rfl⟩ := hv2
 have hr := hm.row
 simp only [Sl.val] at hr
 refine ⟨b, rfl, hm.own b rfl, ?_, hr.frozenAt j⟩
 rw [hr.cellAt j (by omega), List.getElem?_replicate, if_pos hj]
theorem BookG.entry {w : World} {T : Nat -> Nat} {rt et tr : Nat} {tg : Nat -> Nat} {x : Nat -> Nat -> Value} {v : Value} {E : List Sl} (h : BookG w T rt et 2 tr tg x v E) (i : Nat) (hi : i < E.length) :
  ∃ (g cap : Nat) (ao : Option Addr) (n c : Nat), v = .slice (some ⟨g, 0, none⟩) E.length cap /\ w.cell? ⟨g, i, none⟩ = some (.slice ao n c) /\ n < 100000000000 /\ ∀ j, j < n -> ∃ b, ao = some ⟨b, 0, none⟩ /\ w.cell? ⟨b, j * 2, none⟩ = some (x i (j * 2)) /\ w.cell? ⟨b, j * 2 + 1, none⟩ = some (x i (j * 2 + 1)) := by
 obtain ⟨g, cap, hv, _, _⟩ := h.row.form (by omega)
 have hs : E[i]? = some E[i] := List.getElem?_eq_getElem hi
 have hm := h.each i E[i] hs
 have hl := h.lens E[i] (List.getElem_mem _)
 have hc : w.cell? ⟨g, i, none⟩ = some (E[i]).val := by
  have hr := h.row
  rw [hv] at hr
  rw [hr.cellAt i (by omega)]
  simp [hi]
 generalize E[i] = s at *
 obtain ⟨ao, n, c⟩ := s
 refine ⟨g, cap, ao, n, c, hv, hc, hl, fun j hj => ?_⟩
 obtain ⟨b, cap2, hv2, _, _⟩ := hm.row.form (by simp only []; omega)
 simp only [Sl.val, Value.slice.injEq, true_and] at hv2
 obtain ⟨rfl, rfl⟩ := hv2
 have hr := hm.row
 simp only [Sl.val] at hr
 refine ⟨b, rfl, ?_, ?_⟩
 ·rw [hr.cellAt (j * 2) (by omega), xcells_get, if_pos (by omega)]
 ·rw [hr.cellAt (j * 2 + 1) (by omega), xcells_get, if_pos (by omega)]
set_option maxHeartbeats 4000000 in
set_option maxRecDepth 100000 in
theorem looks_any (bw : Nat) (T : Nat -> Nat) (M : List Ent) (vms vby vli : Value) (E F : List Sl) (mb : Ext) (w : World) (hW : LW w bw T M vms vby vli E F mb) (hE : E.length < 900000000000) (hFl : F.length < 900000000000) (hG : mb.G.length < 900000000000) :
  Calls Tryz.prog 32 #[.pointer (some ⟨bw, 2, none⟩)] w fun e w' => e = .returned (.bool true) /\ Below w.heap.size w w' := by
 have c2 : w.cell? ⟨bw, 2, none⟩ = some vby := by rw [zC hW.blk]; rfl
 have c3 : w.cell? ⟨bw, 3, none⟩ = some vli := by rw [zC hW.blk]; rfl
 have c4 : w.cell? ⟨bw, 4, none⟩ = some mb.ma := by rw [zC hW.blk]; rfl
 have HG := zB hW.ext.mats
 have HB := zB hW.bytes
 have HL := zB hW.lists
 obtain ⟨aby, cby, hvby⟩ : ∃ aby cby, vby = .slice aby E.length cby := by
  rcases hW.bytes.row.2 with ⟨h, h0⟩ | ⟨g, cap, cur, h, _⟩
  ·exact ⟨none, 0, by rw [h, h0]⟩
  ·exact ⟨_, cap, h⟩
 subst hvby
 obtain ⟨ali, cli, hvli⟩ : ∃ ali cli, vli = .slice ali F.length cli := by
  rcases hW.lists.row.2 with ⟨h, h0⟩ | ⟨g, cap, cur, h, _⟩
  ·exact ⟨none, 0, by rw [h, h0]⟩
  ·exact ⟨_, cap, h⟩
 subst hvli
 obtain ⟨ama, cma, hvma⟩ : ∃ ama cma, mb.ma = .slice ama mb.G.length cma := by
  rcases hW.ext.mats.row.2 with ⟨h, h0⟩ | ⟨g, cap, cur, h, _⟩
  ·exact ⟨none, 0, by rw [h, h0]⟩
  ·exact ⟨_, cap, h⟩
 rw [hvma] at c4 HG
 clear hW hvma
 generalize mb.G = G at *
 go_enter Tryz.func32, Tryz.ntmps32
 go_wp2
 go_loopw [3] (fun v wr => ∃ k m : Nat, v = .int .i64 k /\ wr = w.drewN m /\ k <= E.length) (fun v _ => E.length - (intOf v).toNat)
 case atStart => exact ⟨0, 0, rfl, rfl, Nat.zero_le _⟩
 case round =>
  obtain ⟨k, m, rfl, rfl, hk⟩ := hrel
  by_cases hlt : k < E.length
  ·obtain ⟨g, cap, ao, n, c, hv, hEk, ce, hn, hall⟩ := (zA HB).entry k hlt
   obtain ⟨rfl, rfl⟩ : aby = some ⟨g, 0, none⟩ /\ cby = cap := by simpa using hv
   have HALL := zB hall
   have i1 : (k : Int) < (E.length : Int) := by omega
   have i2 : (0 : Int) <= (k : Int) := by omega
   clear hv hall hEk
   go_wp2
   go_loopw [4] (fun v wz => ∃ j m : Nat, v = .int .i64 j /\ wz = w.drewN m /\ j <= n) (fun v _ => n - (intOf v).toNat)
   case atStart => exact ⟨0, m, rfl, rfl, Nat.zero_le _⟩
   case round =>
    obtain ⟨j, m2, rfl, rfl, hj⟩ := hrel
    by_cases hjn : j < n
    ·obtain ⟨b, rfl, _, cj, _⟩ := zA HALL j hjn
     unfold bx at cj
     have j1 : (j : Int) < (n : Int) := by omega
     have j2 : (0 : Int) <= (j : Int) := by omega
     have hkm : k < 9000000000000000000 := by omega
     have z2 : (w.drewN m2).cell? ⟨bw, 2, none⟩ = some (.slice (some ⟨g, 0, none⟩) E.length cby) := c2
     have z3 : (w.drewN m2).cell? ⟨g, k, none⟩ = some (.slice (some ⟨b, 0, none⟩) n c) := ce
     have z4 : (w.drewN m2).cell? ⟨b, j, none⟩ = some (.int .u8 (zp k)) := cj
     obtain ⟨wz, hwz⟩ : ∃ wz, w.drewN m2 = wz := ⟨_, rfl⟩
     rw [hwz] at z2 z3 z4 ⊢
     have HWZ := zB hwz
     clear hwz
     go_wp2_with fail
     go_quiet ((go_at_call 53; exact Calls.quiet_of_same (mark_any _ _ hkm)))
     go_wp2_with fail
     go_roundw
     case rel => exact ⟨j + 1, m2 + nq, by go_num, by rw [← zA HWZ, World.drewN_drewN], hjn⟩
     case measure => simp [intOf]; omega
    ·obtain rfl : j = n := by omega
     have j1 : ¬ (j : Int) < (j : Int) := by omega
     go_wp2_with fail
     go_roundw
     case rel => exact ⟨k + 1, m2, by go_num, rfl, hlt⟩
     case measure => simp [intOf]; omega
  ·obtain rfl : k = E.length := by omega
   have i1 : ¬ (E.length : Int) < (E.length : Int) := by omega
   go_wp2
   go_loopw [5] (fun v wr => ∃ k m : Nat, v = .int .i64 k /\ wr = w.drewN m /\ k <= F.length) (fun v _ => F.length - (intOf v).toNat)
   case atStart => exact ⟨0, m, rfl, rfl, Nat.zero_le _⟩
   case round =>
    obtain ⟨k, m, rfl, rfl, hk⟩ := hrel
    by_cases hlt : k < F.length
    ·obtain ⟨g, cap, ao, n, c, hv, hEk, ce, hn, hall⟩ := (zA HL).entry k hlt
     obtain ⟨rfl, rfl⟩ : ali = some ⟨g, 0, none⟩ /\ cli = cap := by simpa using hv
     have HALL := zB hall
     have i1 : (k : Int) < (F.length : Int) := by omega
     have i2 : (0 : Int) <= (k : Int) := by omega
     clear hv hall hEk
     go_wp2
     go_loopw [6] (fun v wz => ∃ j m : Nat, v = .int .i64 j /\ wz = w.drewN m /\ j <= n) (fun v _ => n - (intOf v).toNat)
     case atStart => exact ⟨0, m, rfl, rfl, Nat.zero_le _⟩
     case round =>
      obtain ⟨j, m2, rfl, rfl, hj⟩ := hrel
      by_cases hjn : j < n
      ·obtain ⟨b, rfl, _, cj, _⟩ := zA HALL j hjn
       unfold lxs at cj
       have j1 : (j : Int) < (n : Int) := by omega
       have j2 : (0 : Int) <= (j : Int) := by omega
       have hkm : k < 9000000000000000000 := by omega
       go_wp2_with fail
       go_roundw
       case rel => exact ⟨j + 1, m2, by go_num, rfl, hjn⟩
       case measure => simp [intOf]; omega
      ·obtain rfl : j = n := by omega
       have j1 : ¬ (j : Int) < (j : Int) := by omega
       go_wp2_with fail
       go_roundw
       case rel => exact ⟨k + 1, m2, by go_num, rfl, hlt⟩
       case measure => simp [intOf]; omega
    ·obtain rfl : k = F.length := by omega
     have i1 : ¬ (F.length : Int) < (F.length : Int) := by omega
     go_wp2
     go_loopw [7] (fun v wr => ∃ k : Nat, v = .int .i64 k /\ Hid (Below w.heap.size w wr) /\ k <= G.length) (fun v _ => G.length - (intOf v).toNat)
     case atStart => exact ⟨0, rfl, zB (below_drewN (Below.refl _ _) _), Nat.zero_le _⟩
     case round =>
      obtain ⟨k, rfl, HBW, hk⟩ := hrel
      have lbw : bw < w.heap.size := (World.block_lt_of_cell? w ⟨bw, 4, none⟩ c4)
      have y4 : wr.cell? ⟨bw, 4, none⟩ = some (.slice ama G.length cma) := ((zA HBW).cell (p := ⟨bw, 4, none⟩) lbw).trans c4
      have hsr := (zA HBW).size
      by_cases hlt : k < G.length
      ·obtain ⟨g, cap, ao, n, c, hv, ce, hn, hall⟩ := (zA HG).entry k hlt
       obtain ⟨rfl, rfl⟩ : ama = some ⟨g, 0, none⟩ /\ cma = cap := by simpa using hv
       have HALL := zB hall
       have i1 : (k : Int) < (G.length : Int) := by omega
       have i2 : (0 : Int) <= (k : Int) := by omega
       have HMK : Hid ((-1000 : Int) - (k : Int) / 4 = -1000 - ((k / 4 : Nat) : Int)) := zB (by omega)
       have lg : g < w.heap.size := (World.block_lt_of_cell? w ⟨g, k, none⟩ ce)
       have yg : wr.cell? ⟨g, k, none⟩ = some (.slice ao n c) := ((zA HBW).cell (p := ⟨g, k, none⟩) lg).trans ce
       clear hv hall
       go_wp2
       rw [zA HMK]
       have HMX : Hid (∀ j, mxs k (j * 2) = .int .i64 (-1000 - ((k / 4 : Nat) : Int)) /\ mxs k (j * 2 + 1) = .int .i64 0) := zB (fun j => ⟨by unfold mxs; rw [if_pos (by omega)], by unfold mxs; rw [if_neg (by omega)]⟩)
       generalize (-1000 - ((k / 4 : Nat) : Int)) = mk at *
       have HB0 : Hid ((wr.alloc (.cells #[.int .i64 mk, .int .i64 0] 49)).heap[wr.heap.size]? = some (.cells #[.int .i64 mk, .int .i64 0] 49 (0, 0))) := zB (heap_alloc_new wr _)
       have HB1 : Hid (Below w.heap.size w (wr.alloc (.cells #[.int .i64 mk, .int .i64 0] 49))) := zB ((zA HBW).alloc hsr _)
       have x4 : (wr.alloc (.cells #[.int .i64 mk, .int .i64 0] 49)).cell? ⟨bw, 4, none⟩ = some (.slice (some ⟨g, 0, none⟩) G.length cma) := ((zA HB1).cell (p := ⟨bw, 4, none⟩) lbw).trans c4
       have xg : (wr.alloc (.cells #[.int .i64 mk, .int .i64 0] 49)).cell? ⟨g, k, none⟩ = some (.slice ao n c) := ((zA HB1).cell (p := ⟨g, k, none⟩) lg).trans ce
       have x0 : (wr.alloc (.cells #[.int .i64 mk, .int .i64 0] 49)).cell? ⟨wr.heap.size, 0, none⟩ = some (.int .i64 mk) := by rw [zC (zA HB0)]; rfl
       have x1 : (wr.alloc (.cells #[.int .i64 mk, .int .i64 0] 49)).cell? ⟨wr.heap.size, 1, none⟩ = some (.int .i64 0) := by rw [zC (zA HB0)]; rfl
       generalize wr.alloc (.cells #[.int .i64 mk, .int .i64 0] 49) = w0 at *
       clear y4 yg
       go_loopw [9] (fun v wz => ∃ j m : Nat, v = .int .i64 j /\ wz = w0.drewN m /\ j <= n) (fun v _ => n - (intOf v).toNat)
       case atStart => exact ⟨0, 0, rfl, rfl, Nat.zero_le _⟩
       case round =>
        obtain ⟨j, m2, rfl, rfl, hj⟩ := hrel
        by_cases hjn : j < n
        ·obtain ⟨b, rfl, cj0, cj1⟩ := zA HALL j hjn
         rw [(zA HMX j).1] at cj0
         rw [(zA HMX j).2] at cj1
         have lb : b < w.heap.size := (World.block_lt_of_cell? w ⟨b, j * 2, none⟩ cj0)
         have j1 : (j : Int) < (n : Int) := by omega
         have j2 : (0 : Int) <= (j : Int) := by omega
         have v0 : (w0.drewN m2).cell? ⟨b, j * 2, none⟩ = some (.int .i64 mk) := ((zA HB1).cell (p := ⟨b, j * 2, none⟩) lb).trans cj0
         have v1 : (w0.drewN m2).cell? ⟨b, j * 2 + 1, none⟩ = some (.int .i64 0) := ((zA HB1).cell (p := ⟨b, j * 2 + 1, none⟩) lb).trans cj1
         have v2 : (w0.drewN m2).cell? ⟨bw, 4, none⟩ = some (.slice (some ⟨g, 0, none⟩) G.length cma) := x4
         have v3 : (w0.drewN m2).cell? ⟨g, k, none⟩ = some (.slice (some ⟨b, 0, none⟩) n c) := xg
         have v4 : (w0.drewN m2).cell? ⟨wr.heap.size, 0, none⟩ = some (.int .i64 mk) := x0
         have v5 : (w0.drewN m2).cell? ⟨wr.heap.size, 1, none⟩ = some (.int .i64 0) := x1
         obtain ⟨wz, hwz⟩ : ∃ wz, w0.drewN m2 = wz := ⟨_, rfl⟩
         rw [hwz] at v0 v1 v2 v3 v4 v5 ⊢
         have HWZ := zB hwz
         clear hwz
         go_wp2_with fail
         go_quiet (fail)
         go_wp2_with fail
         go_roundw
         case rel => exact ⟨j + 1, m2 + nq, by go_num, by rw [← zA HWZ, World.drewN_drewN], hjn⟩
         case measure => simp [intOf]; omega
        ·obtain rfl : j = n := by omega
         have j1 : ¬ (j : Int) < (j : Int) := by omega
         go_wp2_with fail
         go_roundw
         case rel => exact ⟨k + 1, by go_num, zB (below_drewN (zA HB1) m2), hlt⟩
         case measure => simp [intOf]; omega
      ·obtain rfl : k = G.length := by omega
       have i1 : ¬ (G.length : Int) < (G.length : Int) := by omega
       go_wp2
       go_ret
       exact ⟨rfl, zA HBW⟩
end Go.Proofs.YtfpohfifdfbpkaaGreatDoor
namespace Go.Proofs.YtfpohfifdfbpkaaGreatDoor
open Go.RowKit Scour Go.Lib
structure Shape (w : World) (e : TypeId) (P : Nat -> Prop) (s : Sl) : Prop where
 row : ∃ xs, w.ownsRow 0 e 1 s.val s.n xs
 own : ∀ b, s.val.ownBlock = some b -> P b
theorem yu.shape {w : World} {e : TypeId} {x : Value} {P : Nat -> Prop} {s : Sl} (h : yu w e x P s) : Shape w e P s := ⟨⟨_, h.row⟩, h.own⟩
theorem Shape.step {w w' : World} {e : TypeId} {x : Value} {P : Nat -> Prop} {s : Sl} (h : Shape w e P s) (k : zk e x P w w') : Shape w' e P s := by
 obtain ⟨xs, hr⟩ := h.row
 refine ⟨?_, h.own⟩
 rcases hr.2 with ⟨hv, h0⟩ | ⟨g, cap, cur, hv, h2, h3, h4, h5, h6, h7⟩
 ·exact ⟨xs, hr.1, Or.inl ⟨hv, h0⟩⟩
 ·obtain ⟨cur', k1, k2, _⟩ := k.ins g cur (h.own g (by rw [hv]; rfl)) h3
  exact ⟨cur'.toList.take (s.n * 1), by rw [List.length_take, Array.length_toList, k2, h6]; omega, Or.inr ⟨g, cap, cur', hv, h2, k1, h4, h5, k2.trans h6, rfl⟩⟩
theorem Shape.at {w : World} {e : TypeId} {P : Nat -> Prop} {ao : Option Addr} {n c : Nat} (h : Shape w e P ⟨ao, n, c⟩) {j : Nat} (hj : j < n) : ∃ b u cur, ao = some ⟨b, 0, none⟩ /\ P b /\ w.cell? ⟨b, j, none⟩ = some u /\ w.frozen? ⟨b, j, none⟩ = false /\ w.heap[b]? = some (.cells cur e (0, 0)) := by
 obtain ⟨xs, hr⟩ := h.row
 obtain ⟨b, cap2, hv2, _, _⟩ := hr.form (by simp only []; omega)
 simp only [Sl.val, Value.slice.injEq, true_and] at hv2
 obtain ⟨rfl, rfl⟩ := hv2
 simp only [Sl.val] at hr
 obtain ⟨cur, hc⟩ := zK hr
 have hl : xs.length = n := by have := hr.1; omega
 exact ⟨b, xs[j], cur, rfl, h.own b rfl, by rw [hr.cellAt j (by omega), List.getElem?_eq_getElem (by omega)], hr.frozenAt j, hc⟩
theorem LW.group {w w' : World} {bw : Nat} {T : Nat -> Nat} {M : List Ent} {vms vby vli x : Value} {E F : List Sl} {mb : Ext} {n : Nat} (h : LW w bw T M vms vby vli E F mb) (hs : zk 5 x (fun b => T b = yG n) w w') :
  w'.heap[bw]? = w.heap[bw]? /\ w'.ownsRow 0 27 1 vby E.length (E.map Sl.val) /\ Fr T w w' T /\ ∀ k, k < w.heap.size -> T k ≠ yG n -> w'.heap[k]? = w.heap[k]? := by
 have hbl := (Array.getElem?_eq_some_iff.1 h.blk).1
 refine ⟨hs.out bw hbl (by rw [h.tbw]; exact yk (by omega)), zE h.bytes.row (fun b hl hv => hs.out b hl (by rw [h.bytes.own b hv]; exact yk (by omega))), ⟨hs.os, hs.tape, hs.output, hs.size, fun k hk h0 => ⟨hs.out k hk (by rw [h0]; exact yk (by omega)), h0⟩⟩, fun k hk hn => hs.out k hk hn⟩
theorem LW.again {w w' : World} {bw : Nat} {T : Nat -> Nat} {M : List Ent} {vms vby vli : Value} {E F : List Sl} {mb : Ext} {n : Nat} (h : LW w bw T M vms vby vli E F mb) (hsz : w.heap.size <= w'.heap.size) (hs : ∀ k, k < w.heap.size -> T k ≠ yG n -> w'.heap[k]? = w.heap[k]?)
  (hm : ∀ i s, yG i = yG n -> E[i]? = some s -> yu w' 5 (bx i) (fun b => T b = yG i) s) : LW w' bw T M vms vby vli E F mb := by
 have hbl := (Array.getElem?_eq_some_iff.1 h.blk).1
 refine ⟨(hs bw hbl (by rw [h.tbw]; exact yk (by omega))).trans h.blk, h.tbw, zE h.ms (fun b hl hv => hs b hl (by rw [h.msown b hv]; exact yk (by omega))), h.msown, fun e he => (h.ents e he).same hsz (fun k hl ht => hs k hl (by rw [ht]; exact yk (by omega))) (fun _ _ ht => ht), ?_, ?_, fun k hl => h.fresh k (by omega), h.ext.same hsz (fun k hl ht => hs k hl (by unfold xtag at ht; unfold yG; omega)) (fun _ _ _ => rfl)⟩
 ·refine ⟨zE h.bytes.row (fun b hl hv => hs b hl (by rw [h.bytes.own b hv]; exact yk (by omega))), h.bytes.own, fun i s hi => ?_, h.bytes.four, h.bytes.lens⟩
  by_cases e : yG i = yG n
  ·exact hm i s e hi
  ·exact (h.bytes.each i s hi).same (fun b hl hp => hs b hl (by rw [hp]; exact e))
 ·exact h.lists.same (fun k hl ht => hs k hl (by rcases ht with ht | ⟨i, ht⟩ <;> rw [ht]; exact yk (by omega); unfold ltag yG; omega)) (fun _ _ _ => rfl)
theorem btag_group {n i : Nat} (h4 : n % 4 = 0) (h1 : n <= i) (h2 : i < n + 4) : yG i = yG n /\ bx i = bx n := by
 have e : i / 4 = n / 4 := by omega
 unfold yG bx zp; rw [e]; exact ⟨rfl, rfl⟩
theorem mark_group {n i : Nat} (h4 : n % 4 = 0) (h1 : n <= i) (h2 : i < n + 4) : zp i = zp n := by
 have e : i / 4 = n / 4 := by omega
 unfold zp; rw [e]
theorem btag_far {n i : Nat} (h4 : n % 4 = 0) (h : i < n \/ n + 4 <= i) : yG i ≠ yG n := by
 unfold yG; omega
theorem mark_not7 (i : Nat) : (((zp i : Nat) : Int) == 7) = false := by
 unfold zp; simp only [beq_eq_false_iff_ne, ne_eq]; omega
theorem mark_below (n : Nat) (w : World) (hn : n < 9000000000000000000) :
  Calls Tryz.prog 53 #[.int .i64 n] w fun e w' => e = .returned (.int .u8 (zp n)) /\ Below w.heap.size w w' :=
 (mark_any n w hn).mono (fun _ _ h => ⟨h.1, by rw [h.2]; exact Below.refl _ _⟩)
theorem mstep_below {e : TypeId} {x : Value} {P : Nat -> Prop} {w w' : World} (h : Below w.heap.size w w') : zk e x P w w' := mstep_of_grown (zM h none)
set_option maxHeartbeats 4000000 in
set_option maxRecDepth 100000 in
theorem apart_any (bw : Nat) (T : Nat -> Nat) (M : List Ent) (vms vby vli : Value) (E F : List Sl) (mb : Ext) (w : World) (hW : LW w bw T M vms vby vli E F mb) (hE : E.length < 900000000000) :
  Calls Tryz.prog 33 #[.pointer (some ⟨bw, 2, none⟩)] w fun e w' => e = .returned (.bool true) /\ LW w' bw T M vms vby vli E F mb /\ Fr T w w' T := by
 obtain ⟨aby, cby, hvby⟩ : ∃ aby cby, vby = .slice aby E.length cby := by
  rcases hW.bytes.row.2 with ⟨h, h0⟩ | ⟨g, cap, cur, h, _⟩
  ·exact ⟨none, 0, by rw [h, h0]⟩
  ·exact ⟨_, cap, h⟩
 subst hvby
 have h4 := hW.bytes.four
 have HW := zB hW
 have HCC : Hid (∀ W, LW W bw T M vms (.slice aby E.length cby) vli E F mb -> W.cell? ⟨bw, 2, none⟩ = some (.slice aby E.length cby)) := zB (fun W h => by rw [zC h.blk]; rfl)
 clear hW
 go_enter Tryz.func33, Tryz.ntmps33
 go_wp2
 go_loopw [3] (fun v wr => ∃ q : Nat, v = .int .i64 (4 * q : Nat) /\ 4 * q <= E.length /\ Hid (LW wr bw T M vms (.slice aby E.length cby) vli E F mb) /\ Hid (Fr T w wr T)) (fun v _ => E.length - (intOf v).toNat)
 case atStart => exact ⟨0, rfl, Nat.zero_le _, HW, zB (Fr.refl _ _)⟩
 case round =>
  obtain ⟨q, rfl, hq, HWr, HFr⟩ := hrel
  have c0 := zA HCC wr (zA HWr)
  obtain ⟨n, hn⟩ : ∃ n, 4 * q = n := ⟨_, rfl⟩
  rw [hn] at hq ⊢
  have hn4 : n % 4 = 0 := by omega
  have HNQ := zB hn
  clear hn
  by_cases hlt : n < E.length
  ·have hn3 : n + 4 <= E.length := by omega
   obtain ⟨g, cap, ao', n', c', hv, _⟩ := (zA HWr).bytes.entry n hlt
   obtain ⟨rfl, rfl⟩ : aby = some ⟨g, 0, none⟩ /\ cby = cap := by simpa using hv
   clear hv
   have i1 : (n : Int) < (E.length : Int) := by omega
   have HSH : Hid (∀ i, i < E.length -> ∃ ao m c, E[i]? = some ⟨ao, m, c⟩ /\ m < 1000000000 /\ wr.cell? ⟨g, i, none⟩ = some (.slice ao m c) /\ yu wr 5 (bx i) (fun b => T b = yG i) ⟨ao, m, c⟩) := zB (fun i hi => by
    obtain ⟨g2, cap2, ao, m, c, hv, hEi, ce, hm, _⟩ := (zA HWr).bytes.entry i hi
    obtain ⟨rfl, rfl⟩ : g = g2 /\ cby = cap2 := by simpa using hv
    exact ⟨ao, m, c, hEi, hm, ce, (zA HWr).bytes.each i _ hEi⟩)
   have HGR : Hid (∀ x W, zk 5 x (fun b => T b = yG n) wr W -> W.cell? ⟨bw, 2, none⟩ = some (.slice (some ⟨g, 0, none⟩) E.length cby) /\ (∀ i, W.cell? ⟨g, i, none⟩ = wr.cell? ⟨g, i, none⟩)) := zB (fun x W h => by
    obtain ⟨a1, a2, a3, a4⟩ := (zA HWr).group h
    refine ⟨(World.cell?_of_block (a := ⟨bw, 2, none⟩) a1).trans c0, fun i => World.cell?_of_block (a := ⟨g, i, none⟩) ?_⟩
    obtain ⟨cur, hc⟩ := zK (zA HWr).bytes.row
    exact a4 g (Array.getElem?_eq_some_iff.1 hc).1 (by rw [(zA HWr).bytes.own g rfl]; exact yk (by omega)))
   obtain ⟨w0, hw0⟩ : ∃ w0, w0 = wr := ⟨_, rfl⟩
   subst hw0
   go_wp2
   go_loopw [4] (fun v wr => ∃ i : Nat, v = .int .i64 i /\ n <= i /\ i <= n + 4 /\ Hid (zk 5 (.int .u8 7) (fun b => T b = yG n) w0 wr)) (fun v _ => n + 4 - (intOf v).toNat)
   case atStart => exact ⟨n, rfl, Nat.le_refl _, by omega, zB (zk.refl _ _ _ _)⟩
   case round =>
    obtain ⟨i, rfl, hi1, hi2, HA⟩ := hrel
    have cb := (zA HGR _ _ (zA HA)).1
    by_cases hil : i < n + 4
    ·obtain ⟨ao, m, c, hEi, hm, ce, hmk⟩ := zA HSH i (by omega)
     have hbi := (btag_group hn4 hi1 hil).1
     rw [hbi] at hmk
     have ce' := ((zA HGR _ _ (zA HA)).2 i).trans ce
     have HMK := zB hmk.shape
     have j1 : (i : Int) < (n : Int) + 4 := by omega
     have j2 : (i : Int) < (E.length : Int) := by omega
     have j3 : (0 : Int) <= (i : Int) := by omega
     clear hmk hEi hbi
     go_wp2
     go_loopw [5] (fun v wr => ∃ j : Nat, v = .int .i64 j /\ j <= m /\ Hid (zk 5 (.int .u8 7) (fun b => T b = yG n) w0 wr)) (fun v _ => m - (intOf v).toNat)
     case atStart => exact ⟨0, rfl, Nat.zero_le _, HA⟩
     case round =>
      obtain ⟨j, rfl, hj, HA2⟩ := hrel
      have cb2 := (zA HGR _ _ (zA HA2)).1
      have ce2 := ((zA HGR _ _ (zA HA2)).2 i).trans ce
      by_cases hjm : j < m
      ·obtain ⟨b, u, cur, rfl, hPb, cj, fj, hcur⟩ := ((zA HMK).step (zA HA2)).at hjm
       have HA3 : Hid (zk 5 (.int .u8 7) (fun b => T b = yG n) w0 (_)) := zB ((zA HA2).trans (mstep_setCell _ b j cur hcur hPb))
       have k1 : (j : Int) < (m : Int) := by omega
       have k2 : (0 : Int) <= (j : Int) := by omega
       clear hcur hPb
       go_wp2
       go_roundw
       case rel => exact ⟨j + 1, by go_num, hjm, HA3⟩
       case measure => simp [intOf]; omega
      ·obtain rfl : j = m := by omega
       have k1 : ¬ (j : Int) < (j : Int) := by omega
       go_wp2
       go_roundw
       case rel => exact ⟨i + 1, by go_num, by omega, by omega, HA2⟩
       case measure => simp [intOf]; omega
    ·obtain rfl : i = n + 4 := by omega
     obtain ⟨wB, hwB⟩ : ∃ wB, wB = wr := ⟨_, rfl⟩
     subst hwB
     have j1 : ¬ ((n + 4 : Nat) : Int) < (n : Int) + 4 := by omega
     go_wp2
     go_loop [6] (fun v => ∃ i : Nat, v = .int .i64 i /\ i <= E.length) (fun v => E.length - (intOf v).toNat)
     case atStart => exact ⟨0, rfl, Nat.zero_le _⟩
     case round =>
      obtain ⟨i, rfl, hi⟩ := hrel
      by_cases hil : i < E.length
      ·obtain ⟨ao, m, c, hEi, hm, ce, hmk⟩ := zA HSH i hil
       have ce' := ((zA HGR _ _ (zA HA)).2 i).trans ce
       have HALL : Hid (∀ j, j < m -> ∃ b, ao = some ⟨b, 0, none⟩ /\ T b = yG i /\ w0.cell? ⟨b, j, none⟩ = some (.int .u8 (zp i))) := zB (fun j hj => by
        obtain ⟨b, cap2, hv2, _, _⟩ := hmk.row.form (by simp only []; omega)
        simp only [Sl.val, Value.slice.injEq, true_and] at hv2
        obtain ⟨rfl, rfl⟩ := hv2
        have hr := hmk.row
        simp only [Sl.val] at hr
        exact ⟨b, rfl, hmk.own b rfl, by rw [hr.cellAt j (by omega), List.getElem?_replicate, if_pos hj]; rfl⟩)
       have HFAR : Hid (∀ b, T b = yG i -> ∀ j, yG i ≠ yG n -> wB.cell? ⟨b, j, none⟩ = w0.cell? ⟨b, j, none⟩) := zB (fun b hb j hne => by
        by_cases hbl : b < w0.heap.size
        ·exact World.cell?_of_block (a := ⟨b, j, none⟩) ((zA HA).out b hbl (by rw [hb]; exact hne))
        ·have := (zA HWr).fresh b (by omega)
         rw [this] at hb
         exact absurd hb (yk (by omega)))
       have j2 : (i : Int) < (E.length : Int) := by omega
       have j3 : (0 : Int) <= (i : Int) := by omega
       clear hmk hEi
       go_wp2
       go_loop [7] (fun v => ∃ j : Nat, v = .int .i64 j /\ j <= m) (fun v => m - (intOf v).toNat)
       case atStart => exact ⟨0, rfl, Nat.zero_le _⟩
       case round =>
        obtain ⟨j, rfl, hj⟩ := hrel
        by_cases hjm : j < m
        ·have k1 : (j : Int) < (m : Int) := by omega
         have k2 : (0 : Int) <= (j : Int) := by omega
         rcases Nat.lt_or_ge i n with hc | hc
         ·obtain ⟨b, rfl, hPb, cj0⟩ := zA HALL j hjm
          have cj : wB.cell? ⟨b, j, none⟩ = some (.int .u8 (zp i)) := (zA HFAR b hPb j (btag_far hn4 (Or.inl hc))).trans cj0
          have m7 := mark_not7 i
          have l1 : decide ((i : Int) < (n : Int)) = true := by simp; omega
          clear cj0 hPb
          generalize zp i = y at cj m7
          go_wp2
          go_round
          case rel => exact ⟨j + 1, by go_num, hjm⟩
          case measure => simp [intOf]; omega
         ·have l1 : decide ((i : Int) < (n : Int)) = false := by simp; omega
          rcases Nat.lt_or_ge i (n + 4) with hd | hd
          ·have l2 : decide ((n : Int) + 4 <= (i : Int)) = false := by simp; omega
           go_wp2
           go_round
           case rel => exact ⟨j + 1, by go_num, hjm⟩
           case measure => simp [intOf]; omega
          ·obtain ⟨b, rfl, hPb, cj0⟩ := zA HALL j hjm
           have cj : wB.cell? ⟨b, j, none⟩ = some (.int .u8 (zp i)) := (zA HFAR b hPb j (btag_far hn4 (Or.inr hd))).trans cj0
           have m7 := mark_not7 i
           have l2 : decide ((n : Int) + 4 <= (i : Int)) = true := by simp; omega
           clear cj0 hPb
           generalize zp i = y at cj m7
           go_wp2
           go_round
           case rel => exact ⟨j + 1, by go_num, hjm⟩
           case measure => simp [intOf]; omega
        ·obtain rfl : j = m := by omega
         have k1 : ¬ (j : Int) < (j : Int) := by omega
         go_wp2
         go_round
         case rel => exact ⟨i + 1, by go_num, hil⟩
         case measure => simp [intOf]; omega
      ·obtain rfl : i = E.length := by omega
       have j5 : ¬ (E.length : Int) < (E.length : Int) := by omega
       have HGC : Hid (∀ W, zk 5 (bx n) (fun b => T b = yG n) wB W -> W.cell? ⟨bw, 2, none⟩ = some (.slice (some ⟨g, 0, none⟩) E.length cby) /\ (∀ i, W.cell? ⟨g, i, none⟩ = w0.cell? ⟨g, i, none⟩) /\ bw < W.heap.size /\ g < W.heap.size) := zB (fun W h => by
        have hb0 := (Array.getElem?_eq_some_iff.1 (zA HWr).blk).1
        obtain ⟨cur, hc⟩ := zK (zA HWr).bytes.row
        have hg0 := (Array.getElem?_eq_some_iff.1 hc).1
        have s1 := (zA HA).size
        have s2 := h.size
        obtain ⟨a1, a2⟩ := zA HGR _ _ (zA HA)
        refine ⟨?_, fun i => ?_, by omega, by omega⟩
        ·rw [← a1]
         exact World.cell?_of_block (a := ⟨bw, 2, none⟩) (h.out bw (by omega) (by rw [(zA HWr).tbw]; exact yk (by omega)))
        ·rw [← a2 i]
         exact World.cell?_of_block (a := ⟨g, i, none⟩) (h.out g (by omega) (by rw [(zA HWr).bytes.own g rfl]; exact yk (by omega))))
       go_wp2
       go_loopw [8] (fun v wr => ∃ i : Nat, v = .int .i64 i /\ n <= i /\ i <= n + 4 /\ Hid (zk 5 (bx n) (fun b => T b = yG n) wB wr) /\ Hid (∀ i' s, n <= i' -> i' < i -> E[i']? = some s -> yu wr 5 (bx n) (fun b => T b = yG n) s)) (fun v _ => n + 4 - (intOf v).toNat)
       case atStart => exact ⟨n, rfl, Nat.le_refl _, by omega, zB (zk.refl _ _ _ _), zB (fun i' s h1 h2 => by omega)⟩
       case round =>
        obtain ⟨i, rfl, hi1, hi2, HC, HMS⟩ := hrel
        have cb3 := (zA HGC _ (zA HC)).1
        by_cases hil : i < n + 4
        ·obtain ⟨ao, m, c, hEi, hm, ce, hmk⟩ := zA HSH i (by omega)
         have hbi := btag_group hn4 hi1 hil
         rw [hbi.1] at hmk
         have ce3 := ((zA HGC _ (zA HC)).2.1 i).trans ce
         have HMK := zB (hmk.shape.step (zA HA))
         obtain ⟨ys, hys⟩ := ((zA HMK).step (zA HC)).row
         have HYS := zB hys
         have hyl : ys.length = m := by have h5 := hys.1; rw [Nat.mul_one] at h5; exact h5
         have HEI := zB hEi
         have HMI : Hid ((zp i : Nat) = zp n) := zB (mark_group hn4 hi1 hil)
         have j1 : (i : Int) < (n : Int) + 4 := by omega
         have j2 : (i : Int) < (E.length : Int) := by omega
         have j3 : (0 : Int) <= (i : Int) := by omega
         have hkm : i < 9000000000000000000 := by omega
         clear hmk hEi hbi hys
         go_wp2
         go_loopw [9] (fun v wr => ∃ j : Nat, v = .int .i64 j /\ j <= m /\ Hid (zk 5 (bx n) (fun b => T b = yG n) wB wr) /\ Hid (∀ i' s, n <= i' -> i' < i -> E[i']? = some s -> yu wr 5 (bx n) (fun b => T b = yG n) s) /\ Hid (wr.ownsRow 0 5 1 (.slice ao m c) m (List.replicate j (bx n) ++ ys.drop j))) (fun v _ => m - (intOf v).toNat)
         case atStart => exact ⟨0, rfl, Nat.zero_le _, HC, HMS, HYS⟩
         case round =>
          obtain ⟨j, rfl, hj, HC2, HMS2, HY2⟩ := hrel
          obtain ⟨cb4, ce4, lbw, lg⟩ := zA HGC _ (zA HC2)
          have ce5 := (ce4 i).trans ce
          clear ce4
          by_cases hjm : j < m
          ·obtain ⟨b, u, cur, rfl, hPb, cj, fj, hcur⟩ := ((zA HMK).step (zA HC2)).at hjm
           have lb := (Array.getElem?_eq_some_iff.1 hcur).1
           have HNX : Hid (∀ W, Below wr.heap.size wr W -> zk 5 (bx n) (fun b => T b = yG n) wB (W.setCell ⟨b, j, none⟩ (.int .u8 (zp i))) /\ (∀ i' s, n <= i' -> i' < i -> E[i']? = some s -> yu (W.setCell ⟨b, j, none⟩ (.int .u8 (zp i))) 5 (bx n) (fun b => T b = yG n) s) /\ (W.setCell ⟨b, j, none⟩ (.int .u8 (zp i))).ownsRow 0 5 1 (.slice (some ⟨b, 0, none⟩) m c) m (List.replicate (j + 1) (bx n) ++ ys.drop (j + 1))) := zB (fun W hb => by
            rw [zA HMI]
            have hcW := (hb.block b lb).trans hcur
            have st1 : zk 5 (bx n) (fun b => T b = yG n) wr W := mstep_below hb
            have st2 : zk 5 (bx n) (fun b => T b = yG n) W (W.setCell ⟨b, j, none⟩ (bx n)) := mstep_setCell W b j cur hcW hPb
            refine ⟨((zA HC2).trans st1).trans st2, fun i' s h1 h2 h3 => ((zA HMS2 i' s h1 h2 h3).step st1).step st2, ?_⟩
            have := (((zA HY2).kept (zM hb none) (by simp [Value.ownBlock])).stored j (bx n)).1
            rw [rep_set (bx n) ys j (by omega)] at this
            exact this)
           have k1 : (j : Int) < (m : Int) := by omega
           have k2 : (0 : Int) <= (j : Int) := by omega
           have nbw : ¬ b = bw := fun e => by
            rw [e, (zA HWr).tbw] at hPb; exact yk (by omega) hPb
           have nbg : ¬ b = g := fun e => by
            rw [e, (zA HWr).bytes.own g rfl] at hPb; exact yk (by omega) hPb
           clear hcur hPb
           go_wp2_with fail
           go_region_held3 (fun w' => w'.cell? ⟨bw, 2, none⟩ = some (.slice (some ⟨g, 0, none⟩) E.length cby) /\ w'.cell? ⟨g, i, none⟩ = some (.slice (some ⟨b, 0, none⟩) m c)) (first | go_keep | (refine ⟨?_, ?_⟩ <;> rw [set_far (by omega)] <;> simp [*]))
            (first | (go_at_call 53; refine (mark_below _ _ hkm).mono ?_; rintro e w' ⟨rfl, hbw⟩; replace hbw := jU hbw; obtain ⟨hbc, hbf⟩ := bcell hbw))
           rename_i w' hbw hbc hbf
           obtain ⟨x1, x2, x3⟩ := zA HNX w' hbw
           have HX1 := zB x1
           have HX2 := zB x2
           have HX3 := zB x3
           clear hbc hbf hbw x1 x2 x3
           go_wp2
           go_roundw
           case rel => exact ⟨j + 1, by go_num, hjm, HX1, HX2, HX3⟩
           case measure => simp [intOf]; omega
          ·obtain rfl : j = m := by omega
           have k1 : ¬ (j : Int) < (j : Int) := by omega
           have HMS3 : Hid (∀ i' s, n <= i' -> i' < i + 1 -> E[i']? = some s -> yu wr 5 (bx n) (fun b => T b = yG n) s) := zB (fun i' s h1 h2 h3 => by
            by_cases e : i' = i
            ·subst e
             have := zA HEI
             rw [h3] at this
             obtain rfl : s = ⟨ao, j, c⟩ := by simpa using this
             refine ⟨?_, ((zA HMK).step (zA HC2)).own⟩
             have h5 := zA HY2
             rw [List.drop_of_length_le (by omega), List.append_nil] at h5
             exact h5
            ·exact zA HMS2 i' s h1 (by omega) h3)
           go_wp2
           go_roundw
           case rel => exact ⟨i + 1, by go_num, by omega, by omega, HC2, HMS3⟩
           case measure => simp [intOf]; omega
        ·obtain rfl : i = n + 4 := by omega
         have j1 : ¬ ((n + 4 : Nat) : Int) < (n : Int) + 4 := by omega
         have HWN : Hid (LW wr bw T M vms (.slice (some ⟨g, 0, none⟩) E.length cby) vli E F mb) := zB (by
          refine (zA HWr).again (n := n) (Nat.le_trans (zA HA).size (zA HC).size) (fun k hk hne => ?_) (fun i' s hb he => ?_)
          ·rw [(zA HC).out k (Nat.lt_of_lt_of_le hk (zA HA).size) hne]
           exact (zA HA).out k hk hne
          ·have hin : n <= i' /\ i' < n + 4 := by unfold yG at hb; omega
           have hg2 := btag_group hn4 hin.1 hin.2
           rw [hg2.1, hg2.2]
           exact zA HMS i' s hin.1 hin.2 he)
         have HFN : Hid (Fr T w wr T) := zB ((zA HFr).trans (((zA HWr).group (zA HA)).2.2.1.trans ⟨(zA HC).os, (zA HC).tape, (zA HC).output, (zA HC).size, fun k hk h0 => ⟨(zA HC).out k hk (by rw [h0]; exact yk (by omega)), h0⟩⟩))
         go_wp2
         go_roundw
         case rel => exact ⟨q + 1, by rw [show 4 * (q + 1) = n + 4 by have := zA HNQ; omega]; go_num, by have := zA HNQ; omega, HWN, HFN⟩
         case measure => simp [intOf]; omega
  ·obtain rfl : n = E.length := by omega
   have i1 : ¬ (E.length : Int) < (E.length : Int) := by omega
   go_wp2
   go_ret
   exact ⟨rfl, zA HWr, zA HFr⟩
end Go.Proofs.YtfpohfifdfbpkaaGreatDoor
