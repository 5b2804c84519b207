/- wakes: the document's first run. -/
import Derived.Test.YtahfobbiaimoiaaGreatDoorJ16
import Derived.Test.YtahfobbiaimoiaaGreatDoorJ17
import Derived.Test.YtahfobbiaimoiaaGreatDoorJ19
import Derived.Test.YtahfobbiaimoiaaGreatDoorJ27
namespace Go.Proofs.YtahfobbiaimoiaaGreatDoor
open Go.RowKit
/-- A run with what it reads: its order and its flow, from the world V0 on, behind which its own blocks lie. -/
structure RnX (V0 : World) (F : Fw) (gr gt : Nat) (sv rv : Value) (go gp gs ct : Nat) (Pf Sf : Nat → Nat) (P1 : List (Sp × Value)) (P2 : List (Rl × Value)) (lv : Value) (R : Rs) (W : World) : Prop where
  run : RnAt W V0.heap.size gr gt F.name sv rv go ct lv R
  ge : V0.heap.size ≤ gr
  bl : Below V0.heap.size V0 W
  ord : O.OrdAt V0 go gp gs F.steps.length Pf Sf
  wrd : O.Ord F.steps.length (O.ordL F.steps.length (prs F.steps)) Pf Sf
  len : R.S.length = F.steps.length
  t1 : TwP 0 V0 sv P1
  t2 : TwS 0 V0 rv P2
  m1 : P1.map Prod.fst = F.steps
  m2 : P2.map Prod.fst = F.rules
/-- What New answers. -/
def NewP (F : Fw) (tick : Int) (w : World) (e : Ending) (w' : World) : Prop :=
  (chkF F ≠ 0 ∧ e = .returned (.tuple #[.pointer none, .int .i64 (chkF F)]) ∧ Below w.heap.size w w') ∨
  (FlOk F ∧ ∃ V0 gr gt sv rv go gp gs ct Pf Sf P1 P2 lv, e = .returned (.tuple #[.pointer (some ⟨gr, 0, none⟩), .int .i64 0]) ∧ Below w.heap.size w V0 ∧ (w.heap.size ≤ go ∧ w.heap.size ≤ gp ∧ w.heap.size ≤ gs ∧ TwP w.heap.size V0 sv P1 ∧ TwS w.heap.size V0 rv P2) ∧ RnX V0 F gr gt sv rv go gp gs ct Pf Sf P1 P2 lv (newR F.steps.length tick) w')
theorem TwS.over {B : Nat} {w w' : World} {v : Value} {P : List (Rl × Value)} (h : TwS B w v P) (hb : Below w.heap.size w w') : TwS B w' v P := h.below hb (Nat.le_refl _)
theorem TwP.over {B : Nat} {w w' : World} {v : Value} {P : List (Sp × Value)} (h : TwP B w v P) (hb : Below w.heap.size w w') : TwP B w' v P := h.below hb (Nat.le_refl _)
theorem TwP.shp {B : Nat} {w : World} {v : Value} {P : List (Sp × Value)} (h : TwP B w v P) : ∃ o n c, v = .slice o n c := by obtain ⟨o, c, e⟩ := own_shp h.row; exact ⟨o, _, c, e⟩
theorem TwS.shp {B : Nat} {w : World} {v : Value} {P : List (Rl × Value)} (h : TwS B w v P) : ∃ o n c, v = .slice o n c := by obtain ⟨o, c, e⟩ := own_shp h.row; exact ⟨o, _, c, e⟩
/-- What stands just ahead of Repeat: V0. -/
structure Nw0 (w : World) (F : Fw) (fv sv rv : Value) (go gp gs : Nat) (Pf Sf : Nat → Nat) (P1 : List (Sp × Value)) (P2 : List (Rl × Value)) (gx : Nat) (V0 : World) : Prop where
  bl : Below w.heap.size w V0
  og : w.heap.size ≤ go ∧ w.heap.size ≤ gp ∧ w.heap.size ≤ gs
  ord : O.OrdAt V0 go gp gs F.steps.length Pf Sf
  t1 : TwP w.heap.size V0 sv P1
  t2 : TwS w.heap.size V0 rv P2
  gx : V0.heap[gx]? = some (.cells #[.int .i64 0, .int .i64 (-1), .int .i64 0, .int .i64 0] 42 (0, 0))
theorem Nw0.cells {w : World} {F : Fw} {fv sv rv : Value} {go gp gs : Nat} {Pf Sf : Nat → Nat} {P1 : List (Sp × Value)} {P2 : List (Rl × Value)} {gx : Nat} {V0 : World} (h : Nw0 w F fv sv rv go gp gs Pf Sf P1 P2 gx V0) : ∀ i v, (sscells ⟨0, -1, 0, 0⟩)[i]? = some v → V0.cell? ((⟨gx, 0, none⟩ : Addr).add i) = some v := by
  intro i v hv
  have hi := (List.getElem?_eq_some_iff.1 hv).1
  rw [Addr.add_lit]
  have hi' : i < 4 := hi
  have hj : i = 0 ∨ i = 1 ∨ i = 2 ∨ i = 3 := by omega
  rcases hj with rfl | rfl | rfl | rfl <;> (cases hv; simp [World.cell?, h.gx])
set_option maxRecDepth 100000 in
set_option maxHeartbeats 8000000 in
theorem newRF (F : Fw) (v : Value) (tick : Int) (w : World) (hv : flV w v F) (hB : FlB F) (ht : O.Tab w) : Calls Tryz.prog 46 #[v, .int .i64 tick] w (NewP F tick w) := by
  have hv0 := hide' hv
  obtain ⟨sv0, rv0, rfl, hs, hr⟩ := hv
  obtain ⟨oa, cap, rfl⟩ := hs.shape
  obtain ⟨ob, cb, rfl⟩ := hr.shape
  have K0 : Hid (∀ W, Below w.heap.size w W → Calls Tryz.prog 77 #[.agg #[.string F.name, .slice oa F.steps.length cap, .slice ob F.rules.length cb]] W (OrdR F W)) := fun W hW => orderFlF F _ W (hv0.out.below hW (Nat.le_refl _)) hB (ht.over hW)
  have KC : Hid (∀ W, Below w.heap.size w W → Calls Tryz.prog 60 #[.agg #[.string F.name, .slice oa F.steps.length cap, .slice ob F.rules.length cb]] W (CopR W F)) := fun W hW => copyOfF F _ W (hv0.out.below hW (Nat.le_refl _)) hB
  have hR1 : Hid (∀ w', chkF F ≠ 0 → Below w.heap.size w w' → NewP F tick w (.returned (.tuple #[.pointer none, .int .i64 (chkF F)])) w') := fun w' h1 h2 => .inl ⟨h1, rfl, h2⟩
  have hR2 : Hid (∀ V0 gr gt sv rv go gp gs ct Pf Sf P1 P2 lv w', FlOk F → Below w.heap.size w V0 → (w.heap.size ≤ go ∧ w.heap.size ≤ gp ∧ w.heap.size ≤ gs ∧ TwP w.heap.size V0 sv P1 ∧ TwS w.heap.size V0 rv P2) → RnX V0 F gr gt sv rv go gp gs ct Pf Sf P1 P2 lv (newR F.steps.length tick) w' → NewP F tick w (.returned (.tuple #[.pointer (some ⟨gr, 0, none⟩), .int .i64 0])) w') := fun V0 gr gt sv rv go gp gs ct Pf Sf P1 P2 lv w' h1 h2 h3 h4 => .inr ⟨h1, V0, gr, gt, sv, rv, go, gp, gs, ct, Pf, Sf, P1, P2, lv, rfl, h2, h3, h4⟩
  generalize NewP F tick w = QQ at *
  clear hs hr hv0 ht
  have D1 := hide' (heap_alloc_new w (.cells #[.string F.name, .slice oa F.steps.length cap, .slice ob F.rules.length cb] 25))
  have B0 : Hid (Below w.heap.size w (w.alloc (.cells #[.string F.name, .slice oa F.steps.length cap, .slice ob F.rules.length cb] 25))) := (Below.refl _ w).alloc (Nat.le_refl _) _
  go_enter Tryz.func46, Tryz.ntmps46
  go_wp2_with fail
  generalize w.alloc (.cells #[.string F.name, .slice oa F.steps.length cap, .slice ob F.rules.length cb] 25) = W1 at *
  have hKb : Hid (∀ W, Below W1.heap.size W1 W → Below w.heap.size w W ∧ W.cell? ⟨w.heap.size, 0, none⟩ = some (.string F.name) ∧ W.cell? ⟨w.heap.size, 1, none⟩ = some (.slice oa F.steps.length cap) ∧ W.cell? ⟨w.heap.size, 2, none⟩ = some (.slice ob F.rules.length cb)) := fun W hW => by
    have e1 := (hW.block _ (Array.getElem?_eq_some_iff.1 D1.out).1).trans D1.out
    exact ⟨B0.out.trans (hW.mono B0.out.size), by simp [World.cell?, e1], by simp [World.cell?, e1], by simp [World.cell?, e1]⟩
  clear D1
  refine (K0.out _ B0.out).mono ?_
  rintro e w2 ⟨hb2, hO⟩
  have hB2 := hide' (hKb.out w2 hb2).1
  have hb2' := hide' hb2
  rcases hO with ⟨h0, rfl⟩ | ⟨ok, go, gp, gs, Pf, Sf, rfl, ⟨q1, q2, q3⟩, q6, q7⟩
  · have hF := hide' (hR1.out w2 h0 hB2.out)
    generalize chkF F = z at *
    have h0' : (z == 0) = false := by rw [beq_eq_false_iff_ne]; exact h0
    clear hR1 hR2 KC K0 hKb h0 hb2 hb2' hB2 B0
    go_wp2
    exact hF.out
  · have hok := hide' ok
    have hog : Hid (w.heap.size ≤ go ∧ w.heap.size ≤ gp ∧ w.heap.size ≤ gs) := ⟨Nat.le_trans B0.out.size q1, Nat.le_trans B0.out.size q2, Nat.le_trans B0.out.size q3⟩
    have hord := hide' q6
    have hwrd := hide' q7
    have hn1 : 1 ≤ F.steps.length := by have := ok.ne; omega
    have hn12 := ok.le
    clear hR1 K0 ok q1 q2 q3 q6 q7 hb2 B0
    go_upto_region 4 with fail
    go_cut [8] from 17 to 27 (fun pv wx => ∃ V0 gr gt o1 n1 c1 o2 n2 c2 P1 P2 gx, pv = .pointer (some ⟨gr, 0, none⟩) ∧ Hid (V0.heap.size ≤ gr) ∧ Hid (P1.map Prod.fst = F.steps) ∧ Hid (P2.map Prod.fst = F.rules) ∧ Hid (Nw0 w F (.slice none 0 0) (.slice o1 n1 c1) (.slice o2 n2 c2) go gp gs Pf Sf P1 P2 gx V0) ∧ Hid (Below V0.heap.size V0 wx) ∧ Hid (RnAt wx V0.heap.size gr gt F.name (.slice o1 n1 c1) (.slice o2 n2 c2) go F.steps.length (.slice none 0 0) ⟨List.replicate F.steps.length ⟨0, -1, 0, 0⟩, 0, []⟩))
    case first =>
      clear hR2 hok hwrd
      have hSd := hide' (hKb.out w2.drew (hb2'.out.trans ((Below.refl _ _).drew.mono hb2'.out.size)))
      refine wp_region_held_drew (S := (fun V => Below w.heap.size w V ∧ V.cell? ⟨w.heap.size, 0, none⟩ = some (.string F.name) ∧ V.cell? ⟨w.heap.size, 1, none⟩ = some (.slice oa F.steps.length cap) ∧ V.cell? ⟨w.heap.size, 2, none⟩ = some (.slice ob F.rules.length cb))) (by kernel_rfl) ?_ (fun hHeld => ?_)
      · exact hSd.out
      refine wpAnyH_take (i := 0) (oi := { dst := some 17, op := Op.load 25 (Operand.tmp 2), type := 25, pos := "run.go:27", after := #[], guard := none }) (v := ?_) rfl (by kernel_rfl) (by kernel_rfl) (by kernel_rfl) (fun _ _ _ h => h) (Or.inl ⟨by rfl, ?_⟩) (by assumption) ?_
      rotate_left
      · intro w hSw; (try dsimp only at hSw); go_simp <;> with_reducible rfl
      simp only [Act.put, List.setIfInBounds_toArray, List.set_cons_zero, List.set_cons_succ]
      refine wpAnyH_take (i := 2) (oi := { dst := some 19, op := Op.move (Operand.tmp 6), type := 104, pos := "run.go:27", after := #[], guard := none }) (v := ?_) rfl (by kernel_rfl) (by kernel_rfl) (by kernel_rfl) (fun _ _ _ h => h) (Or.inl ⟨by rfl, ?_⟩) (by assumption) ?_
      rotate_left
      · intro w hSw; (try dsimp only at hSw); go_simp <;> with_reducible rfl
      simp only [Act.put, List.setIfInBounds_toArray, List.set_cons_zero, List.set_cons_succ]
      refine wpAnyH_take (i := 3) (oi := { dst := some 20, op := Op.build 42 #[(0, Operand.const (Value.int IntKind.i64 0)), (1, Operand.const (Value.int IntKind.i64 (-1)))], type := 42, pos := "run.go:27", after := #[], guard := none }) (v := ?_) rfl (by kernel_rfl) (by kernel_rfl) (by kernel_rfl) (fun _ _ _ h => h) (Or.inl ⟨by rfl, ?_⟩) (by assumption) ?_
      rotate_left
      · intro w hSw; (try dsimp only at hSw); go_simp <;> with_reducible rfl
      simp only [Act.put, List.setIfInBounds_toArray, List.set_cons_zero, List.set_cons_succ]
      refine wpAnyH_take (i := 5) (oi := { dst := some 22, op := Op.fieldAddr 25 (Operand.tmp 2) 1, type := 0, pos := "run.go:27", after := #[], guard := none }) (v := ?_) rfl (by kernel_rfl) (by kernel_rfl) (by kernel_rfl) (fun _ _ _ h => h) (Or.inl ⟨by rfl, ?_⟩) (by assumption) ?_
      rotate_left
      · intro w hSw; (try dsimp only at hSw); go_simp <;> with_reducible rfl
      simp only [Act.put, List.setIfInBounds_toArray, List.set_cons_zero, List.set_cons_succ]
      refine wpAnyH_take (i := 6) (oi := { dst := some 23, op := Op.load 22 (Operand.tmp 22), type := 22, pos := "run.go:27", after := #[{ on := 5, ground := Ground.data }], guard := none }) (v := ?_) rfl (by kernel_rfl) (by kernel_rfl) (by kernel_rfl) (fun _ _ _ h => h) (Or.inl ⟨by rfl, ?_⟩) (by assumption) ?_
      rotate_left
      · intro w hSw; (try dsimp only at hSw); go_simp <;> with_reducible rfl
      simp only [Act.put, List.setIfInBounds_toArray, List.set_cons_zero, List.set_cons_succ]
      refine wpAnyH_take (i := 7) (oi := { dst := some 24, op := Op.call { callee := Callee.builtin Builtin.len, args := #[Operand.tmp 23], argTypes := #[22] }, type := 3, pos := "run.go:27", after := #[{ on := 6, ground := Ground.data }], guard := none }) (v := ?_) rfl (by kernel_rfl) (by kernel_rfl) (by kernel_rfl) (fun _ _ _ h => h) (Or.inl ⟨by rfl, ?_⟩) (by assumption) ?_
      rotate_left
      · intro w hSw; (try dsimp only at hSw); go_simp <;> with_reducible rfl
      simp only [Act.put, List.setIfInBounds_toArray, List.set_cons_zero, List.set_cons_succ]
      refine wpAnyH_ready (rs := [1, 4]) (by kernel_rfl) (by simp) ?_
      refine AllReadyH.cons (o := { dst := some 18, op := Op.call { callee := Callee.value (Operand.func 60), args := #[Operand.tmp 17], argTypes := #[25] }, type := 25, pos := "run.go:28", after := #[{ on := 0, ground := Ground.data }], guard := none }) rfl (fun K hK => ?_) ?_
      · skip
        go_simp
        refine (KC.out _ hSd.out.1).mono ?_; rintro e w3 ⟨sv, rv, P1, P2, rfl, hm1, hm2, ht1, ht2, hb3⟩; obtain ⟨o1, n1, c1, rfl⟩ := ht1.shp; obtain ⟨o2, n2, c2, rfl⟩ := ht2.shp; have hb3' : Hid (Below W1.heap.size W1 w3) := hb2'.out.trans (((Below.refl _ w2).drew.trans hb3).mono hb2'.out.size); have hSw := hide' (hKb.out w3 hb3'.out); have hN : Hid (Nw0 w F (.slice none 0 0) (.slice o1 n1 c1) (.slice o2 n2 c2) go gp gs Pf Sf P1 P2 w3.heap.size (w3.alloc (.cells #[.int .i64 0, .int .i64 (-1), .int .i64 0, .int .i64 0] 42))) := ⟨hSw.out.1.alloc hSw.out.1.size _, hog.out, ((hord.out.over (Below.refl _ w2).drew).over hb3).over ((Below.refl _ w3).alloc (Nat.le_refl _) _), (ht1.down hB2.out.size).over ((Below.refl _ w3).alloc (Nat.le_refl _) _), (ht2.down hB2.out.size).over ((Below.refl _ w3).alloc (Nat.le_refl _) _), heap_alloc_new w3 _⟩; have hWx : Hid (Below W1.heap.size W1 (w3.alloc (.cells #[.int .i64 0, .int .i64 (-1), .int .i64 0, .int .i64 0] 42))) := hb3'.out.alloc hb3'.out.size _; have hSx := hide' (hKb.out _ hWx.out); have hm1' := hide' hm1; have hm2' := hide' hm2; clear hm1 hm2 ht1 ht2 hb3; (try dsimp only)
        refine hK.out _ _ ?_ (fun hHeld => ?_)
        · exact hSw.out
        clear hK K
        try simp only [Act.put, List.setIfInBounds_toArray, List.set_cons_zero, List.set_cons_succ]
        refine wpAnyH_ready (rs := [4]) (by kernel_rfl) (by simp) ?_
        refine AllReadyH.cons (o := { dst := some 21, op := Op.buildSlice 38 1 #[(0, Operand.tmp 20)], type := 38, pos := "run.go:27", after := #[{ on := 3, ground := Ground.data }], guard := none }) rfl (fun K hK => ?_) AllReadyH.nil
        go_simp
        refine hK.out _ _ ?_ (fun hHeld => ?_)
        · exact hSx.out
        clear hK K
        try simp only [Act.put, List.setIfInBounds_toArray, List.set_cons_zero, List.set_cons_succ]
        refine wpAnyH_ready (rs := [8]) (by kernel_rfl) (by simp) ?_
        refine AllReadyH.cons (o := { dst := some 25, op := Op.call { callee := Callee.value (Operand.func 78), args := #[Operand.tmp 21, Operand.tmp 24], argTypes := #[38, 3] }, type := 38, pos := "run.go:30", after := #[{ on := 4, ground := Ground.data }, { on := 7, ground := Ground.data }, { on := 1, ground := Ground.chain }], guard := none }) rfl (fun K hK => ?_) AllReadyH.nil
        go_simp
        refine (repeatF w3.heap.size ⟨0, -1, 0, 0⟩ F.steps.length hn1 hn12 _ hN.out.cells).mono ?_; rintro e w4 ⟨gt, rfl, hr4, hb4⟩; have hb4' := hide' hb4; have hK4 : Hid (∀ V, Below w4.heap.size w4 V → Below w.heap.size w V ∧ V.cell? ⟨w.heap.size, 0, none⟩ = some (.string F.name) ∧ V.cell? ⟨w.heap.size, 1, none⟩ = some (.slice oa F.steps.length cap) ∧ V.cell? ⟨w.heap.size, 2, none⟩ = some (.slice ob F.rules.length cb)) := fun V hV => hKb.out V ((hWx.out.trans (hb4'.out.mono hWx.out.size)).trans (hV.mono (hWx.out.trans (hb4'.out.mono hWx.out.size)).size)); have hr4' := hide' hr4; clear hr4 hb4; (try dsimp only)
        refine hK.out _ _ ?_ (fun hHeld => ?_)
        · exact hK4.out _ (Below.refl _ _)
        clear hK K
        try simp only [Act.put, List.setIfInBounds_toArray, List.set_cons_zero, List.set_cons_succ]
        refine wpAnyH_take (i := 9) (oi := { dst := some 26, op := Op.build 106 #[(0, Operand.tmp 18), (1, Operand.tmp 19), (2, Operand.tmp 25)], type := 106, pos := "run.go:27", after := #[{ on := 1, ground := Ground.data }, { on := 2, ground := Ground.data }, { on := 8, ground := Ground.data }], guard := none }) (v := ?_) rfl (by kernel_rfl) (by kernel_rfl) (by kernel_rfl) (fun _ _ _ h => h) (Or.inl ⟨by rfl, ?_⟩) (by assumption) ?_
        rotate_left
        · intro w hSw; (try dsimp only at hSw); go_simp <;> with_reducible rfl
        simp only [Act.put, List.setIfInBounds_toArray, List.set_cons_zero, List.set_cons_succ]
        refine wpAnyH_ready (rs := [10]) (by kernel_rfl) (by simp) ?_
        refine AllReadyH.cons (o := { dst := some 27, op := Op.box 106 (Operand.tmp 26), type := 29, pos := "run.go:27", after := #[{ on := 9, ground := Ground.data }], guard := none }) rfl (fun K hK => ?_) AllReadyH.nil
        go_simp
        refine hK.out _ _ ?_ (fun hHeld => ?_)
        · exact hK4.out _ ((Below.refl _ _).alloc (Nat.le_refl _) _)
        clear hK K
        try simp only [Act.put, List.setIfInBounds_toArray, List.set_cons_zero, List.set_cons_succ]
        refine wpAnyH_take (i := 11) (oi := { dst := some 8, op := Op.assign (Operand.tmp 27), type := 29, pos := "run.go:27", after := #[{ on := 10, ground := Ground.data }, { on := 8, ground := Ground.chain }, { on := 0, ground := Ground.phase }, { on := 1, ground := Ground.phase }, { on := 2, ground := Ground.phase }, { on := 3, ground := Ground.phase }, { on := 4, ground := Ground.phase }, { on := 5, ground := Ground.phase }, { on := 6, ground := Ground.phase }, { on := 7, ground := Ground.phase }, { on := 8, ground := Ground.phase }, { on := 9, ground := Ground.phase }, { on := 10, ground := Ground.phase }], guard := none }) (v := ?_) rfl (by kernel_rfl) (by kernel_rfl) (by kernel_rfl) (fun _ _ _ h => h) (Or.inl ⟨by rfl, ?_⟩) (by assumption) ?_
        rotate_left
        · intro w hSw; (try dsimp only at hSw); go_simp <;> with_reducible rfl
        simp only [Act.put, List.setIfInBounds_toArray, List.set_cons_zero, List.set_cons_succ]
        refine wpAnyH_done (by kernel_rfl) ?_ _
        skip
        have hbl : Hid (Below (w3.alloc (.cells #[.int .i64 0, .int .i64 (-1), .int .i64 0, .int .i64 0] 42)).heap.size (w3.alloc (.cells #[.int .i64 0, .int .i64 (-1), .int .i64 0, .int .i64 0] 42)) (w4.alloc (.cells #[.string F.name, .slice o1 n1 c1, .slice o2 n2 c2, .pointer (some ⟨go, 0, none⟩), .slice (some ⟨gt, 0, none⟩) F.steps.length F.steps.length, .int .i64 0, .slice none 0 0] 106))) := hb4'.out.alloc hb4'.out.size _
        have hrn : Hid (RnAt (w4.alloc (.cells #[.string F.name, .slice o1 n1 c1, .slice o2 n2 c2, .pointer (some ⟨go, 0, none⟩), .slice (some ⟨gt, 0, none⟩) F.steps.length F.steps.length, .int .i64 0, .slice none 0 0] 106)) (w3.alloc (.cells #[.int .i64 0, .int .i64 (-1), .int .i64 0, .int .i64 0] 42)).heap.size w4.heap.size gt F.name (.slice o1 n1 c1) (.slice o2 n2 c2) go F.steps.length (.slice none 0 0) ⟨List.replicate F.steps.length ⟨0, -1, 0, 0⟩, 0, []⟩) := ⟨by simp only [List.length_replicate]; exact heap_alloc_new w4 _, by simp only [List.length_replicate]; exact hr4'.out.alloc _, World.ownsRow_nil _ _ _ _⟩
        have hge := hide' hb4'.out.size
        clear hr4' hb4' hK4 hWx hSw hKb hHeld hSd KC
        go_wp2
        go_meet
        exact ⟨(w3.alloc (.cells #[.int .i64 0, .int .i64 (-1), .int .i64 0, .int .i64 0] 42)), _, gt, o1, n1, c1, o2, n2, c2, P1, P2, w3.heap.size, rfl, hge, hm1', hm2', hN, hbl, hrn⟩
      refine AllReadyH.cons (o := { dst := some 21, op := Op.buildSlice 38 1 #[(0, Operand.tmp 20)], type := 38, pos := "run.go:27", after := #[{ on := 3, ground := Ground.data }], guard := none }) rfl (fun K hK => ?_) AllReadyH.nil
      go_simp
      have hXb : Hid (Below W1.heap.size W1 (w2.alloc (.cells #[.int .i64 0, .int .i64 (-1), .int .i64 0, .int .i64 0] 42)).drew) := (hb2'.out.alloc hb2'.out.size _).drew; have hXw := hide' (hKb.out _ hXb.out).1; have hSx := hide' (hKb.out _ hXb.out)
      refine hK.out _ _ ?_ (fun hHeld => ?_)
      · exact hSx.out
      clear hK K
      try simp only [Act.put, List.setIfInBounds_toArray, List.set_cons_zero, List.set_cons_succ]
      refine wpAnyH_ready (rs := [1]) (by kernel_rfl) (by simp) ?_
      refine AllReadyH.cons (o := { dst := some 18, op := Op.call { callee := Callee.value (Operand.func 60), args := #[Operand.tmp 17], argTypes := #[25] }, type := 25, pos := "run.go:28", after := #[{ on := 0, ground := Ground.data }], guard := none }) rfl (fun K hK => ?_) AllReadyH.nil
      go_simp
      refine (KC.out _ hXw.out).mono ?_; rintro e w3 ⟨sv, rv, P1, P2, rfl, hm1, hm2, ht1, ht2, hb3⟩; obtain ⟨o1, n1, c1, rfl⟩ := ht1.shp; obtain ⟨o2, n2, c2, rfl⟩ := ht2.shp; have hSw := hide' (hKb.out w3 (hXb.out.trans (hb3.mono hXb.out.size))); have hN : Hid (Nw0 w F (.slice none 0 0) (.slice o1 n1 c1) (.slice o2 n2 c2) go gp gs Pf Sf P1 P2 w2.heap.size w3) := ⟨hSw.out.1, hog.out, (hord.out.over (((Below.refl _ w2).alloc (Nat.le_refl _) (.cells #[.int .i64 0, .int .i64 (-1), .int .i64 0, .int .i64 0] 42)).drew)).over hb3, ht1.down hXw.out.size, ht2.down hXw.out.size, (hb3.block w2.heap.size (show w2.heap.size < (w2.alloc (.cells #[.int .i64 0, .int .i64 (-1), .int .i64 0, .int .i64 0] 42)).heap.size by simp)).trans (heap_alloc_new w2 _)⟩; have hWx : Hid (Below W1.heap.size W1 w3) := hXb.out.trans (hb3.mono hXb.out.size); have hm1' := hide' hm1; have hm2' := hide' hm2; clear hm1 hm2 ht1 ht2 hb3; (try dsimp only)
      refine hK.out _ _ ?_ (fun hHeld => ?_)
      · exact hSw.out
      clear hK K
      try simp only [Act.put, List.setIfInBounds_toArray, List.set_cons_zero, List.set_cons_succ]
      refine wpAnyH_ready (rs := [8]) (by kernel_rfl) (by simp) ?_
      refine AllReadyH.cons (o := { dst := some 25, op := Op.call { callee := Callee.value (Operand.func 78), args := #[Operand.tmp 21, Operand.tmp 24], argTypes := #[38, 3] }, type := 38, pos := "run.go:30", after := #[{ on := 4, ground := Ground.data }, { on := 7, ground := Ground.data }, { on := 1, ground := Ground.chain }], guard := none }) rfl (fun K hK => ?_) AllReadyH.nil
      go_simp
      refine (repeatF w2.heap.size ⟨0, -1, 0, 0⟩ F.steps.length hn1 hn12 _ hN.out.cells).mono ?_; rintro e w4 ⟨gt, rfl, hr4, hb4⟩; have hb4' := hide' hb4; have hK4 : Hid (∀ V, Below w4.heap.size w4 V → Below w.heap.size w V ∧ V.cell? ⟨w.heap.size, 0, none⟩ = some (.string F.name) ∧ V.cell? ⟨w.heap.size, 1, none⟩ = some (.slice oa F.steps.length cap) ∧ V.cell? ⟨w.heap.size, 2, none⟩ = some (.slice ob F.rules.length cb)) := fun V hV => hKb.out V ((hWx.out.trans (hb4'.out.mono hWx.out.size)).trans (hV.mono (hWx.out.trans (hb4'.out.mono hWx.out.size)).size)); have hr4' := hide' hr4; clear hr4 hb4; (try dsimp only)
      refine hK.out _ _ ?_ (fun hHeld => ?_)
      · exact hK4.out _ (Below.refl _ _)
      clear hK K
      try simp only [Act.put, List.setIfInBounds_toArray, List.set_cons_zero, List.set_cons_succ]
      refine wpAnyH_take (i := 9) (oi := { dst := some 26, op := Op.build 106 #[(0, Operand.tmp 18), (1, Operand.tmp 19), (2, Operand.tmp 25)], type := 106, pos := "run.go:27", after := #[{ on := 1, ground := Ground.data }, { on := 2, ground := Ground.data }, { on := 8, ground := Ground.data }], guard := none }) (v := ?_) rfl (by kernel_rfl) (by kernel_rfl) (by kernel_rfl) (fun _ _ _ h => h) (Or.inl ⟨by rfl, ?_⟩) (by assumption) ?_
      rotate_left
      · intro w hSw; (try dsimp only at hSw); go_simp <;> with_reducible rfl
      simp only [Act.put, List.setIfInBounds_toArray, List.set_cons_zero, List.set_cons_succ]
      refine wpAnyH_ready (rs := [10]) (by kernel_rfl) (by simp) ?_
      refine AllReadyH.cons (o := { dst := some 27, op := Op.box 106 (Operand.tmp 26), type := 29, pos := "run.go:27", after := #[{ on := 9, ground := Ground.data }], guard := none }) rfl (fun K hK => ?_) AllReadyH.nil
      go_simp
      refine hK.out _ _ ?_ (fun hHeld => ?_)
      · exact hK4.out _ ((Below.refl _ _).alloc (Nat.le_refl _) _)
      clear hK K
      try simp only [Act.put, List.setIfInBounds_toArray, List.set_cons_zero, List.set_cons_succ]
      refine wpAnyH_take (i := 11) (oi := { dst := some 8, op := Op.assign (Operand.tmp 27), type := 29, pos := "run.go:27", after := #[{ on := 10, ground := Ground.data }, { on := 8, ground := Ground.chain }, { on := 0, ground := Ground.phase }, { on := 1, ground := Ground.phase }, { on := 2, ground := Ground.phase }, { on := 3, ground := Ground.phase }, { on := 4, ground := Ground.phase }, { on := 5, ground := Ground.phase }, { on := 6, ground := Ground.phase }, { on := 7, ground := Ground.phase }, { on := 8, ground := Ground.phase }, { on := 9, ground := Ground.phase }, { on := 10, ground := Ground.phase }], guard := none }) (v := ?_) rfl (by kernel_rfl) (by kernel_rfl) (by kernel_rfl) (fun _ _ _ h => h) (Or.inl ⟨by rfl, ?_⟩) (by assumption) ?_
      rotate_left
      · intro w hSw; (try dsimp only at hSw); go_simp <;> with_reducible rfl
      simp only [Act.put, List.setIfInBounds_toArray, List.set_cons_zero, List.set_cons_succ]
      refine wpAnyH_done (by kernel_rfl) ?_ _
      skip
      have hbl : Hid (Below w3.heap.size w3 (w4.alloc (.cells #[.string F.name, .slice o1 n1 c1, .slice o2 n2 c2, .pointer (some ⟨go, 0, none⟩), .slice (some ⟨gt, 0, none⟩) F.steps.length F.steps.length, .int .i64 0, .slice none 0 0] 106))) := hb4'.out.alloc hb4'.out.size _
      have hrn : Hid (RnAt (w4.alloc (.cells #[.string F.name, .slice o1 n1 c1, .slice o2 n2 c2, .pointer (some ⟨go, 0, none⟩), .slice (some ⟨gt, 0, none⟩) F.steps.length F.steps.length, .int .i64 0, .slice none 0 0] 106)) w3.heap.size w4.heap.size gt F.name (.slice o1 n1 c1) (.slice o2 n2 c2) go F.steps.length (.slice none 0 0) ⟨List.replicate F.steps.length ⟨0, -1, 0, 0⟩, 0, []⟩) := ⟨by simp only [List.length_replicate]; exact heap_alloc_new w4 _, by simp only [List.length_replicate]; exact hr4'.out.alloc _, World.ownsRow_nil _ _ _ _⟩
      have hge := hide' hb4'.out.size
      clear hr4' hb4' hK4 hWx hSw hKb hHeld hSd KC
      go_wp2
      go_meet
      exact ⟨w3, _, gt, o1, n1, c1, o2, n2, c2, P1, P2, w2.heap.size, rfl, hge, hm1', hm2', hN, hbl, hrn⟩
    case rest =>
    clear KC hKb hord hb2' hB2
    obtain ⟨V0, gr, gt, o1, n1, c1, o2, n2, c2, P1, P2, gx, rfl, hge, hm1, hm2, h0, hbl, hrn⟩ := hcut
    have KO := hide' (ofNoStepF 1 tick wc)
    have KA : Hid (∀ W, Below wc.heap.size wc W → Calls Tryz.prog 68 #[.pointer (some ⟨gr, 0, none⟩), .agg #[.int .i64 tick, .int .i64 1, .int .i64 (-1), .int .i64 (-1)]] W (HapR W V0.heap.size gr gt F.name (.slice o1 n1 c1) (.slice o2 n2 c2) go F.steps.length (.slice none 0 0) (newR F.steps.length tick))) := fun W hW => hapF (hrn.out.over hW) ⟨tick, 1, -1, -1⟩ _ (.inl ⟨.inl rfl, rfl⟩) (by simp) (Nat.le_trans hbl.out.size hW.size) (by simp; omega)
    go_wp2_with fail
    refine KO.out.mono ?_
    rintro e w5 ⟨rfl, hb5⟩
    go_wp2_with fail
    refine (KA.out _ hb5).mono ?_
    rintro e w6 ⟨rfl, lv, hr6, hf6, hn6⟩
    have hbl5 := hide' (hbl.out.trans (hb5.mono hbl.out.size))
    have hbl6 := hide' (hbl5.out.trans (hf6.below hbl5.out.size hge.out hrn.out.gt_ge (fun g hg => by cases hg)))
    have hF := hide' (hR2.out V0 gr gt _ _ go gp gs F.steps.length Pf Sf P1 P2 lv w6 hok.out h0.out.bl ⟨hog.out.1, hog.out.2.1, hog.out.2.2, h0.out.t1, h0.out.t2⟩ ⟨hr6, hge.out, hbl6.out, h0.out.ord, hwrd.out, by simp [newR], h0.out.t1.down (Nat.zero_le _), h0.out.t2.down (Nat.zero_le _), hm1.out, hm2.out⟩)
    clear KO KA hR2 hok hog hwrd h0 hbl hrn hr6 hf6 hn6 hb5 hbl5 hbl6 hm1 hm2 hge
    go_wp2
    exact hF.out
end Go.Proofs.YtahfobbiaimoiaaGreatDoor
namespace Go.Proofs.YtahfobbiaimoiaaGreatDoor
open Go.RowKit
section
variable {V0 : World} {F : Fw} {gr gt : Nat} {sv rv : Value} {go gp gs ct : Nat} {Pf Sf : Nat → Nat} {P1 : List (Sp × Value)} {P2 : List (Rl × Value)} {lv : Value} {R : Rs} {W : World}
theorem RnX.over {W' : World} (h : RnX V0 F gr gt sv rv go gp gs ct Pf Sf P1 P2 lv R W) (hb : Below W.heap.size W W') : RnX V0 F gr gt sv rv go gp gs ct Pf Sf P1 P2 lv R W' := { h with run := h.run.over hb, bl := h.bl.trans (hb.mono h.bl.size) }
theorem RnX.ord' (h : RnX V0 F gr gt sv rv go gp gs ct Pf Sf P1 P2 lv R W) : O.OrdAt W go gp gs R.S.length Pf Sf := by rw [h.len]; exact h.ord.over h.bl
theorem RnX.pl (h : RnX V0 F gr gt sv rv go gp gs ct Pf Sf P1 P2 lv R W) : ∀ a, a < R.S.length → Pf a < 18446744073709551616 := fun a ha => h.wrd.pre_lt (by rw [← h.len]; exact ha)
theorem RnX.n64 (h : RnX V0 F gr gt sv rv go gp gs ct Pf Sf P1 P2 lv R W) : R.S.length ≤ 64 := by rw [h.len]; exact h.wrd.n64
theorem RnX.op {W' : World} {v : Value} {R' : Rs} {e : Ending} (h : RnX V0 F gr gt sv rv go gp gs ct Pf Sf P1 P2 lv R W) (ho : OpR W V0.heap.size gr gt F.name sv rv go ct lv v R' e W') (hl : R'.S.length = R.S.length) : e = .returned v ∧ ∃ lv', RnX V0 F gr gt sv rv go gp gs ct Pf Sf P1 P2 lv' R' W' := by
  obtain ⟨rfl, lv', h1, h2, h3⟩ := ho
  exact ⟨rfl, lv', { h with run := h1, bl := h.bl.trans (h2.below h.bl.size h.ge h.run.gt_ge fun g hg => own_ge' h.run.lg hg), len := hl.trans h.len }⟩
theorem clmR_len (Pf : Nat → Nat) (R : Rs) (step user tick : Int) : (clmR Pf R step user tick).S.length = R.S.length := by unfold clmR; split <;> simp [hapC]
theorem donR_len (R : Rs) (step user tick : Int) : (donR R step user tick).S.length = R.S.length := by unfold donR; split <;> simp [hapD_S, dnS]
theorem aboR_len (R : Rs) (tick : Int) : (aboR R tick).S.length = R.S.length := by unfold aboR; split <;> rfl
theorem mrkR_len (R : Rs) (b : Bool) (tick : Int) : (mrkR R b tick).S.length = R.S.length := by unfold mrkR; split <;> rfl
theorem clmR_log (Pf : Nat → Nat) (R : Rs) (step user tick : Int) : (clmR Pf R step user tick).log.length ≤ R.log.length + 2 := by unfold clmR; split <;> simp [hapC]
theorem donR_log (R : Rs) (step user tick : Int) : (donR R step user tick).log.length ≤ R.log.length + 2 := by unfold donR hapD; split <;> (try split) <;> simp
theorem aboR_log (R : Rs) (tick : Int) : (aboR R tick).log.length ≤ R.log.length + 2 := by unfold aboR; split <;> simp [hapS]
theorem mrkR_log (R : Rs) (b : Bool) (tick : Int) : (mrkR R b tick).log.length ≤ R.log.length + 2 := by unfold mrkR; split <;> simp [hapS]
theorem RnX.readyC (h : RnX V0 F gr gt sv rv go gp gs ct Pf Sf P1 P2 lv R W) (ht : O.Tab W) : Calls Tryz.prog 17 #[.pointer (some ⟨gr, 0, none⟩)] W fun e w' => e = .returned (.int .u64 (rdyR R.S.length Pf R : Nat)) ∧ Below W.heap.size W w' := readyF h.run h.ord' h.n64 h.pl ht
theorem RnX.claimC (h : RnX V0 F gr gt sv rv go gp gs ct Pf Sf P1 P2 lv R W) (hl : R.log.length ≤ 100000) (step user tick : Int) : Calls Tryz.prog 34 #[.pointer (some ⟨gr, 0, none⟩), .int .i64 step, .int .i64 user, .int .i64 tick] W fun e w' => e = .returned (.int .i64 (canC Pf R step)) ∧ ∃ lv', RnX V0 F gr gt sv rv go gp gs ct Pf Sf P1 P2 lv' (clmR Pf R step user tick) w' := (claimF h.run h.ord' h.n64 h.pl hl h.bl.size step user tick).mono fun _ _ ho => h.op ho (clmR_len _ _ _ _ _)
theorem RnX.doneC (h : RnX V0 F gr gt sv rv go gp gs ct Pf Sf P1 P2 lv R W) (hl : R.log.length ≤ 100000) (step user tick : Int) : Calls Tryz.prog 35 #[.pointer (some ⟨gr, 0, none⟩), .int .i64 step, .int .i64 user, .int .i64 tick] W fun e w' => e = .returned (.int .i64 (canD R step user)) ∧ ∃ lv', RnX V0 F gr gt sv rv go gp gs ct Pf Sf P1 P2 lv' (donR R step user tick) w' := (doneF h.run h.n64 hl h.bl.size step user tick).mono fun _ _ ho => h.op ho (donR_len _ _ _ _)
theorem RnX.abortC (h : RnX V0 F gr gt sv rv go gp gs ct Pf Sf P1 P2 lv R W) (hl : R.log.length ≤ 100000) (tick : Int) : Calls Tryz.prog 66 #[.pointer (some ⟨gr, 0, none⟩), .int .i64 tick] W fun e w' => e = .returned (.int .i64 (if endd R = true then 30 else 0)) ∧ ∃ lv', RnX V0 F gr gt sv rv go gp gs ct Pf Sf P1 P2 lv' (aboR R tick) w' := (abortF h.run h.n64 hl h.bl.size tick).mono fun _ _ ho => h.op ho (aboR_len _ _)
theorem RnX.markC (h : RnX V0 F gr gt sv rv go gp gs ct Pf Sf P1 P2 lv R W) (hl : R.log.length ≤ 100000) (b : Bool) (tick : Int) : Calls Tryz.prog 36 #[.pointer (some ⟨gr, 0, none⟩), .bool b, .int .i64 tick] W fun e w' => e = .returned (.bool (mrkB R b)) ∧ ∃ lv', RnX V0 F gr gt sv rv go gp gs ct Pf Sf P1 P2 lv' (mrkR R b tick) w' := (markF h.run h.n64 hl h.bl.size b tick).mono fun _ _ ho => h.op ho (mrkR_len _ _ _)
end
end Go.Proofs.YtahfobbiaimoiaaGreatDoor
namespace Go.Proofs.YtahfobbiaimoiaaGreatDoor
open Go.RowKit
def SW : List Sp := [⟨⟨#[97, 115, 107]⟩, ⟨#[97, 115, 107]⟩, []⟩, ⟨⟨#[115, 105, 103, 110]⟩, ⟨#[97, 112, 112, 114, 111, 118, 101]⟩, [0]⟩]
def FW : Fw := ⟨⟨#[112, 97, 121]⟩, SW, []⟩
theorem prsW : prs SW = [(0, 1)] := rfl
theorem ordW : ∀ a b : Fin 2, O.ordL 2 [(0, 1)] a.val b.val = decide (a.val < b.val) := by decide
theorem okW : FlOk FW where
  nm := by decide +kernel
  le := by decide
  ne := by decide
  st := by decide +kernel
  rl := by decide
  ru := rfl
  cy := by
    rintro ⟨a, ha, h⟩
    have h' : O.ordL 2 [(0, 1)] a a = true := h
    rw [ordW ⟨a, ha⟩ ⟨a, ha⟩] at h'
    simp at h'
theorem flbW : FlB FW := ⟨by decide, by decide, by intro s hs; simp [FW, SW] at hs; rcases hs with rfl | rfl <;> decide, by decide, by intro r hr; cases hr⟩
section
variable {Pf Sf : Nat → Nat} (h : O.Ord 2 (O.ordL 2 (prs SW)) Pf Sf)
include h
theorem preW (b : Nat) (hb : b < 2) : Pf b = 2 ^ b - 1 := by
  apply Nat.eq_of_testBit_eq
  intro a
  rw [h.pre b hb, Nat.testBit_two_pow_sub_one]
  by_cases ha : a < 2
  · have := ordW ⟨a, ha⟩ ⟨b, hb⟩
    exact this
  · cases e : O.ordL 2 (prs SW) a b with
    | true => exact absurd (h.inn a b e).1 ha
    | false => simp; omega
theorem rdW0 : O.rdW 2 Pf 0 = 1 := by
  have hl : O.nums ((2 ^ 2 - 1) &&& (18446744073709551615 - 0)) = [0, 1] := by decide +kernel
  unfold O.rdW
  rw [hl]
  have e1 : O.rdF Pf 0 0 = 1 := by unfold O.rdF; rw [preW h 0 (by omega)]; decide +kernel
  have e2 : O.rdF Pf 0 1 = 0 := by unfold O.rdF; rw [preW h 1 (by omega)]; decide +kernel
  show (0 ||| O.rdF Pf 0 0) ||| O.rdF Pf 0 1 = 1
  rw [e1, e2]
  rfl
theorem rdW1 : O.rdW 2 Pf 1 = 2 := by
  have hl : O.nums ((2 ^ 2 - 1) &&& (18446744073709551615 - 1)) = [1] := by decide +kernel
  unfold O.rdW
  rw [hl]
  have e1 : O.rdF Pf 1 1 = 2 := by unfold O.rdF; rw [preW h 1 (by omega)]; decide +kernel
  show 0 ||| O.rdF Pf 1 1 = 2
  rw [e1]
  rfl
theorem wk1 : rdyR 2 Pf (newR 2 1) = 1 := by
  unfold rdyR
  rw [if_neg (by decide), show thz (newR 2 1).S 2 = 0 by decide +kernel, show thz (newR 2 1).S 0 = 3 by decide +kernel, rdW0 h]
  rfl
theorem wk2 : canC Pf (newR 2 1) 1 = 32 := by
  unfold canC
  rw [if_neg (by decide), if_neg (by decide), if_neg (by decide), show (1 : Int).toNat = 1 from rfl, show thz (newR 2 1).S 2 = 0 by decide +kernel, preW h 1 (by omega), if_pos (by decide)]
theorem wk3 : clmR Pf (newR 2 1) 1 7 2 = newR 2 1 := by unfold clmR; rw [wk2 h, if_neg (by decide)]
theorem wk4 : canC Pf (newR 2 1) 0 = 0 := by
  unfold canC
  rw [if_neg (by decide), if_neg (by decide), if_neg (by decide), show (0 : Int).toNat = 0 from rfl, show thz (newR 2 1).S 2 = 0 by decide +kernel, preW h 0 (by omega), if_neg (by decide)]
theorem wk5 : clmR Pf (newR 2 1) 0 7 2 = ⟨[⟨1, 7, 2, 0⟩, ⟨0, -1, 0, 0⟩], 1, [⟨1, 1, -1, -1⟩, ⟨2, 2, 0, 7⟩]⟩ := by unfold clmR; rw [wk4 h, if_pos rfl]; rfl
end
def RW2 : Rs := ⟨[⟨1, 7, 2, 0⟩, ⟨0, -1, 0, 0⟩], 1, [⟨1, 1, -1, -1⟩, ⟨2, 2, 0, 7⟩]⟩
def RW3 : Rs := ⟨[⟨2, 7, 2, 3⟩, ⟨0, -1, 0, 0⟩], 1, [⟨1, 1, -1, -1⟩, ⟨2, 2, 0, 7⟩, ⟨3, 3, 0, 7⟩]⟩
theorem wk6 : canD RW2 0 7 = 0 := by decide
theorem wk7 : donR RW2 0 7 3 = RW3 := by unfold donR; rw [wk6, if_pos rfl]; unfold hapD; rw [if_neg (by decide)]; rfl
theorem wk8 {Pf Sf : Nat → Nat} (h : O.Ord 2 (O.ordL 2 (prs SW)) Pf Sf) : rdyR 2 Pf RW3 = 2 := by
  unfold rdyR
  rw [if_neg (by decide), show thz RW3.S 2 = 1 by decide +kernel, show thz RW3.S 0 = 2 by decide +kernel, rdW1 h]
  rfl
end Go.Proofs.YtahfobbiaimoiaaGreatDoor
