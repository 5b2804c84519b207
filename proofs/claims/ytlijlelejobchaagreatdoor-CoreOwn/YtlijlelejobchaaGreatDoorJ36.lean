/- core.Without: its answer's rows are its own, no two in one block. -/
import Derived.Test.YtlijlelejobchaaGreatDoorJ34
import Derived.Test.YtlijlelejobchaaGreatDoorJ35
namespace Go.Proofs.YtlijlelejobchaaGreatDoor.S
open Go.RowKit Go.Shelf
def WtV (w : World) (X : Pb) (N : Nat) (e : Ending) (w' : World) : Prop :=
  ∃ o1 n1 c1 o2 n2 c2 o3 n3 c3, e = .returned (.tuple #[.agg #[.int .i64 X.users, .slice o1 n1 c1, .slice o2 n2 c2, .slice o3 n3 c3], .int .i64 (N : Int)]) ∧ Hid (PbV w' X (.slice o1 n1 c1) (.slice o2 n2 c2) (.slice o3 n3 c3)) ∧ Hid (Below w.heap.size w w') ∧ Hid (∀ ad n c, Value.slice o1 n1 c1 = .slice (some ad) n c → w.heap.size ≤ ad.block) ∧ Hid (FvO w w' X (.slice o1 n1 c1) (.slice o2 n2 c2) (.slice o3 n3 c3))
theorem fvo_nil (w W : World) : FvO w W ⟨0, [], [], []⟩ (.slice none 0 0) (.slice none 0 0) (.slice none 0 0) :=
  ⟨[], rfl, World.ownsRow_nil _ _ _ _, World.ownsRow_nil _ _ _ _, ⟨World.ownsRow_nil _ _ _ _, fun p hp => by cases hp⟩, (fun p hp => by cases hp), List.Pairwise.nil⟩
theorem FvO.pv {w W : World} {X : Pb} {va vb vc : Value} (h : FvO w W X va vb vc) : PbV W X va vb vc := by
  obtain ⟨E, h1, h2, h3, h4, _, _⟩ := h
  exact ⟨RowW.of_owns h2, RowI.of_owns h3, by rw [← h1]; exact h4.rowR⟩
theorem FvO.up {w w6 W : World} {X : Pb} {va vb vc : Value} (h : FvO w6 W X va vb vc) (hs : w.heap.size + 2 ≤ w6.heap.size) (x0 x1 x2 x3 : Value) : FvO w ((((W.setCell ⟨w.heap.size + 1, 0, none⟩ x0).setCell ⟨w.heap.size + 1, 1, none⟩ x1).setCell ⟨w.heap.size + 1, 2, none⟩ x2).setCell ⟨w.heap.size + 1, 3, none⟩ x3) X va vb vc := by
  obtain ⟨E, h1, h2, h3, h4, h5, h6⟩ := h
  have s4 : ∀ {e sz : Nat} {v : Value} {n : Nat} {xs : List Value}, W.ownsRow w6.heap.size e sz v n xs → ((((W.setCell ⟨w.heap.size + 1, 0, none⟩ x0).setCell ⟨w.heap.size + 1, 1, none⟩ x1).setCell ⟨w.heap.size + 1, 2, none⟩ x2).setCell ⟨w.heap.size + 1, 3, none⟩ x3).ownsRow w.heap.size e sz v n xs := fun h => own_down (own_set (own_set (own_set (own_set h (by omega) x0) (by omega) x1) (by omega) x2) (by omega) x3) (by omega)
  exact ⟨E, h1, s4 h2, s4 h3, ⟨s4 h4.row, fun p hp => s4 (h4.inner p hp)⟩, h5, h6⟩
set_option maxRecDepth 100000 in
set_option maxHeartbeats 4000000 in
theorem withoutV (P : Pb) (wv fv rv vr vs : Value) (R S : List Int) (w : World) (h : PbV w P wv fv rv) (hk : Pok P) (hR : RowI w vr R) (hS : RowI w vs S) (hRl : R.length ≤ 1000) (hSl : S.length ≤ 1000) :
    Calls Tryz.prog 21 #[pbV P wv fv rv, vr, vs] w (WtV w (wtP P R S) (wtN P R S)) := by
  have hX0 : Hid (Wx w P wv fv rv vr vs R S ((w.alloc (.cells #[.int .i64 P.users, wv, fv, rv] 26)).alloc (.cells #[.int .i64 0, .slice none 0 0, .slice none 0 0, .slice none 0 0] 26))) := ⟨Fp.start h, hR.below (Fp.start h).be (Nat.le_refl _), hS.below (Fp.start h).be (Nat.le_refl _)⟩
  have KC : Hid (∀ V, PbV V P wv fv rv → Calls Tryz.prog 13 #[pbV P wv fv rv] V fun e w' => e = .returned (.int .i64 (chkN P : Int)) ∧ Below V.heap.size V w') := fun V hV => checkPF P wv fv rv V hV hk.w hk.f hk.r hk.s hk.b
  have hs := h.shape
  have hk' := hide' hk
  obtain ⟨ow, cw, of, cf, or, cr, rfl, rfl, rfl⟩ := hs
  obtain ⟨oR, cR, rfl, _, _⟩ := hR
  obtain ⟨oS, cS, rfl, _, _⟩ := hS
  unfold pbV at KC ⊢
  have KB1 : Hid (∀ V, Wx w P (.slice ow P.who.length cw) (.slice of P.fixed.length cf) (.slice or P.rules.length cr) (.slice oR R.length cR) (.slice oS S.length cS) R S V → Calls Tryz.prog 51 #[.int .i64 (P.rules.length : Int), .slice oR R.length cR] V fun e w' => e = .returned (.bool (!R.any (outN P.rules.length))) ∧ Below V.heap.size V w') := fun V hV => allBelowF R _ _ V hV.r (by omega)
  have KB2 : Hid (∀ V, Wx w P (.slice ow P.who.length cw) (.slice of P.fixed.length cf) (.slice or P.rules.length cr) (.slice oR R.length cR) (.slice oS S.length cS) R S V → Calls Tryz.prog 51 #[.int .i64 (P.who.length : Int), .slice oS S.length cS] V fun e w' => e = .returned (.bool (!S.any (outN P.who.length))) ∧ Below V.heap.size V w') := fun V hV => allBelowF S _ _ V hV.s (by omega)
  have KA1 : Hid (∀ V, Wx w P (.slice ow P.who.length cw) (.slice of P.fixed.length cf) (.slice or P.rules.length cr) (.slice oR R.length cR) (.slice oS S.length cS) R S V → Calls Tryz.prog 52 #[.slice oR R.length cR] V fun e w' => ∃ g, e = .returned (.func (.func 80) #[] #[.pointer (some ⟨g, 0, none⟩)]) ∧ Hid (Chs w' 80 #[.pointer (some ⟨g, 0, none⟩)] (inC R)) ∧ Hid (Below V.heap.size V w')) := fun V hV => amongF R _ V hV.r (by omega)
  have KA2 : Hid (∀ V, Wx w P (.slice ow P.who.length cw) (.slice of P.fixed.length cf) (.slice or P.rules.length cr) (.slice oR R.length cR) (.slice oS S.length cS) R S V → Calls Tryz.prog 52 #[.slice oS S.length cS] V fun e w' => ∃ g, e = .returned (.func (.func 80) #[] #[.pointer (some ⟨g, 0, none⟩)]) ∧ Hid (Chs w' 80 #[.pointer (some ⟨g, 0, none⟩)] (inC S)) ∧ Hid (Below V.heap.size V w')) := fun V hV => amongF S _ V hV.s (by omega)
  have hrl : P.rules.length ≤ 1000 := hk.r
  have hwl : P.who.length ≤ 1000 := hk.w
  clear h hk
  go_enter Tryz.func21, Tryz.ntmps21
  have q0 := hX0.out.p.pb.c0
  have q1 := hX0.out.p.pb.c1
  have q2 := hX0.out.p.pb.c2
  have q3 := hX0.out.p.pb.c3
  go_wp2_with fail
  clear q0 q1 q2 q3
  generalize (w.alloc (.cells #[.int .i64 P.users, .slice ow P.who.length cw, .slice of P.fixed.length cf, .slice or P.rules.length cr] 26)).alloc (.cells #[.int .i64 0, .slice none 0 0, .slice none 0 0, .slice none 0 0] 26) = w1 at *
  refine (KC.out _ hX0.out.p.pv).mono ?_
  rintro e w2 ⟨rfl, hb2⟩
  have hX2 := hide' (hX0.out.over hb2)
  clear hX0 hb2 KC
  by_cases hC : chkN P = 0
  case neg =>
    as_aux_lemma =>
    have hP : WtE P R S (chkN P) := WtE.mk' (by unfold wtN; rw [if_neg hC]) hC
    have hne : ¬ ((chkN P : Nat) : Int) = 0 := by omega
    have hne2 : (((chkN P : Nat) : Int) != 0) = true := by rw [bne_iff_ne]; exact hne
    generalize chkN P = cc at *
    have f0 := hX2.out.p.z.frz 0
    have y0 := hX2.out.p.z.c0
    have f1 := (hX2.out.p.z.s0C 0).frz 1
    have y1 := (hX2.out.p.z.s0C 0).c1
    have f2 := ((hX2.out.p.z.s0C 0).s1 (.slice none 0 0)).frz 2
    have y2 := ((hX2.out.p.z.s0C 0).s1 (.slice none 0 0)).c2
    have f3 := (((hX2.out.p.z.s0C 0).s1 (.slice none 0 0)).s2 (.slice none 0 0)).frz 3
    have y3 := (((hX2.out.p.z.s0C 0).s1 (.slice none 0 0)).s2 (.slice none 0 0)).c3
    have x0 := ((((hX2.out.p.z.s0C 0).s1 (.slice none 0 0)).s2 (.slice none 0 0)).s3 (.slice none 0 0)).c0
    have x1 := ((((hX2.out.p.z.s0C 0).s1 (.slice none 0 0)).s2 (.slice none 0 0)).s3 (.slice none 0 0)).c1
    have x2 := ((((hX2.out.p.z.s0C 0).s1 (.slice none 0 0)).s2 (.slice none 0 0)).s3 (.slice none 0 0)).c2
    have x3 := ((((hX2.out.p.z.s0C 0).s1 (.slice none 0 0)).s2 (.slice none 0 0)).s3 (.slice none 0 0)).c3
    have hF := hide' (hX2.out.p.resC (.int .i64 0) (.slice none 0 0) (.slice none 0 0) (.slice none 0 0))
    clear hX2 hk' KB1 KB2 KA1 KA2
    go_wp2
    refine bodyPost_ret (v := .tuple #[.agg #[.int .i64 0, .slice none 0 0, .slice none 0 0, .slice none 0 0], .int .i64 (cc : Int)]) (by simp [results, Tryz.results21, go_sem, x0, x1, x2, x3]) rfl ?_
    unfold WtV
    rw [hP.n, hP.p]
    exact ⟨_, _, _, _, _, _, _, _, _, rfl, nil_pvC _, hF.out, fun ad n c e => (by cases e), fvo_nil _ _⟩
  have hne2 : (((chkN P : Nat) : Int) != 0) = false := by rw [hC]; rfl
  have hN : Hid (wtN P R S = if (R.any (outN P.rules.length) || S.any (outN P.who.length)) = true then 1 else 0) := by show _ = _; unfold wtN; rw [if_pos hC]
  obtain ⟨g12, g0, g64, g32, gF, gW, gR⟩ := chkN_zero hC
  have hfl := hide' ((fixB_of gF g64).1)
  have hun : Hid (0 ≤ P.users ∧ P.users ≤ 64) := ⟨g0, g64⟩
  clear g12 g0 g64 g32 gF gW gR hC
  generalize ((chkN P : Nat) : Int) = cc at *
  have q1 := hX2.out.p.pb.c1
  have q3 := hX2.out.p.pb.c3
  generalize hbR : R.any (outN P.rules.length) = bR at *
  generalize hbS : S.any (outN P.who.length) = bS at *
  clear hbR hbS
  by_cases hbad : (bR || bS) = true
  · rw [if_pos hbad] at hN
    have hP : WtE P R S 1 := WtE.mk' hN.out (by decide)
    clear KA1 KA2 hk' hfl hun hN
    cases bR
    · have hbs : bS = true := by simpa using hbad
      subst hbs
      as_aux_lemma =>
      go_wp2_with (first | (go_at_call 51; refine (KB2.out _ hX3.out).mono ?_; rintro e w4 ⟨rfl, hb4⟩; have hX4 := hide' (hX3.out.over hb4); have f0 := hX4.out.p.z.frz 0; have y0 := hX4.out.p.z.c0; have f1 := (hX4.out.p.z.s0C 0).frz 1; have y1 := (hX4.out.p.z.s0C 0).c1; have f2 := ((hX4.out.p.z.s0C 0).s1 (.slice none 0 0)).frz 2; have y2 := ((hX4.out.p.z.s0C 0).s1 (.slice none 0 0)).c2; have f3 := (((hX4.out.p.z.s0C 0).s1 (.slice none 0 0)).s2 (.slice none 0 0)).frz 3; have y3 := (((hX4.out.p.z.s0C 0).s1 (.slice none 0 0)).s2 (.slice none 0 0)).c3) | (go_at_call 51; refine (KB1.out _ hX2.out).mono ?_; rintro e w3 ⟨rfl, hb3⟩; have hX3 := hide' (hX2.out.over hb3); have q13 := hX3.out.p.pb.c1))
      have x0 := ((((hX4.out.p.z.s0C 0).s1 (.slice none 0 0)).s2 (.slice none 0 0)).s3 (.slice none 0 0)).c0
      have x1 := ((((hX4.out.p.z.s0C 0).s1 (.slice none 0 0)).s2 (.slice none 0 0)).s3 (.slice none 0 0)).c1
      have x2 := ((((hX4.out.p.z.s0C 0).s1 (.slice none 0 0)).s2 (.slice none 0 0)).s3 (.slice none 0 0)).c2
      have x3 := ((((hX4.out.p.z.s0C 0).s1 (.slice none 0 0)).s2 (.slice none 0 0)).s3 (.slice none 0 0)).c3
      refine bodyPost_ret (v := .tuple #[.agg #[.int .i64 0, .slice none 0 0, .slice none 0 0, .slice none 0 0], .int .i64 1]) (by simp [results, Tryz.results21, go_sem, x0, x1, x2, x3]) rfl ?_
      unfold WtV
      rw [hP.n, hP.p]
      exact ⟨_, _, _, _, _, _, _, _, _, rfl, nil_pvC _, hX4.out.p.resC _ _ _ _, fun ad n c e => (by cases e), fvo_nil _ _⟩
    · as_aux_lemma =>
      go_wp2_with (first | (go_at_call 51; refine (KB1.out _ hX2.out).mono ?_; rintro e w4 ⟨rfl, hb4⟩; have hX4 := hide' (hX2.out.over hb4); have f0 := hX4.out.p.z.frz 0; have y0 := hX4.out.p.z.c0; have f1 := (hX4.out.p.z.s0C 0).frz 1; have y1 := (hX4.out.p.z.s0C 0).c1; have f2 := ((hX4.out.p.z.s0C 0).s1 (.slice none 0 0)).frz 2; have y2 := ((hX4.out.p.z.s0C 0).s1 (.slice none 0 0)).c2; have f3 := (((hX4.out.p.z.s0C 0).s1 (.slice none 0 0)).s2 (.slice none 0 0)).frz 3; have y3 := (((hX4.out.p.z.s0C 0).s1 (.slice none 0 0)).s2 (.slice none 0 0)).c3))
      have x0 := ((((hX4.out.p.z.s0C 0).s1 (.slice none 0 0)).s2 (.slice none 0 0)).s3 (.slice none 0 0)).c0
      have x1 := ((((hX4.out.p.z.s0C 0).s1 (.slice none 0 0)).s2 (.slice none 0 0)).s3 (.slice none 0 0)).c1
      have x2 := ((((hX4.out.p.z.s0C 0).s1 (.slice none 0 0)).s2 (.slice none 0 0)).s3 (.slice none 0 0)).c2
      have x3 := ((((hX4.out.p.z.s0C 0).s1 (.slice none 0 0)).s2 (.slice none 0 0)).s3 (.slice none 0 0)).c3
      refine bodyPost_ret (v := .tuple #[.agg #[.int .i64 0, .slice none 0 0, .slice none 0 0, .slice none 0 0], .int .i64 1]) (by simp [results, Tryz.results21, go_sem, x0, x1, x2, x3]) rfl ?_
      unfold WtV
      rw [hP.n, hP.p]
      exact ⟨_, _, _, _, _, _, _, _, _, rfl, nil_pvC _, hX4.out.p.resC _ _ _ _, fun ad n c e => (by cases e), fvo_nil _ _⟩
  · rw [if_neg hbad] at hN
    have hbR : bR = false := by cases bR; rfl; exact absurd rfl hbad
    have hbS : bS = false := by cases bS; rfl; exact absurd (by simp) hbad
    subst hbR hbS
    have hP : Hid (wtP P R S = spP P (inC R) (inC S)) := by show _ = _; unfold wtP; rw [if_pos hN.out]
    have hNP : WtY P R S (spP P (inC R) (inC S)) := ⟨hN.out, hP.out⟩
    have KR : Hid (∀ V g1 g2, Wx w P (.slice ow P.who.length cw) (.slice of P.fixed.length cf) (.slice or P.rules.length cr) (.slice oR R.length cR) (.slice oS S.length cS) R S V → Chs V 80 #[.pointer (some ⟨g1, 0, none⟩)] (inC R) → Chs V 80 #[.pointer (some ⟨g2, 0, none⟩)] (inC S) → Calls Tryz.prog 47 #[.agg #[.int .i64 P.users, .slice ow P.who.length cw, .slice of P.fixed.length cf, .slice or P.rules.length cr], .func (.func 80) #[] #[.pointer (some ⟨g1, 0, none⟩)], .func (.func 80) #[] #[.pointer (some ⟨g2, 0, none⟩)]] V (RvP V (spP P (inC R) (inC S)))) := fun V g1 g2 hV h1 h2 => restV P _ _ _ _ _ _ _ _ _ V hV.p.pv hk'.out hun.out.1 hun.out.2 hfl.out h1 h2
    unfold RvP at KR
    clear hN hP hbad hk' hun hfl
    generalize spP P (inC R) (inC S) = X at *
    go_upto_region 6 with (first | (go_at_call 51; refine (KB2.out _ hX3.out).mono ?_; rintro e w4 ⟨rfl, hb4⟩; have hX4 := hide' (hX3.out.over hb4)) | (go_at_call 51; refine (KB1.out _ hX2.out).mono ?_; rintro e w3 ⟨rfl, hb3⟩; have hX3 := hide' (hX2.out.over hb3); have q13 := hX3.out.p.pb.c1))
    have hXd := hide' (hX4.out.over (Below.refl _ w4).drew)
    have hcl : Hid (∀ V, Wx w P (.slice ow P.who.length cw) (.slice of P.fixed.length cf) (.slice or P.rules.length cr) (.slice oR R.length cR) (.slice oS S.length cS) R S V → V.cell? ⟨w.heap.size, 0, none⟩ = some (.int .i64 P.users) ∧ V.cell? ⟨w.heap.size, 1, none⟩ = some (.slice ow P.who.length cw) ∧ V.cell? ⟨w.heap.size, 2, none⟩ = some (.slice of P.fixed.length cf) ∧ V.cell? ⟨w.heap.size, 3, none⟩ = some (.slice or P.rules.length cr)) := fun V hV => ⟨hV.p.pb.c0, hV.p.pb.c1, hV.p.pb.c2, hV.p.pb.c3⟩
    have hcs : Hid (∀ V, Wx w P (.slice ow P.who.length cw) (.slice of P.fixed.length cf) (.slice or P.rules.length cr) (.slice oR R.length cR) (.slice oS S.length cS) R S V → ∀ x0 x1 x2 x3 : Value, (((((V.setCell ⟨w.heap.size + 1, 0, none⟩ x0).setCell ⟨w.heap.size + 1, 1, none⟩ x1).setCell ⟨w.heap.size + 1, 2, none⟩ x2).setCell ⟨w.heap.size + 1, 3, none⟩ x3).cell? ⟨w.heap.size, 0, none⟩ = some (.int .i64 P.users) ∧ ((((V.setCell ⟨w.heap.size + 1, 0, none⟩ x0).setCell ⟨w.heap.size + 1, 1, none⟩ x1).setCell ⟨w.heap.size + 1, 2, none⟩ x2).setCell ⟨w.heap.size + 1, 3, none⟩ x3).cell? ⟨w.heap.size, 1, none⟩ = some (.slice ow P.who.length cw) ∧ ((((V.setCell ⟨w.heap.size + 1, 0, none⟩ x0).setCell ⟨w.heap.size + 1, 1, none⟩ x1).setCell ⟨w.heap.size + 1, 2, none⟩ x2).setCell ⟨w.heap.size + 1, 3, none⟩ x3).cell? ⟨w.heap.size, 2, none⟩ = some (.slice of P.fixed.length cf) ∧ ((((V.setCell ⟨w.heap.size + 1, 0, none⟩ x0).setCell ⟨w.heap.size + 1, 1, none⟩ x1).setCell ⟨w.heap.size + 1, 2, none⟩ x2).setCell ⟨w.heap.size + 1, 3, none⟩ x3).cell? ⟨w.heap.size, 3, none⟩ = some (.slice or P.rules.length cr))) := fun V hV x0 x1 x2 x3 => by
      have hb := Below.setCell (Below.setCell (Below.setCell (Below.setCell (Below.refl (w.heap.size + 1) V) (p := ⟨w.heap.size + 1, 0, none⟩) (Nat.le_refl _) x0) (p := ⟨w.heap.size + 1, 1, none⟩) (Nat.le_refl _) x1) (p := ⟨w.heap.size + 1, 2, none⟩) (Nat.le_refl _) x2) (p := ⟨w.heap.size + 1, 3, none⟩) (Nat.le_refl _) x3
      have hp : PbB ((((V.setCell ⟨w.heap.size + 1, 0, none⟩ x0).setCell ⟨w.heap.size + 1, 1, none⟩ x1).setCell ⟨w.heap.size + 1, 2, none⟩ x2).setCell ⟨w.heap.size + 1, 3, none⟩ x3) w.heap.size P _ _ _ := (hb.block _ (by omega)).trans hV.p.pb
      exact ⟨hp.c0, hp.c1, hp.c2, hp.c3⟩
    clear hX3 hX4 hb3 hb4 q1 q3 q13 hX2 KB1 KB2
    go_region_held3 (fun V => V.cell? ⟨w.heap.size, 0, none⟩ = some (.int .i64 P.users) ∧ V.cell? ⟨w.heap.size, 1, none⟩ = some (.slice ow P.who.length cw) ∧ V.cell? ⟨w.heap.size, 2, none⟩ = some (.slice of P.fixed.length cf) ∧ V.cell? ⟨w.heap.size, 3, none⟩ = some (.slice or P.rules.length cr)) (first | (exact hcl.out _ hXd.out) | (exact hcl.out _ hX5.out) | (exact hcl.out _ hX6.out) | (exact hcl.out _ hX7.out) | (exact hcz.out)) (first | (go_at_call 47; refine (KR.out _ _ _ hX6.out (hc5.out.over hb6.out) hc6.out).mono ?_; rintro e w7 ⟨o1, n1, c1, o2, n2, c2, o3, n3, c3, rfl, hV7, hb7, hn7, hk7⟩; have hX7 := hide' (hX6.out.over hb7.out); have f0 := hX7.out.p.z.frz 0; have y0 := hX7.out.p.z.c0; have f1 := (hX7.out.p.z.s0C X.users).frz 1; have y1 := (hX7.out.p.z.s0C X.users).c1; have f2 := ((hX7.out.p.z.s0C X.users).s1 (.slice o1 n1 c1)).frz 2; have y2 := ((hX7.out.p.z.s0C X.users).s1 (.slice o1 n1 c1)).c2; have f3 := (((hX7.out.p.z.s0C X.users).s1 (.slice o1 n1 c1)).s2 (.slice o2 n2 c2)).frz 3; have y3 := (((hX7.out.p.z.s0C X.users).s1 (.slice o1 n1 c1)).s2 (.slice o2 n2 c2)).c3; have hcz := hide' (hcs.out _ hX7.out (.int .i64 X.users) (.slice o1 n1 c1) (.slice o2 n2 c2) (.slice o3 n3 c3))) | (go_at_call 52; refine (KA2.out _ hX5.out).mono ?_; rintro e w6 ⟨g6, rfl, hc6, hb6⟩; have hX6 := hide' (hX5.out.over hb6.out)) | (go_at_call 52; refine (KA1.out _ hXd.out).mono ?_; rintro e w5 ⟨g5, rfl, hc5, hb5⟩; have hX5 := hide' (hXd.out.over hb5.out)))
    all_goals
      have x0 := ((((hX7.out.p.z.s0C X.users).s1 (.slice o1 n1 c1)).s2 (.slice o2 n2 c2)).s3 (.slice o3 n3 c3)).c0
      have x1 := ((((hX7.out.p.z.s0C X.users).s1 (.slice o1 n1 c1)).s2 (.slice o2 n2 c2)).s3 (.slice o3 n3 c3)).c1
      have x2 := ((((hX7.out.p.z.s0C X.users).s1 (.slice o1 n1 c1)).s2 (.slice o2 n2 c2)).s3 (.slice o3 n3 c3)).c2
      have x3 := ((((hX7.out.p.z.s0C X.users).s1 (.slice o1 n1 c1)).s2 (.slice o2 n2 c2)).s3 (.slice o3 n3 c3)).c3
      have hF := hide' (hX7.out.p.resC (.int .i64 X.users) (.slice o1 n1 c1) (.slice o2 n2 c2) (.slice o3 n3 c3))
      have hz6 := hX6.out.p.sz
      have hG := hide' (FvO.up hk7.out hz6 (.int .i64 X.users) (.slice o1 n1 c1) (.slice o2 n2 c2) (.slice o3 n3 c3))
      go_wp2
      refine bodyPost_ret (v := .tuple #[.agg #[.int .i64 X.users, .slice o1 n1 c1, .slice o2 n2 c2, .slice o3 n3 c3], .int .i64 0]) (by simp [results, Tryz.results21, go_sem, x0, x1, x2, x3]) rfl ?_
      unfold WtV
      rw [hNP.n, hNP.p]
      exact ⟨_, _, _, _, _, _, _, _, _, rfl, hG.out.pv, hF, (fun ad n c e => by have := hn7.out ad n c e; omega), hG.out⟩
end Go.Proofs.YtlijlelejobchaaGreatDoor.S
