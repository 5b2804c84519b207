/- All that both runs tell: whole. -/
import Derived.Test.YtlipdccfhnnleaaGreatDoorJ38
import Derived.Deep.CutRange
namespace Go.Proofs.YtlipdccfhnnleaaGreatDoor
open Go.RowKit
theorem Pr.fl {lo : Nat} {V0 : World} {F : Fw} {gr gt : Nat} {sv rv : Value} {go gp gs ct : Nat} {Pf Sf : Nat → Nat} {P1 : List (Sp × Value)} {P2 : List (Rl × Value)} {lv : Value} {R : Rs} {W : World} (h : Pr lo V0 F gr gt sv rv go gp gs ct Pf Sf P1 P2 lv R W) : flV W (.agg #[.string F.name, sv, rv]) F := by
  have hg := h.ger
  have e : ∀ k, lo ≤ k → k < V0.heap.size → W.heap[k]? = V0.heap[k]? := fun k h1 h2 => h.win k h1 h2 (by omega)
  have r1 := (h.t1.keptB fun k h1 h2 => e k h1 h2).rowS
  have r2 := (h.t2.keptB fun k h1 h2 => e k h1 h2).rowR
  rw [h.m1] at r1
  rw [h.m2] at r2
  exact ⟨_, _, rfl, r1, r2⟩
theorem Dc.fl {lo : Nat} {V1 : World} {F : Fw} {gd gt : Nat} {sv rv : Value} {go ct : Nat} {Q1 : List (Sp × Value)} {Q2 : List (Rl × Value)} {ev : Value} {R : Rs} {W : World} (h : Dc lo V1 F gd gt sv rv go ct Q1 Q2 ev R W) : flV W (.agg #[.string F.name, sv, rv]) F := by
  obtain ⟨cs, hk⟩ := h.kd
  have e : ∀ {e0 : TypeId} {sz : Nat} {v : Value} {n : Nat} {xs : List Value}, V1.ownsRow lo e0 sz v n xs → e0 ≠ 79 → W.ownsRow lo e0 sz v n xs := fun ho hne => own_same ho fun k h1 h2 => h.win k (own_ge' ho h2) h1 fun e3 => kind_ne ho hk hne (h2.trans (congrArg some e3))
  have t1 : TwP lo W sv Q1 := ⟨e h.t1.row (by decide), fun p hp => e (h.t1.inner p hp) (by decide)⟩
  have t2 : TwS lo W rv Q2 := ⟨e h.t2.row (by decide), fun p hp => e (h.t2.inner p hp) (by decide)⟩
  have r1 := t1.rowS
  have r2 := t2.rowR
  rw [h.m1] at r1
  rw [h.m2] at r2
  exact ⟨_, _, rfl, r1, r2⟩
theorem usL_len (S : List SS) : (usL S).length = S.length := by simp [usL]
set_option maxRecDepth 100000 in
set_option maxHeartbeats 8000000 in
theorem wholeF {k : SdK} {lv ev : Value} {R : Rs} {w : World} {n : Nat} (h : Sd k lv ev R R w) (ok : RsOk n R) (hlog : R.log ≠ []) (hl : R.log.length ≤ 80000) (hB : FlB k.F) (ht : O.Tab w) :
    Calls Tryz.prog 11 #[.pointer (some ⟨k.gr, 0, none⟩), .pointer (some ⟨k.gd, 0, none⟩)] w fun e w' => e = .returned (.bool true) ∧ Below w.heap.size w w' := by
  have hn := h.n64
  obtain ⟨sk, en, hD, hse⟩ := h.d.at'
  have hD' := hide' hD
  have KL1 := hide' (fun V (z : Below w.heap.size w V) => leftF (h.over z).p.run (by omega))
  have KL2 := hide' (fun V (z : Below w.heap.size w V) => leftD (hD.over z) (by omega) ok.st)
  have KS1 : Hid (∀ V, Below w.heap.size w V → ∀ i : Int, Calls Tryz.prog 39 #[.pointer (some ⟨k.gr, 0, none⟩), .int .i64 i] V fun e w' => e = .returned (.tuple #[staT R i, .bool (hasS R i)]) ∧ Below V.heap.size V w') := fun V z i => stateF (h.over z).p.run i
  have KS2 : Hid (∀ V, Below w.heap.size w V → ∀ i : Int, Calls Tryz.prog 40 #[.pointer (some ⟨k.gd, 0, none⟩), .int .i64 i] V fun e w' => e = .returned (.tuple #[staT R i, .bool (hasS R i)]) ∧ Below V.heap.size V w') := fun V z i => stateT (h.over z) i
  have KT1 := hide' (fun V (z : Below w.heap.size w V) => statusF (h.over z).p.run)
  have KT2 := hide' (fun V (z : Below w.heap.size w V) => statusT (h.over z))
  have KR1 := hide' (fun V (z : Below w.heap.size w V) => readyS (h.over z) (ht.over z))
  have KR2 := hide' (fun V (z : Below w.heap.size w V) => readyT (h.over z))
  have KF1 := hide' (fun V (z : Below w.heap.size w V) => fixedF (h.over z).p.run (by omega))
  have KF2 := hide' (fun V (z : Below w.heap.size w V) => fixedD (hD.over z) (by omega))
  have KI : Hid (∀ V a b B1 B2, V.ownsRow B1 3 1 a R.S.length (cellsI (usL R.S)) → V.ownsRow B2 3 1 b R.S.length (cellsI (usL R.S)) → Calls Tryz.prog 45 #[a, b] V fun e w' => e = .returned (.bool true) ∧ Below V.heap.size V w') := fun V a b B1 B2 h1 h2 => by
    rw [← usL_len] at h1 h2
    have := keepInts (usL R.S) (usL R.S) a b V (RowI.of_owns h1) (RowI.of_owns h2) (by rw [usL_len]; omega) (by rw [usL_len]; omega)
    simpa using this
  have KG1 := hide' (fun V (z : Below w.heap.size w V) => logF (h.over z).p.run hlog (by omega))
  have KE : Hid (∀ V a B1, Below w.heap.size w V → V.ownsRow B1 62 4 a R.log.length (cellsEv R.log) → Calls Tryz.prog 47 #[a, ev] V fun e w' => e = .returned (.bool true) ∧ Below V.heap.size V w') := fun V a B1 z h1 => eventsF R.log B1 0 a ev V h1 (hD.over z).lg hlog (by omega)
  have KW1 : Hid (∀ V, Below w.heap.size w V → Calls Tryz.prog 20 #[.pointer (some ⟨k.gr, 0, none⟩)] V (CopR V k.F)) := fun V z => flowF (h.over z).p.run (fun V' z' => ((h.over z).over z').p.fl) hB
  have KW2 : Hid (∀ V a, Below w.heap.size w V → flV V a k.F → Calls Tryz.prog 17 #[a, .agg #[.string k.F.name, k.sv1, k.rv1]] V fun e w' => e = .returned (.bool true) ∧ Below V.heap.size V w') := fun V a z ha => keepFlowF k.F a _ V ha (h.over z).d.fl hB.sl (fun s hs => by have := (hB.st s hs).1; omega) hB.rl (fun r hr => by have := hB.ru r hr; omega)
  have hS : Hid (∀ V, Below w.heap.size w V → V.cell? ⟨k.gd, 0, none⟩ = some (.string k.F.name) ∧ V.cell? ⟨k.gd, 1, none⟩ = some k.sv1 ∧ V.cell? ⟨k.gd, 2, none⟩ = some k.rv1 ∧ V.cell? ⟨k.gd, 4, none⟩ = some (.slice (some ⟨k.hd, 0, none⟩) R.S.length k.ct1) ∧ V.cell? ⟨k.gd, 5, none⟩ = some ev) := fun V z => ⟨(hD.over z).cf.1, (hD.over z).cf.2.1, (hD.over z).cf.2.2, (hD.over z).cs.2.1, (hD.over z).cs.2.2.1⟩
  obtain ⟨os, ns, cs, hsv⟩ := (show ∃ o n c, k.sv1 = .slice o n c from by obtain ⟨o, c, e⟩ := own_shp h.d.t1.row; exact ⟨o, _, c, e⟩)
  obtain ⟨orr, nr, cr, hrv⟩ := (show ∃ o n c, k.rv1 = .slice o n c from by obtain ⟨o, c, e⟩ := own_shp h.d.t2.row; exact ⟨o, _, c, e⟩)
  obtain ⟨oe, ce, hev⟩ := own_shp hD.lg
  rw [hsv, hrv] at hS KW2
  rw [hev] at hS KE
  clear hD hD' hse h ok hlog hB ht hsv hrv hev
  generalize k.F.name = nm at *
  generalize rdyR R.S.length k.Pf R = rd at *
  generalize lefA R.S = za at *
  generalize lefB R.S = zb at *
  generalize R.stat = st at *
  go_enter Tryz.func11, Tryz.ntmps11
  go_wp2_with (first | (go_at_call 44; refine (KL2.out _ B1.out).mono ?_; rintro e w2 ⟨rfl, hw⟩; obtain rfl : w1 = w2 := hw.symm) | (go_at_call 43; refine (KL1.out _ (Below.refl _ _)).mono ?_; rintro e w1 ⟨rfl, hb1⟩; have B1 := hide' hb1; clear hb1))
  clear KL1 KL2
  go_loopw [9] (fun j wr => ∃ z : Int, -1 ≤ z ∧ z ≤ (R.S.length : Int) + 1 ∧ j = .int .i64 z ∧ Hid (Below w.heap.size w wr)) (fun j _ => ((R.S.length : Int) + 1 - intOf j).toNat)
  case atStart => exact ⟨-1, by omega, by omega, rfl, B1⟩
  case round =>
    clear B1
    obtain ⟨z, hz1, hz2, rfl, hB⟩ := hrel
    obtain ⟨e0, e1, e2, e4, e5⟩ := hS.out wr hB.out
    by_cases hgo : z ≤ (R.S.length : Int)
    · obtain ⟨a, b, c, d, hst⟩ := staT_shp R z
      have K1 := hide' (KS1.out wr hB.out z)
      have K2 : Hid (∀ V, Below w.heap.size w V → Calls Tryz.prog 40 #[.pointer (some ⟨k.gd, 0, none⟩), .int .i64 z] V fun e w' => e = .returned (.tuple #[.agg #[.int .i64 a, .int .i64 b, .int .i64 c, .int .i64 d], .bool (hasS R z)]) ∧ Below V.heap.size V w') := fun V hV => by rw [← hst]; exact KS2.out V hV z
      rw [hst] at K1
      have hgo' : ¬ (R.S.length : Int) < z := by omega
      clear hst hS KS1 KS2 KT1 KT2 KR1 KR2 KF1 KF2 KI KG1 KE KW1 KW2 e0 e1 e2 e5
      generalize hasS R z = hb at *
      go_wp2_with fail
      refine K1.out.mono ?_
      rintro e w3 ⟨rfl, hb1⟩
      have B3 := hide' ((hB.out.trans (hb1.mono hB.out.size)).alloc (Nat.le_trans hB.out.size hb1.size) (.cells #[.int .i64 a, .int .i64 b, .int .i64 c, .int .i64 d] 72))
      have X1 := hide' (heap_alloc_new w3 (.cells #[.int .i64 a, .int .i64 b, .int .i64 c, .int .i64 d] 72))
      clear hb1 K1 hB
      go_wp2_with fail
      generalize hx : w3.heap.size = gx at *
      generalize hW1 : w3.alloc (.cells #[.int .i64 a, .int .i64 b, .int .i64 c, .int .i64 d] 72) = W1 at *
      clear hx hW1
      refine (K2.out W1 B3.out).mono ?_
      rintro e w4 ⟨rfl, hb2⟩
      have hgx : gx < w4.heap.size := Nat.lt_of_lt_of_le (Array.getElem?_eq_some_iff.1 X1.out).1 hb2.size
      have X2 := hide' ((((Below.refl _ w4).alloc (Nat.le_refl _) (.cells #[.int .i64 a, .int .i64 b, .int .i64 c, .int .i64 d] 72)).block gx hgx).trans ((hb2.block gx (Array.getElem?_eq_some_iff.1 X1.out).1).trans X1.out))
      have Y2 := hide' (heap_alloc_new w4 (.cells #[.int .i64 a, .int .i64 b, .int .i64 c, .int .i64 d] 72))
      have B2 := hide' ((B3.out.trans (hb2.mono B3.out.size)).alloc (Nat.le_trans B3.out.size hb2.size) (.cells #[.int .i64 a, .int .i64 b, .int .i64 c, .int .i64 d] 72))
      clear hb2 K2 B3 X1 hgx
      go_upto_region 8 with fail
      generalize hy : w4.heap.size = gy at *
      generalize hW2 : w4.alloc (.cells #[.int .i64 a, .int .i64 b, .int .i64 c, .int .i64 d] 72) = W2 at *
      clear hy hW2
      obtain ⟨x0, x1, x2, x3⟩ := bx4 X2.out
      obtain ⟨y0, y1, y2, y3⟩ := bx4 Y2.out
      have he : ∀ W : World, (Op.equalIn 10000 72 (.agg #[.int .i64 a, .int .i64 b, .int .i64 c, .int .i64 d]) (.agg #[.int .i64 a, .int .i64 b, .int .i64 c, .int .i64 d])).run Tryz.prog W = .ok true W := fun W => st_eqR _ _ _ _ W
      clear X2 Y2
      go_wp2
      exact ⟨⟨z + 1, by omega, by omega, by go_num, B2⟩, by simp [intOf]; omega⟩
    · have hgo' : (R.S.length : Int) < z := by omega
      clear KS1 KS2 hgo
      go_wp2_with fail
      have hd : Hid (Below w.heap.size w wr.drew) := hB.out.drew
      go_region_held3 (fun V => V.cell? ⟨k.gd, 0, none⟩ = some (.string nm) ∧ V.cell? ⟨k.gd, 1, none⟩ = some (.slice os ns cs) ∧ V.cell? ⟨k.gd, 2, none⟩ = some (.slice orr nr cr) ∧ V.cell? ⟨k.gd, 4, none⟩ = some (.slice (some ⟨k.hd, 0, none⟩) R.S.length k.ct1) ∧ V.cell? ⟨k.gd, 5, none⟩ = some (.slice oe R.log.length ce)) (first | (exact hS.out _ B12.out) | (exact hS.out _ B11.out) | (exact hS.out _ B10.out) | (exact hS.out _ B9.out) | (exact hS.out _ B8.out) | (exact hS.out _ B7.out) | (exact hS.out _ B6.out) | (exact hS.out _ B3.out) | (exact hS.out _ hd.out)) (first | (go_at_call 17; refine (KW2.out _ _ B11.out hfl.out).mono ?_; rintro e w12 ⟨rfl, hb⟩; have B12 := hide' (B11.out.trans (hb.mono B11.out.size)); clear hb) | (go_at_call 20; refine (KW1.out _ B10.out).mono ?_; intro e w11 hC; obtain ⟨p1, q1, p2, q2, P1, P2, rfl, hF, hb⟩ := CopR.open hC; have hfl := hide' hF.fl; have B11 := hide' (B10.out.trans (hb.mono B10.out.size)); clear hb hC hF) | (go_at_call 47; refine (KE.out _ _ _ B9.out hO9.out).mono ?_; rintro e w10 ⟨rfl, hb⟩; have B10 := hide' (B9.out.trans (hb.mono B9.out.size)); clear hb) | (go_at_call 13; refine (KG1.out _ B8.out).mono ?_; rintro e w9 ⟨v9, rfl, ho, hb⟩; obtain ⟨o9, c9, rfl⟩ := own_shp ho; have hO9 := hide' ho; have B9 := hide' (B8.out.trans (hb.mono B8.out.size)); clear hb ho) | (go_at_call 45; refine (KI.out _ _ _ _ _ hO6'.out hO7.out).mono ?_; rintro e w8 ⟨rfl, hb⟩; have B8 := hide' (B7.out.trans (hb.mono B7.out.size)); clear hb) | (go_at_call 46; refine (KF2.out _ B6.out).mono ?_; rintro e w7 ⟨v7, rfl, ho, hb⟩; obtain ⟨o7, c7, rfl⟩ := own_shp ho; have hO7 := hide' ho; have hO6' := hide' (own_same hO6.out fun k hk _ => hb.block k hk); have B7 := hide' (B6.out.trans (hb.mono B6.out.size)); clear hb ho) | (go_at_call 19; refine (KF1.out _ B3.out).mono ?_; rintro e w6 ⟨v6, rfl, ho, hb⟩; obtain ⟨o6, c6, rfl⟩ := own_shp ho; have hO6 := hide' ho; have B6 := hide' (B3.out.trans (hb.mono B3.out.size)); clear hb ho) | (go_at_call 41; refine (KR2.out _ B3.out).mono ?_; rintro e w5 ⟨rfl, hw⟩; obtain rfl : w3 = w5 := hw.symm) | (go_at_call 32; refine (KR1.out _ hd.out).mono ?_; rintro e w3 ⟨rfl, hb⟩; have B3 := hide' (hd.out.trans (hb.mono hd.out.size)); clear hb) | (go_at_call 42; refine (KT2.out _ hd.out).mono ?_; rintro e w5 ⟨rfl, hw⟩; obtain rfl : wr.drew = w5 := hw.symm) | (go_at_call 33; refine (KT1.out _ hd.out).mono ?_; rintro e w5 ⟨rfl, hw⟩; obtain rfl : wr.drew = w5 := hw.symm))
      go_wp2
      go_ret
      exact ⟨rfl, B12.out⟩
end Go.Proofs.YtlipdccfhnnleaaGreatDoor
