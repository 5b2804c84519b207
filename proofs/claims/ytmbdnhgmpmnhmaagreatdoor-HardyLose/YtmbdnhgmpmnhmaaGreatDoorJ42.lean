/- HardyLose, walked. -/
import Derived.Test.YtmbdnhgmpmnhmaaGreatDoorJ34
import Derived.Test.YtmbdnhgmpmnhmaaGreatDoorJ40
import Derived.Test.YtmbdnhgmpmnhmaaGreatDoorJ41
namespace Go.Proofs.YtmbdnhgmpmnhmaaGreatDoor.S
open Go.RowKit Go.Shelf
set_option maxRecDepth 100000 in
set_option maxHeartbeats 4000000 in
theorem hardyLose_walk (P : Pb) (wv fv rv : Value) (x : Nat) (w : World) (h : PbV w P wv fv rv) (hx : x < 18446744073709551616) (hb : ∀ z ∈ P.who, z < 18446744073709551616) (ht : M.Tab w) :
    Calls Tryz.prog 3 #[pbV P wv fv rv, .int .u64 (x : Int)] w fun e w' => e = .returned (.bool true) ∧ Below w.heap.size w w' := by
  have hB0 : Hid (Below w.heap.size w (w.alloc (.cells #[.int .i64 P.users, wv, fv, rv] 26))) := (Below.refl _ w).alloc (Nat.le_refl _) _
  have K0 := hide' (cutC P wv fv rv _ (h.below hB0.out))
  have hk := hide' (cutP_ok hb)
  have ht' := hide' ht
  have hQb : Hid (∀ V (a b c : Value), PbV V (cutP P) a b c → Calls Tryz.prog 6 #[pbV (cutP P) a b c] V fun e w' => ∃ va vb vc, e = .returned (pbV (cutP P) va vb vc) ∧ Hid (PbV w' (cutP P) va vb vc) ∧ Hid (Below V.heap.size V w')) := fun V a b c hq => (cutD P a b c V hq).mono fun e w' ⟨va, vb, vc, e1, e2, e3, _⟩ => ⟨va, vb, vc, e1, e2, e3⟩
  clear h ht hb
  unfold pbV at K0 hQb ⊢
  generalize cutP P = Q at *
  have KL : Hid (∀ V va vb vc, PbV V Q va vb vc → Calls Tryz.prog 7 #[.agg #[.int .i64 Q.users, va, vb, vc], .int .u64 (x : Int)] V (WtP V (loP Q x) (chkN Q))) := fun V va vb vc hq => loseF Q va vb vc x hx V hq hk.out
  have KD : Hid (∀ V va vb vc, PbV V Q va vb vc → Calls Tryz.prog 8 #[.agg #[.int .i64 Q.users, va, vb, vc], .int .u64 (x : Int)] V (WtP V (loP Q x) (chkN Q))) := fun V va vb vc hq => loseD Q va vb vc x hx V hq hk.out
  have hXok := hide' (loP_ok hk.out x)
  unfold WtP at KL KD
  clear hk
  generalize loP Q x = X at *
  generalize chkN Q = N at *
  go_enter Tryz.func3, Tryz.ntmps3
  go_wp2_with fail
  refine K0.out.mono ?_
  rintro e w1 ⟨qw, qf, qr, rfl, hq1, hb1, _⟩
  have hB1 : Hid (Below w.heap.size w w1) := hB0.out.trans (hb1.out.mono hB0.out.size)
  obtain ⟨ow, cw, of, cf, or, cr, rfl, rfl, rfl⟩ := hq1.out.shape
  have hQ2 := hide' (TxH.start hq1.out)
  have hB2 : Hid (Below w.heap.size w (w1.alloc (.cells #[.int .i64 Q.users, .slice ow Q.who.length cw, .slice of Q.fixed.length cf, .slice or Q.rules.length cr] 26))) := hB1.out.alloc hB1.out.size _
  clear hb1 hB0 K0 hq1 hB1
  go_upto_region 2 with fail
  generalize w1.alloc (.cells #[.int .i64 Q.users, .slice ow Q.who.length cw, .slice of Q.fixed.length cf, .slice or Q.rules.length cr] 26) = w2 at *
  generalize w1.heap.size = g at *
  clear w1
  obtain ⟨q0, q1, q2, q3⟩ := hQ2.out.pb.all
  go_wp2_with fail
  refine (hQb.out _ _ _ _ hQ2.out.pv).mono ?_
  rintro e w3 ⟨va, vb, vc, rfl, hq3, hb3⟩
  have hQ3 := hide' (hQ2.out.over hb3.out)
  have hB3 := hide' (hB2.out.trans (hb3.out.mono hB2.out.size))
  clear q0 q1 q2 q3 hb3 hQ2 hB2
  go_wp2_with fail
  refine (KL.out _ _ _ _ hq3.out).mono ?_
  rintro e w4 ⟨o1, n1, c1, o2, n2, c2, o3, n3, c3, rfl, hV4, hb4, _, _⟩
  have hX5 := hide' (TxH.start hV4.out)
  have hA4 : Hid (Below w3.heap.size w3 (w4.alloc (.cells #[.int .i64 X.users, .slice o1 n1 c1, .slice o2 n2 c2, .slice o3 n3 c3] 26))) := hb4.out.alloc hb4.out.size _
  have hQ5 := hide' (hQ3.out.over hA4.out)
  have hB5 := hide' (hB3.out.trans (hA4.out.mono hB3.out.size))
  clear hb4 hV4 hA4 hQ3 hB3 hq3 KL
  go_upto_region 3 with fail
  generalize w4.alloc (.cells #[.int .i64 X.users, .slice o1 n1 c1, .slice o2 n2 c2, .slice o3 n3 c3] 26) = w5 at *
  generalize w4.heap.size = gx at *
  obtain ⟨q0, q1, q2, q3⟩ := hQ5.out.pb.all
  go_wp2_with fail
  refine (KD.out _ _ _ _ hQ5.out.pv).mono ?_
  rintro e w6 ⟨y1, m1, d1, y2, m2, d2, y3, m3, d3, rfl, hV6, hb6, _, _⟩
  have hY7 := hide' (TxH.start hV6.out)
  have hA6 : Hid (Below w5.heap.size w5 (w6.alloc (.cells #[.int .i64 X.users, .slice y1 m1 d1, .slice y2 m2 d2, .slice y3 m3 d3] 26))) := hb6.out.alloc hb6.out.size _
  have hX7 := hide' (hX5.out.over hA6.out)
  have hB7 := hide' (hB5.out.trans (hA6.out.mono hB5.out.size))
  clear hb6 hV6 hA6 hX5 hB5 hQ5 KD q0 q1 q2 q3 hQb
  go_upto_region 4 with fail
  generalize w6.alloc (.cells #[.int .i64 X.users, .slice y1 m1 d1, .slice y2 m2 d2, .slice y3 m3 d3] 26) = w7 at *
  generalize w6.heap.size = gy at *
  have KRo : Hid (∀ V (a b : Value), RowW V a X.who → RowW V b X.who → Calls Tryz.prog 9 #[a, b] V fun e w' => e = .returned (.bool true) ∧ Below V.heap.size V w') := fun V a b h1 h2 => keepRowsH X.who a b V h1 h2 (by have := hXok.out.w; omega)
  have KIn : Hid (∀ V (a b : Value), RowI V a X.fixed → RowI V b X.fixed → Calls Tryz.prog 10 #[a, b] V fun e w' => e = .returned (.bool true) ∧ Below V.heap.size V w') := fun V a b h1 h2 => by
    have := keepInts X.fixed X.fixed a b V h1 h2 (by have := hXok.out.f; omega) (by have := hXok.out.f; omega)
    simpa using this
  have KRu : Hid (∀ V (a b : Value), RowR V a X.rules → RowR V b X.rules → Calls Tryz.prog 11 #[a, b] V fun e w' => e = .returned (.bool true) ∧ Below V.heap.size V w') := fun V a b h1 h2 => keepRules X.rules a b V h1 h2 hXok.out.r hXok.out.s
  have KWk : Hid (∀ V, M.Tab V → Calls Tryz.prog 12 #[] V fun e w' => e = .returned (.bool true) ∧ Below V.heap.size V w') := fun V hV => wakesHF V hV
  obtain ⟨q0, q1, q2, q3⟩ := hX7.out.pb.all
  obtain ⟨p0, p1, p2, p3⟩ := hY7.out.pb.all
  have hNN : ((N : Int) == (N : Int)) = true := by simp
  have hUU : (X.users == X.users) = true := by simp
  go_wp2_with fail
  refine (KRo.out _ _ _ hX7.out.pv.who hY7.out.pv.who).mono ?_
  rintro e w10 ⟨rfl, hb10⟩
  have hB10 := hide' (hB7.out.trans (hb10.mono hB7.out.size))
  have hX10 := hide' (hX7.out.over hb10)
  have hY10 := hide' (hY7.out.over hb10)
  clear hB7 hX7 hY7 hb10 KRo q0 q1 q2 q3 p0 p1 p2 p3
  obtain ⟨q0, q1, q2, q3⟩ := hX10.out.pb.all
  obtain ⟨p0, p1, p2, p3⟩ := hY10.out.pb.all
  go_wp2_with fail
  refine (KIn.out _ _ _ hX10.out.pv.fixed hY10.out.pv.fixed).mono ?_
  rintro e w11 ⟨rfl, hb11⟩
  have hB11 := hide' (hB10.out.trans (hb11.mono hB10.out.size))
  have hX11 := hide' (hX10.out.over hb11)
  have hY11 := hide' (hY10.out.over hb11)
  clear hB10 hX10 hY10 hb11 KIn q0 q1 q2 q3 p0 p1 p2 p3
  obtain ⟨q0, q1, q2, q3⟩ := hX11.out.pb.all
  obtain ⟨p0, p1, p2, p3⟩ := hY11.out.pb.all
  go_wp2_with fail
  refine (KRu.out _ _ _ hX11.out.pv.rules hY11.out.pv.rules).mono ?_
  rintro e w12 ⟨rfl, hb12⟩
  have hB12 := hide' (hB11.out.trans (hb12.mono hB11.out.size))
  have KW2 := hide' (KWk.out w12 (ht'.out.over hB12.out))
  clear hB11 hX11 hY11 hb12 KRu q0 q1 q2 q3 p0 p1 p2 p3 KWk
  go_wp2_with fail
  refine KW2.out.mono ?_
  rintro e w13 ⟨rfl, hb13⟩
  have hB13 := hide' (hB12.out.trans (hb13.mono hB12.out.size))
  clear KW2 hb13 hB12
  go_wp2
  go_ret
  exact ⟨rfl, hB13.out⟩
end Go.Proofs.YtmbdnhgmpmnhmaaGreatDoor.S
