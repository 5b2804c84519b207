/- PlanWrite, walked. -/
import Derived.Test.YtgopaoecmefnkaaZFlwLaw
import Derived.Test.YtgopaoecmefnkaaZrW
namespace Go.Proofs.Ytgopaoecmefnkaa.S
open Go.RowKit Go.Shelf
set_option maxRecDepth 100000 in
set_option maxHeartbeats 8000000 in
theorem planWrite_walk (P : Pb) (wv fv rv : Value) (L : List Int) (lv : Value) (w : World) (h : PbV w P wv fv rv) (hL : RowI w lv L) (hb : ∀ z ∈ P.who, z < 18446744073709551616) :
    Calls Try.prog 4 #[pbV P wv fv rv, lv] w fun e w' => e = .returned (.bool true) ∧ Below w.heap.size w w' := by
  have hB0 : Hid (Below w.heap.size w (w.alloc (.cells #[.int .i64 P.users, wv, fv, rv] 26))) := (Below.refl _ w).alloc (Nat.le_refl _) _
  have K0 := hide' (cutA P wv fv rv _ (h.below hB0.out))
  have hk := hide' (cutP_ok hb)
  have hL' := hide' hL
  have hQb : Hid (∀ V (a b c : Value), PbV V (cutP P) a b c → Calls Try.prog 7 #[pbV (cutP P) a b c] V fun e w' => ∃ va vb vc, e = .returned (pbV (cutP P) va vb vc) ∧ Hid (PbV w' (cutP P) va vb vc) ∧ Hid (Below V.heap.size V w')) := fun V a b c hq => cutB P a b c V hq
  clear h hL hb
  unfold pbV at K0 hQb ⊢
  generalize cutP P = Q at *
  go_enter Try.func4, Try.ntmps4
  go_wp2_with fail
  refine K0.out.mono ?_
  rintro e w1 ⟨qw, qf, qr, rfl, hq1, hb1⟩
  have hB1 : Hid (Below w.heap.size w w1) := hB0.out.trans (hb1.out.mono hB0.out.size)
  have hS := hide' (Lk.start hL'.out hB1.out hq1.out)
  obtain ⟨ow, cw, of, cf, or, cr, rfl, rfl, rfl⟩ := hq1.out.shape
  clear hb1 hq1 hB0 K0 hL' hB1
  have K1 : Hid (∀ V, Lk w Q (.slice ow Q.who.length cw) (.slice of Q.fixed.length cf) (.slice or Q.rules.length cr) lv L w1.heap.size V → Calls Try.prog 7 #[.agg #[.int .i64 Q.users, .slice ow Q.who.length cw, .slice of Q.fixed.length cf, .slice or Q.rules.length cr]] V fun e w' => ∃ va vb vc, e = .returned (.agg #[.int .i64 Q.users, va, vb, vc]) ∧ Hid (PbV w' Q va vb vc) ∧ Hid (Below V.heap.size V w')) := fun V hV => hQb.out V _ _ _ hV.q
  have K2 : Hid (∀ V va vb vc v', PbV V Q va vb vc → RowI V v' (L.take 30) → Calls Try.prog 14 #[.agg #[.int .i64 Q.users, va, vb, vc], v'] V fun e w' => ∃ oa n cap, e = .returned (.tuple #[.slice oa n cap, .int .i64 (wrN Q (L.take 30) : Int)]) ∧ Hid (RowB w' (.slice oa n cap) (wrL Q (L.take 30))) ∧ Hid (Below V.heap.size V w')) := fun V va vb vc v' hV hr => (writeF Q va vb vc (L.take 30) v' V hV hr (by rw [List.length_take]; omega) hk.out).mono fun e w' ⟨v, h1, h2, h3⟩ => by
    obtain ⟨a, c, rfl⟩ := own_shp h2.out
    exact ⟨a, _, c, h1, RowB.of_owns h2.out, h3⟩
  have K3 : Hid (∀ V v', Lk w Q (.slice ow Q.who.length cw) (.slice of Q.fixed.length cf) (.slice or Q.rules.length cr) lv L w1.heap.size V → RowI V v' (L.take 30) → Calls Try.prog 15 #[.agg #[.int .i64 Q.users, .slice ow Q.who.length cw, .slice of Q.fixed.length cf, .slice or Q.rules.length cr], v'] V fun e w' => ∃ oa n cap, e = .returned (.tuple #[.slice oa n cap, .int .i64 (wrN Q (L.take 30) : Int)]) ∧ Hid (RowB w' (.slice oa n cap) (wrL Q (L.take 30))) ∧ Hid (Below V.heap.size V w')) := fun V v' hV hr => (rWriteF Q _ _ _ (L.take 30) v' V hV.q hr (by rw [List.length_take]; omega) hk.out).mono fun e w' ⟨v, h1, h2, h3⟩ => by
    obtain ⟨a, c, rfl⟩ := own_shp h2.out
    exact ⟨a, _, c, h1, RowB.of_owns h2.out, h3⟩
  have K4 : Hid (∀ V, Lk w Q (.slice ow Q.who.length cw) (.slice of Q.fixed.length cf) (.slice or Q.rules.length cr) lv L w1.heap.size V → Calls Try.prog 9 #[lv] V fun e w' => ∃ v', e = .returned v' ∧ RowI w' v' (L.take 30) ∧ Below V.heap.size V w') := fun V hV => row14F L lv V hV.l
  have K7 : Hid (∀ V, Calls Try.prog 11 #[] V fun e w' => e = .returned (.bool true) ∧ Below V.heap.size V w') := fun V => wakes14 V
  clear hk hQb
  generalize wrL Q (L.take 30) = F at *
  generalize wrN Q (L.take 30) = nn at *
  have hnn : ((nn : Int) == (nn : Int)) = true := by simp
  go_wp2_with fail
  generalize w1.alloc (.cells #[.int .i64 Q.users, .slice ow Q.who.length cw, .slice of Q.fixed.length cf, .slice or Q.rules.length cr] 26) = w2 at hS ⊢
  generalize w1.heap.size = g at *
  refine (K1.out _ hS.out).mono ?_
  rintro e w3 ⟨va, vb, vc, rfl, hq3, hb3⟩
  have hS3 := hide' (hS.out.over hb3.out)
  clear hS hb3
  go_wp2_with fail
  refine (K4.out _ hS3.out).mono ?_
  rintro e w4 ⟨v4, rfl, hr4, hb4⟩
  have hS4 := hide' (hS3.out.over hb4)
  have hq4 := hide' (hq3.out.below hb4)
  have hr4' := hide' hr4
  clear hS3 hb4 hq3 hr4
  go_wp2_with fail
  refine (K2.out _ _ _ _ _ hq4.out hr4'.out).mono ?_
  rintro e w5 ⟨o5, n5, c5, rfl, hR5, hb5⟩
  have hS5 := hide' (hS4.out.over hb5.out)
  have hS5d := hide' (hS5.out.over (Below.refl _ w5).drew)
  have hR5d := hide' (hR5.out.below (Below.refl _ w5).drew (Nat.le_refl _))
  clear hS4 hb5 hq4 hr4' K1 K2
  go_upto_region 4 with (go_region_held3 (fun V => V.cell? ⟨g, 0, none⟩ = some (.int .i64 Q.users) ∧ V.cell? ⟨g, 1, none⟩ = some (.slice ow Q.who.length cw) ∧ V.cell? ⟨g, 2, none⟩ = some (.slice of Q.fixed.length cf) ∧ V.cell? ⟨g, 3, none⟩ = some (.slice or Q.rules.length cr)) (first | (exact hS8.out.b.all4) | (exact hS7.out.b.all4) | (exact hS5d.out.b.all4)) (first | (go_at_call 9; refine (K4.out _ hS5d.out).mono ?_; rintro e w7 ⟨v7, rfl, hr7, hb7⟩; have hS7 := hide' (hS5d.out.over hb7); have hR7 := hide' (hR5d.out.below hb7 (Nat.le_refl _)); have hr7' := hide' hr7) | (go_at_call 15; refine (K3.out _ _ hS7.out hr7'.out).mono ?_; rintro e w8 ⟨o8, n8, c8, rfl, hR8, hb8⟩; have hS8 := hide' (hS7.out.over hb8.out); have hR9 := hide' (hR7.out.below hb8.out (Nat.le_refl _)))))
  all_goals
    have hcv1 := conv_bytes hR9.out
    have hcv2 := conv_bytes hR8.out
    generalize strB F = bs at *
    clear K4 K3 hR5 hR5d hR8 hR9 hS5 hS5d
    go_wp2_with fail
    refine (K7.out _).mono ?_
    rintro e w10 ⟨rfl, hb10⟩
    have hS10 := hide' (hS8.out.over hb10)
    clear hb10 K7
    go_wp2
    go_ret
    exact ⟨rfl, hS10.out.be⟩
end Go.Proofs.Ytgopaoecmefnkaa.S
