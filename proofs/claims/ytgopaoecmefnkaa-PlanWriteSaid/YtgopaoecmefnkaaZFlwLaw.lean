/- PlanFlaws, walked. -/
import Derived.Test.YtgopaoecmefnkaaZpX
import Derived.Test.YtgopaoecmefnkaaZrF
import Derived.Test.YtgopaoecmefnkaaSCut2
namespace Go.Proofs.Ytgopaoecmefnkaa.S
open Go.RowKit Go.Shelf
/-- What stands between the calls: the problem that was cut, its box, and the users. -/
structure Lk (w : World) (Q : Pb) (qw qf qr lv : Value) (L : List Int) (g : Nat) (V : World) : Prop where
  b : PbB V g Q qw qf qr
  q : PbV V Q qw qf qr
  l : RowI V lv L
  be : Below w.heap.size w V
theorem Lk.over {w : World} {Q : Pb} {qw qf qr lv : Value} {L : List Int} {g : Nat} {V V' : World} (h : Lk w Q qw qf qr lv L g V) (hb : Below V.heap.size V V') : Lk w Q qw qf qr lv L g V' :=
  ⟨h.b.below hb, h.q.below hb, h.l.below hb (Nat.le_refl _), h.be.trans (hb.mono h.be.size)⟩
theorem Lk.start {w V : World} {Q : Pb} {a b c lv : Value} {L : List Int} (hL : RowI w lv L) (hV : Below w.heap.size w V) (hq : PbV V Q a b c) : Lk w Q a b c lv L V.heap.size (V.alloc (.cells #[.int .i64 Q.users, a, b, c] 26)) := by
  have hb1 : Below V.heap.size V (V.alloc (.cells #[.int .i64 Q.users, a, b, c] 26)) := (Below.refl _ V).alloc (Nat.le_refl _) _
  exact ⟨heap_new V _, hq.below hb1, hL.below (hV.trans (hb1.mono hV.size)) (Nat.le_refl _), hV.trans (hb1.mono hV.size)⟩
theorem PbB.all4 {w : World} {g : Nat} {P : Pb} {wv fv rv : Value} (h : PbB w g P wv fv rv) : w.cell? ⟨g, 0, none⟩ = some (.int .i64 P.users) ∧ w.cell? ⟨g, 1, none⟩ = some wv ∧ w.cell? ⟨g, 2, none⟩ = some fv ∧ w.cell? ⟨g, 3, none⟩ = some rv := ⟨h.c0, h.c1, h.c2, h.c3⟩
theorem flwL_len {P : Pb} (hk : Pok P) (L : List Int) : (flwL P L).length ≤ 1000000 := by
  unfold flwL
  split
  · rename_i h
    have h1 := stF_len P L L.length
    have h2 := broken_lenZ P.rules L
    have h3 := hk.r
    have h4 := hk.w
    rw [List.length_append]
    simp only [ruF, List.length_map]
    omega
  · decide
set_option maxRecDepth 100000 in
set_option maxHeartbeats 8000000 in
theorem planFlaws_walk (P : Pb) (wv fv rv : Value) (L : List Int) (lv : Value) (w : World) (h : PbV w P wv fv rv) (hL : RowI w lv L) (hb : ∀ z ∈ P.who, z < 18446744073709551616) :
    Calls Try.prog 3 #[pbV P wv fv rv, lv] w fun e w' => e = .returned (.bool true) ∧ Below w.heap.size w w' := by
  have hB0 : Hid (Below w.heap.size w (w.alloc (.cells #[.int .i64 P.users, wv, fv, rv] 26))) := (Below.refl _ w).alloc (Nat.le_refl _) _
  have K0 := hide' (cutA P wv fv rv _ (h.below hB0.out))
  have hk := hide' (cutP_ok hb)
  have hL' := hide' hL
  have hQb : Hid (∀ V (a b c : Value), PbV V (cutP P) a b c → Calls Try.prog 7 #[pbV (cutP P) a b c] V fun e w' => ∃ va vb vc, e = .returned (pbV (cutP P) va vb vc) ∧ Hid (PbV w' (cutP P) va vb vc) ∧ Hid (Below V.heap.size V w')) := fun V a b c hq => cutB P a b c V hq
  clear h hL hb
  unfold pbV at K0 hQb ⊢
  generalize cutP P = Q at *
  go_enter Try.func3, Try.ntmps3
  go_wp2_with fail
  refine K0.out.mono ?_
  rintro e w1 ⟨qw, qf, qr, rfl, hq1, hb1⟩
  have hB1 : Hid (Below w.heap.size w w1) := hB0.out.trans (hb1.out.mono hB0.out.size)
  have hS := hide' (Lk.start hL'.out hB1.out hq1.out)
  obtain ⟨ow, cw, of, cf, or, cr, rfl, rfl, rfl⟩ := hq1.out.shape
  clear hb1 hq1 hB0 K0 hL' hB1
  have K1 : Hid (∀ V, Lk w Q (.slice ow Q.who.length cw) (.slice of Q.fixed.length cf) (.slice or Q.rules.length cr) lv L w1.heap.size V → Calls Try.prog 7 #[.agg #[.int .i64 Q.users, .slice ow Q.who.length cw, .slice of Q.fixed.length cf, .slice or Q.rules.length cr]] V fun e w' => ∃ va vb vc, e = .returned (.agg #[.int .i64 Q.users, va, vb, vc]) ∧ Hid (PbV w' Q va vb vc) ∧ Hid (Below V.heap.size V w')) := fun V hV => hQb.out V _ _ _ hV.q
  have K2 : Hid (∀ V va vb vc v', PbV V Q va vb vc → RowI V v' (L.take 30) → Calls Try.prog 8 #[.agg #[.int .i64 Q.users, va, vb, vc], v'] V (FlP V Q (L.take 30))) := fun V va vb vc v' hV hr => flawsPF Q va vb vc (L.take 30) v' V hV hr (by rw [List.length_take]; omega) hk.out
  have K3 : Hid (∀ V, Lk w Q (.slice ow Q.who.length cw) (.slice of Q.fixed.length cf) (.slice or Q.rules.length cr) lv L w1.heap.size V → Calls Try.prog 10 #[.agg #[.int .i64 Q.users, .slice ow Q.who.length cw, .slice of Q.fixed.length cf, .slice or Q.rules.length cr]] V fun e w' => e = .returned (.int .i64 (chkN Q : Int)) ∧ Below V.heap.size V w') := fun V hV => rCheckF Q _ _ _ V hV.q hk.out
  have K4 : Hid (∀ V, Lk w Q (.slice ow Q.who.length cw) (.slice of Q.fixed.length cf) (.slice or Q.rules.length cr) lv L w1.heap.size V → Calls Try.prog 9 #[lv] V fun e w' => ∃ v', e = .returned v' ∧ RowI w' v' (L.take 30) ∧ Below V.heap.size V w') := fun V hV => row14F L lv V hV.l
  have K5 : Hid (chkN Q = 0 → ∀ V v', Lk w Q (.slice ow Q.who.length cw) (.slice of Q.fixed.length cf) (.slice or Q.rules.length cr) lv L w1.heap.size V → RowI V v' (L.take 30) → Calls Try.prog 13 #[.agg #[.int .i64 Q.users, .slice ow Q.who.length cw, .slice of Q.fixed.length cf, .slice or Q.rules.length cr], v'] V fun e w' => ∃ v, e = .returned v ∧ Hid (RowFl w' v (flwL Q (L.take 30))) ∧ Hid (Below V.heap.size V w')) := fun hC V v' hV hr => (rFlawsF Q _ _ _ (L.take 30) v' V hV.q hr (by rw [List.length_take]; omega) hk.out hC).mono fun e w' ⟨v, h1, h2, h3⟩ => ⟨v, h1, RowFl.of_owns h2.out, h3⟩
  have K6 : Hid (∀ V va vb, RowFl V va (flwL Q (L.take 30)) → RowFl V vb (flwL Q (L.take 30)) → Calls Try.prog 12 #[va, vb] V fun e w' => e = .returned (.bool true) ∧ Below V.heap.size V w') := fun V va vb h1 h2 => same_flaws _ va vb V h1 h2 (flwL_len hk.out _)
  have K7 : Hid (∀ V, Calls Try.prog 11 #[] V fun e w' => e = .returned (.bool true) ∧ Below V.heap.size V w') := fun V => wakes14 V
  clear hk hQb
  go_wp2_with fail
  generalize w1.alloc (.cells #[.int .i64 Q.users, .slice ow Q.who.length cw, .slice of Q.fixed.length cf, .slice or Q.rules.length cr] 26) = w2 at hS ⊢
  generalize w1.heap.size = g at *
  refine (K1.out _ hS.out).mono ?_
  rintro e w3 ⟨va, vb, vc, rfl, hq3, hb3⟩
  have hS3 := hide' (hS.out.over hb3.out)
  clear hS hb3
  go_wp2_with fail
  refine (K4.out _ hS3.out).mono ?_
  rintro e w4 ⟨v4, rfl, hr4, hb4⟩
  have hS4 := hide' (hS3.out.over hb4)
  have hq4 := hide' (hq3.out.below hb4)
  have hr4' := hide' hr4
  clear hS3 hb4 hq3 hr4
  go_wp2_with fail
  refine (K2.out _ _ _ _ _ hq4.out hr4'.out).mono ?_
  rintro e w5 ⟨v5, rfl, hO5, hb5⟩
  have hS5 := hide' (hS4.out.over hb5.out)
  obtain ⟨o5, c5, e5⟩ := own_shp hO5.out
  have hR5 := hide' (RowFl.of_owns hO5.out)
  subst e5
  clear hS4 hb5 hq4 hr4' hO5 K1 K2
  have q0 := hS5.out.b.c0
  have q1 := hS5.out.b.c1
  have q2 := hS5.out.b.c2
  have q3 := hS5.out.b.c3
  by_cases hC : chkN Q = 0
  case neg =>
    have hne : (((chkN Q : Nat) : Int) != 0) = true := by rw [bne_iff_ne]; omega
    have hl0 : (flwR Q (L.take 30)).length = 0 := by unfold flwR; rw [if_neg hC]; rfl
    have hcc : (((chkN Q : Nat) : Int) == ((chkN Q : Nat) : Int)) = true := by simp
    rw [hl0] at hR5 ⊢
    generalize chkN Q = c at *
    clear K5 K6 hC hl0
    go_wp2_with fail
    refine (K3.out _ hS5.out).mono ?_
    rintro e w6 ⟨rfl, hb6⟩
    have hS6 := hide' (hS5.out.over hb6)
    clear hS5 hb6 q0 q1 q2 q3 hR5
    have q0 := hS6.out.b.c0
    have q1 := hS6.out.b.c1
    have q2 := hS6.out.b.c2
    have q3 := hS6.out.b.c3
    go_wp2_with fail
    refine (K3.out _ hS6.out).mono ?_
    rintro e w7 ⟨rfl, hb7⟩
    have hS7 := hide' (hS6.out.over hb7)
    clear hS6 hb7 q0 q1 q2 q3
    go_wp2_with fail
    refine (K7.out _).mono ?_
    rintro e w8 ⟨rfl, hb8⟩
    have hS8 := hide' (hS7.out.over hb8)
    clear hS7 hb8 K3 K4 K7
    go_wp2
    go_ret
    exact ⟨rfl, hS8.out.be⟩
  case pos =>
    have K5' := hide' (K5.out hC)
    have hfe : flwR Q (L.take 30) = flwL Q (L.take 30) := by unfold flwR; rw [if_pos hC]
    rw [hfe] at hR5 ⊢
    rw [hC] at K3 ⊢
    clear K5 hC hfe
    generalize flwL Q (L.take 30) = F at *
    go_wp2_with fail
    refine (K3.out _ hS5.out).mono ?_
    rintro e w6 ⟨rfl, hb6⟩
    have hS6 := hide' (hS5.out.over hb6)
    have hR6 := hide' (hR5.out.below hb6 (Nat.le_refl _))
    have hS6d := hide' (hS6.out.over (Below.refl _ w6).drew)
    have hR6d := hide' (hR6.out.below (Below.refl _ w6).drew (Nat.le_refl _))
    clear hS5 hb6 q0 q1 q2 q3 hR5 K3
    go_wp2
    go_region_held3 (fun V => V.cell? ⟨g, 0, none⟩ = some (.int .i64 Q.users) ∧ V.cell? ⟨g, 1, none⟩ = some (.slice ow Q.who.length cw) ∧ V.cell? ⟨g, 2, none⟩ = some (.slice of Q.fixed.length cf) ∧ V.cell? ⟨g, 3, none⟩ = some (.slice or Q.rules.length cr)) (first | (exact hS10.out.b.all4) | (exact hS9.out.b.all4) | (exact hS8.out.b.all4) | (exact hS7.out.b.all4) | (exact hS6d.out.b.all4)) (first | (go_at_call 9; refine (K4.out _ hS6d.out).mono ?_; rintro e w7 ⟨v7, rfl, hr7, hb7⟩; have hS7 := hide' (hS6d.out.over hb7); have hR7 := hide' (hR6d.out.below hb7 (Nat.le_refl _)); have hr7' := hide' hr7) | (go_at_call 13; refine (K5'.out _ _ hS7.out hr7'.out).mono ?_; rintro e w8 ⟨v8, rfl, hr8, hb8⟩; have hS8 := hide' (hS7.out.over hb8.out); have hR8 := hide' (hR7.out.below hb8.out (Nat.le_refl _))) | (go_at_call 12; refine (K6.out _ _ _ hR8.out hr8.out).mono ?_; rintro e w9 ⟨rfl, hb9⟩; have hS9 := hide' (hS8.out.over hb9)) | (go_at_call 11; refine (K7.out _).mono ?_; rintro e w10 ⟨rfl, hb10⟩; have hS10 := hide' (hS9.out.over hb10)))
    all_goals
      clear K4 K5' K6 K7
      go_wp2
      go_ret
      exact ⟨rfl, hS10.out.be⟩
end Go.Proofs.Ytgopaoecmefnkaa.S
