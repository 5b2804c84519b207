/- PlanRead, walked. -/
import Derived.Test.YtfajgbdnfphajaaZrD
import Derived.Test.YtfajgbdnfphajaaZpW
namespace Go.Proofs.Ytfajgbdnfphajaa.S
open Go.RowKit Go.Shelf
theorem rdP_ok {L : List Nat} (hb : ∀ b ∈ L, b < 256) : Pok (rdP L) ∧ (rdL L).length ≤ 1000 := by
  unfold rdP rdL
  by_cases h : rdN L = 0
  · rw [if_pos h, if_pos h]
    exact ⟨rcP_ok (s := (L, false)) hb, rcL_len (s := (L, false)) hb⟩
  · rw [if_neg h, if_neg h]
    exact ⟨⟨Nat.zero_le _, Nat.zero_le _, Nat.zero_le _, (fun r hr => by cases hr), (fun z hz => by cases hz)⟩, Nat.zero_le _⟩
/-- A problem's box, its rows, a plan, the bytes. -/
structure Ra (w : World) (P : Pb) (g : Nat) (a b c l : Value) (M : List Int) (av : Value) (R : List Nat) (V : World) : Prop where
  pb : PbB V g P a b c
  pv : PbV V P a b c
  pl : RowI V l M
  r : RowC V av R
  be : Below w.heap.size w V
theorem Ra.over {w : World} {P : Pb} {g : Nat} {a b c l : Value} {M : List Int} {av : Value} {R : List Nat} {V V' : World} (h : Ra w P g a b c l M av R V) (hb : Below V.heap.size V V') : Ra w P g a b c l M av R V' :=
  ⟨h.pb.below hb, h.pv.below hb, h.pl.below hb (Nat.le_refl _), h.r.below hb (Nat.le_refl _), h.be.trans (hb.mono h.be.size)⟩
theorem Ra.start {w : World} {P : Pb} {a b c l : Value} {M : List Int} {av : Value} {R : List Nat} {V : World} (h1 : PbV V P a b c) (h2 : RowI V l M) (h3 : RowC w av R) (h4 : Below w.heap.size w V) : Ra w P V.heap.size a b c l M av R (V.alloc (.cells #[.int .i64 P.users, a, b, c] 27)) := by
  have hb : Below V.heap.size V (V.alloc (.cells #[.int .i64 P.users, a, b, c] 27)) := (Below.refl _ V).alloc (Nat.le_refl _) _
  have hw := h4.trans (hb.mono h4.size)
  exact ⟨heap_new V _, h1.below hb, h2.below hb (Nat.le_refl _), h3.below hw (Nat.le_refl _), hw⟩
set_option maxRecDepth 100000 in
set_option maxHeartbeats 8000000 in
theorem planRead_walk (R : List Nat) (av : Value) (w : World) (hA : RowC w av R) (hRb : ∀ b ∈ R, b < 256) :
    Calls Try.prog 3 #[av] w fun e w' => e = .returned (.bool true) ∧ Below w.heap.size w w' := by
  have hTb : Hid (∀ b ∈ R.take 2000, b < 256) := fun b hb => hRb b (List.mem_of_mem_take hb)
  have hTl : Hid ((R.take 2000).length ≤ 100000) := by show _ ≤ _; rw [List.length_take]; omega
  have hA' := hide' hA
  have hok := hide' (rdP_ok hTb.out)
  have KF : Hid (∀ V, RowC V av R → Calls Try.prog 6 #[av] V fun e w' => ∃ oa n cap, e = .returned (.slice oa n cap) ∧ Hid (RowC w' (.slice oa n cap) (R.take 2000)) ∧ Hid (Calls Try.prog 5 #[.slice oa n cap] w' (ReP w' (R.take 2000))) ∧ Hid (Calls Try.prog 7 #[.slice oa n cap] w' (ReP w' (R.take 2000))) ∧ Hid (Below V.heap.size V w')) := fun V hV => (fewS R av V hV).mono fun e w' ⟨v', e1, e2, e3⟩ => by
    have hC := RowC.of_owns e2
    obtain ⟨oa, cap, e4, h0, hc⟩ := hC
    subst e4
    refine ⟨oa, _, cap, e1, RowC.of_owns e2, ?_, ?_, e3⟩
    · refine readF (R.take 2000) oa cap w' ⟨oa, cap, rfl, hc⟩ hTb.out h0.1 (fun ad e => ?_) hTl.out
      subst e
      exact (e2.lt ad.block rfl).2
    · exact readD (R.take 2000) _ w' (RowC.of_owns e2) hTb.out hTl.out
  unfold ReP at KF
  generalize R.take 2000 = T at *
  have KS : Hid (∀ (a1 a2 a3 b1 b2 b3 : Value) V, PbV V (rdP T) a1 a2 a3 → PbV V (rdP T) b1 b2 b3 → Calls Try.prog 8 #[.agg #[.int .i64 (rdP T).users, a1, a2, a3], .agg #[.int .i64 (rdP T).users, b1, b2, b3]] V fun e w' => e = .returned (.bool true) ∧ Below V.heap.size V w') := fun a1 a2 a3 b1 b2 b3 V h1 h2 => same14 (rdP T) a1 a2 a3 b1 b2 b3 V h1 h2 hok.out.1
  have KI : Hid (∀ (a b : Value) V, RowI V a (rdL T) → RowI V b (rdL T) → Calls Try.prog 9 #[a, b] V fun e w' => e = .returned (.bool true) ∧ Below V.heap.size V w') := fun a b V h1 h2 => by
    have := keepInts (rdL T) (rdL T) a b V h1 h2 (by have := hok.out.2; omega) (by have := hok.out.2; omega)
    simpa using this
  have K7 : Hid (∀ V, Calls Try.prog 10 #[] V fun e w' => e = .returned (.bool true) ∧ Below V.heap.size V w') := fun V => wakes14 V
  clear hTb hTl hok hA hRb
  generalize rdP T = P at *
  generalize rdL T = M at *
  generalize rdN T = nn at *
  have hnn : ((nn : Int) == (nn : Int)) = true := by simp
  go_enter Try.func3, Try.ntmps3
  go_wp2_with fail
  refine (KF.out _ hA'.out).mono ?_
  rintro e w1 ⟨o1, n1, c1, rfl, hC1, hR1, _, hb1⟩
  go_wp2_with fail
  refine hR1.out.mono ?_
  rintro e w2 ⟨va, vb, vc, vp, rfl, hV2, hb2⟩
  have hS2 := hide' (Ra.start hV2.out.1 hV2.out.2 hA'.out (hb1.out.trans (hb2.out.mono hb1.out.size)))
  obtain ⟨ow, cw, of, cf, or, cr, rfl, rfl, rfl⟩ := hV2.out.1.shape
  obtain ⟨op, cp, rfl, _, _⟩ := hV2.out.2
  clear hC1 hR1 hb1 hb2 hV2
  go_wp2_with fail
  generalize w2.alloc (.cells #[.int .i64 P.users, .slice ow P.who.length cw, .slice of P.fixed.length cf, .slice or P.rules.length cr] 27) = w3 at hS2 ⊢
  generalize w2.heap.size = g at *
  refine (KF.out _ hS2.out.r).mono ?_
  rintro e w4 ⟨o4, n4, c4, rfl, hC4, _, hR4, hb4⟩
  have hS4 := hide' (hS2.out.over hb4.out)
  clear hS2 hC4 hb4 KF
  go_wp2_with fail
  refine hR4.out.mono ?_
  rintro e w5 ⟨ya, yb, yc, yp, rfl, hV5, hb5⟩
  have hS5 := hide' (hS4.out.over hb5.out)
  have hS6 := hide' (hS5.out.over ((Below.refl _ w5).alloc (Nat.le_refl _) (.cells #[.int .i64 P.users, ya, yb, yc] 27)))
  have hY6 := hide' (Ra.start hV5.out.1 hV5.out.2 hA'.out hS5.out.be)
  obtain ⟨xw, dw, xf, df, xr, dr, rfl, rfl, rfl⟩ := hV5.out.1.shape
  obtain ⟨xp, dp, rfl, _, _⟩ := hV5.out.2
  clear hS4 hR4 hb5 hV5 hS5 hA'
  go_upto_region 3 with fail
  generalize w5.alloc (.cells #[.int .i64 P.users, .slice xw P.who.length dw, .slice xf P.fixed.length df, .slice xr P.rules.length dr] 27) = w6 at hS6 hY6 ⊢
  generalize w5.heap.size = g2 at *
  have a0 := hS6.out.pb.c0
  have a1 := hS6.out.pb.c1
  have a2 := hS6.out.pb.c2
  have a3 := hS6.out.pb.c3
  have b0 := hY6.out.pb.c0
  have b1 := hY6.out.pb.c1
  have b2 := hY6.out.pb.c2
  have b3 := hY6.out.pb.c3
  go_wp2_with fail
  refine (KS.out _ _ _ _ _ _ _ hS6.out.pv hY6.out.pv).mono ?_
  rintro e w7 ⟨rfl, hb7⟩
  have hS7 := hide' (hS6.out.over hb7)
  have hY7 := hide' (hY6.out.over hb7)
  clear hS6 hY6 a0 a1 a2 a3 b0 b1 b2 b3 hb7 KS
  go_wp2_with fail
  refine (KI.out _ _ _ hS7.out.pl hY7.out.pl).mono ?_
  rintro e w8 ⟨rfl, hb8⟩
  have hS8 := hide' (hS7.out.over hb8)
  clear hS7 hY7 hb8 KI
  go_wp2_with fail
  refine (K7.out _).mono ?_
  rintro e w9 ⟨rfl, hb9⟩
  have hS9 := hide' (hS8.out.over hb9)
  clear hS8 hb9 K7
  go_wp2
  go_ret
  exact ⟨rfl, hS9.out.be⟩
end Go.Proofs.Ytfajgbdnfphajaa.S
