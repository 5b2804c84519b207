/- Check. -/
import Derived.Test.YtfajgbdnfphajaaSCheck2
namespace Go.Proofs.Ytfajgbdnfphajaa.S
open Go.RowKit Go.Shelf
theorem chkN_big {P : Pb} (h : 12 < P.who.length ∨ 64 < P.users ∨ 32 < P.rules.length) : chkN P = 2 := by unfold chkN; rw [if_pos h]
theorem chkN_bad {P : Pb} (h : ¬ (12 < P.who.length ∨ 64 < P.users ∨ 32 < P.rules.length)) (h2 : P.users < 0 ∨ fixB P = false ∨ whoB P = false ∨ rulB P = false) : chkN P = 1 := by unfold chkN; rw [if_neg h, if_pos h2]
theorem chkN_ok {P : Pb} (h : ¬ (12 < P.who.length ∨ 64 < P.users ∨ 32 < P.rules.length)) (h2 : ¬ (P.users < 0 ∨ fixB P = false ∨ whoB P = false ∨ rulB P = false)) : chkN P = 0 := by unfold chkN; rw [if_neg h, if_neg h2]
set_option maxRecDepth 100000 in
set_option maxHeartbeats 4000000 in
theorem checkPF (P : Pb) (wv fv rv : Value) (w : World) (h : PbV w P wv fv rv) (hlw : P.who.length ≤ 1000) (hlf : P.fixed.length ≤ 1000) (hlr : P.rules.length ≤ 1000) (hm : ∀ r ∈ P.rules, r.steps.length ≤ 1000) (hw : ∀ z ∈ P.who, z < 18446744073709551616) :
    Calls Try.prog 25 #[pbV P wv fv rv] w fun e w' => e = .returned (.int .i64 (chkN P : Int)) ∧ Below w.heap.size w w' := by
  have hs := h.shape
  have hB0 : Hid (Below w.heap.size w (w.alloc (.cells #[.int .i64 P.users, wv, fv, rv] 27))) := (Below.refl _ w).alloc (Nat.le_refl _) _
  have hb0 : Hid (PbB (w.alloc (.cells #[.int .i64 P.users, wv, fv, rv] 27)) w.heap.size P wv fv rv) := heap_new w _
  have K1 : Hid (∀ V, Below w.heap.size w V → Calls Try.prog 38 #[pbV P wv fv rv] V fun e w' => e = .returned (.bool (fixB P)) ∧ Below V.heap.size V w') := fun V hV => fixedFitF P wv fv rv V (h.below hV) hlf
  have K2 : Hid (0 ≤ P.users → ∀ V, Below w.heap.size w V → Calls Try.prog 39 #[pbV P wv fv rv] V fun e w' => e = .returned (.bool (whoB P)) ∧ Below V.heap.size V w') := fun h0 V hV => whoFitF P wv fv rv V (h.below hV) hlw h0 hw
  have K3 : Hid (∀ V, Below w.heap.size w V → Calls Try.prog 40 #[pbV P wv fv rv] V fun e w' => e = .returned (.bool (rulB P)) ∧ Below V.heap.size V w') := fun V hV => rulesFitF P wv fv rv V (h.below hV) hlr hm
  obtain ⟨ow, cw, of, cf, or, cr, rfl, rfl, rfl⟩ := hs
  unfold pbV at K1 K2 K3 ⊢
  clear h hm hw
  by_cases hA : 12 < P.who.length
  · rw [chkN_big (.inl hA)]
    have hA' : (12 : Int) < (P.who.length : Int) := by omega
    clear K1 K2 K3
    go_enter Try.func25, Try.ntmps25
    go_wp2
    go_ret
    exact ⟨rfl, hB0.out⟩
  have hA' : ¬ (12 : Int) < (P.who.length : Int) := by omega
  have hAd : decide ((12 : Int) < (P.who.length : Int)) = false := decide_eq_false hA'
  by_cases hB : 64 < P.users
  · rw [chkN_big (.inr (.inl hB))]
    clear K1 K2 K3
    go_enter Try.func25, Try.ntmps25
    go_wp2
    go_ret
    exact ⟨rfl, hB0.out⟩
  have hBd : decide ((64 : Int) < P.users) = false := decide_eq_false hB
  by_cases hC : 32 < P.rules.length
  · rw [chkN_big (.inr (.inr hC))]
    have hC' : (32 : Int) < (P.rules.length : Int) := by omega
    clear K1 K2 K3
    go_enter Try.func25, Try.ntmps25
    go_wp2
    go_ret
    exact ⟨rfl, hB0.out⟩
  have hC' : ¬ (32 : Int) < (P.rules.length : Int) := by omega
  have hCd : decide ((32 : Int) < (P.rules.length : Int)) = false := decide_eq_false hC'
  have hbig : ¬ (12 < P.who.length ∨ 64 < P.users ∨ 32 < P.rules.length) := by rintro (q | q | q) <;> omega
  by_cases hD : P.users < 0
  · rw [chkN_bad hbig (.inl hD)]
    clear K1 K2 K3
    go_enter Try.func25, Try.ntmps25
    go_wp2
    go_ret
    exact ⟨rfl, hB0.out⟩
  have hDd : decide (P.users < 0) = false := decide_eq_false hD
  cases hF : fixB P with
  | false =>
    rw [chkN_bad hbig (.inr (.inl hF))]
    rw [hF] at K1
    clear K2 K3
    go_enter Try.func25, Try.ntmps25
    go_wp2_with fail
    refine (K1.out _ hB0.out).mono ?_
    rintro e w1 ⟨rfl, hb1⟩
    have hB1 : Hid (Below w.heap.size w w1) := hB0.out.trans (hb1.mono hB0.out.size)
    clear hb1 K1
    go_wp2
    go_ret
    exact ⟨rfl, hB1.out⟩
  | true =>
    rw [hF] at K1
    cases hW : whoB P with
    | false =>
      rw [chkN_bad hbig (.inr (.inr (.inl hW)))]
      rw [hW] at K2
      go_enter Try.func25, Try.ntmps25
      go_wp2_with fail
      refine (K1.out _ hB0.out).mono ?_
      rintro e w1 ⟨rfl, hb1⟩
      have hB1 : Hid (Below w.heap.size w w1) := hB0.out.trans (hb1.mono hB0.out.size)
      have hp := hide' (hb0.out.below hb1)
      have q0 := hp.out.c0
      have q1 := hp.out.c1
      have q2 := hp.out.c2
      have q3 := hp.out.c3
      clear hb1
      go_wp2_with fail
      refine (K2.out (by omega) _ hB1.out).mono ?_
      rintro e w2 ⟨rfl, hb2⟩
      have hB2 : Hid (Below w.heap.size w w2) := hB1.out.trans (hb2.mono hB1.out.size)
      clear hb2 K1 K2 K3 q0 q1 q2 q3
      go_wp2
      go_ret
      exact ⟨rfl, hB2.out⟩
    | true =>
      rw [hW] at K2
      have hfin : Hid ((chkN P : Int) = if rulB P then 0 else 1) := by
        show _ = _
        cases hR : rulB P with
        | false => rw [chkN_bad hbig (.inr (.inr (.inr hR)))]; rfl
        | true => rw [chkN_ok hbig (by rintro (q | q | q | q) <;> simp_all)]; rfl
      rw [hfin.out]
      cases hR : rulB P with
      | false =>
        rw [hR] at K3
        go_enter Try.func25, Try.ntmps25
        go_wp2_with fail
        refine (K1.out _ hB0.out).mono ?_
        rintro e w1 ⟨rfl, hb1⟩
        have hB1 : Hid (Below w.heap.size w w1) := hB0.out.trans (hb1.mono hB0.out.size)
        have hp := hide' (hb0.out.below hb1)
        have q0 := hp.out.c0
        have q1 := hp.out.c1
        have q2 := hp.out.c2
        have q3 := hp.out.c3
        clear hb1
        go_wp2_with fail
        refine (K2.out (by omega) _ hB1.out).mono ?_
        rintro e w2 ⟨rfl, hb2⟩
        have hB2 : Hid (Below w.heap.size w w2) := hB1.out.trans (hb2.mono hB1.out.size)
        have hp2 := hide' (hp.out.below hb2)
        have r0 := hp2.out.c0
        have r1 := hp2.out.c1
        have r2 := hp2.out.c2
        have r3 := hp2.out.c3
        clear hb2 q0 q1 q2 q3
        go_wp2_with fail
        refine (K3.out _ hB2.out).mono ?_
        rintro e w3 ⟨rfl, hb3⟩
        have hB3 : Hid (Below w.heap.size w w3) := hB2.out.trans (hb3.mono hB2.out.size)
        clear hb3 K1 K2 K3 r0 r1 r2 r3
        go_wp2
        go_ret
        exact ⟨rfl, hB3.out⟩
      | true =>
        rw [hR] at K3
        go_enter Try.func25, Try.ntmps25
        go_wp2_with fail
        refine (K1.out _ hB0.out).mono ?_
        rintro e w1 ⟨rfl, hb1⟩
        have hB1 : Hid (Below w.heap.size w w1) := hB0.out.trans (hb1.mono hB0.out.size)
        have hp := hide' (hb0.out.below hb1)
        have q0 := hp.out.c0
        have q1 := hp.out.c1
        have q2 := hp.out.c2
        have q3 := hp.out.c3
        clear hb1
        go_wp2_with fail
        refine (K2.out (by omega) _ hB1.out).mono ?_
        rintro e w2 ⟨rfl, hb2⟩
        have hB2 : Hid (Below w.heap.size w w2) := hB1.out.trans (hb2.mono hB1.out.size)
        have hp2 := hide' (hp.out.below hb2)
        have r0 := hp2.out.c0
        have r1 := hp2.out.c1
        have r2 := hp2.out.c2
        have r3 := hp2.out.c3
        clear hb2 q0 q1 q2 q3
        go_wp2_with fail
        refine (K3.out _ hB2.out).mono ?_
        rintro e w3 ⟨rfl, hb3⟩
        have hB3 : Hid (Below w.heap.size w w3) := hB2.out.trans (hb3.mono hB2.out.size)
        clear hb3 K1 K2 K3 r0 r1 r2 r3
        go_wp2
        go_ret
        exact ⟨rfl, hB3.out⟩
end Go.Proofs.Ytfajgbdnfphajaa.S
