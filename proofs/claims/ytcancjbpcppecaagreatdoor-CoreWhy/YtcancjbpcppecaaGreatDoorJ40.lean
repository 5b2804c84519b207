/- CoreWhy, walked. -/
import Derived.Test.YtcancjbpcppecaaGreatDoorJ02
import Derived.Test.YtcancjbpcppecaaGreatDoorJ26
import Derived.Test.YtcancjbpcppecaaGreatDoorJ29
import Derived.Test.YtcancjbpcppecaaGreatDoorJ39
namespace Go.Proofs.YtcancjbpcppecaaGreatDoor.S
open Go.RowKit Go.Shelf
theorem WhS.one {P : Pb} {A B A' B' : List Nat} {s s' : Bool} (h : WhS P A B s) (h' : WhS P A' B' s') : s = s' ∧ A = A' ∧ B = B' := by
  by_cases h1 : chkN P = 0
  · cases h2 : canB P with
    | false =>
      obtain ⟨a1, a2, a3⟩ := h.y h1 h2
      obtain ⟨b1, b2, b3⟩ := h'.y h1 h2
      exact ⟨a1.trans b1.symm, a2.trans b2.symm, a3.trans b3.symm⟩
    | true =>
      obtain ⟨a1, a2, a3⟩ := h.n (.inr h2)
      obtain ⟨b1, b2, b3⟩ := h'.n (.inr h2)
      exact ⟨a1.trans b1.symm, a2.trans b2.symm, a3.trans b3.symm⟩
  · obtain ⟨a1, a2, a3⟩ := h.n (.inl h1)
    obtain ⟨b1, b2, b3⟩ := h'.n (.inl h1)
    exact ⟨a1.trans b1.symm, a2.trans b2.symm, a3.trans b3.symm⟩
theorem WhS.few {P : Pb} {A B : List Nat} {s : Bool} (h : WhS P A B s) (hk : Pok P) : A.length ≤ 1000 ∧ B.length ≤ 1000 := by
  by_cases h1 : chkN P = 0
  · cases h2 : canB P with
    | false =>
      obtain ⟨_, a2, a3⟩ := h.y h1 h2
      rw [a2, a3]
      exact ⟨Nat.le_trans (grd_lenW _ _) hk.r, Nat.le_trans (grd_lenW _ _) hk.w⟩
    | true =>
      obtain ⟨_, a2, a3⟩ := h.n (.inr h2)
      rw [a2, a3]
      exact ⟨by decide, by decide⟩
  · obtain ⟨_, a2, a3⟩ := h.n (.inl h1)
    rw [a2, a3]
    exact ⟨by decide, by decide⟩
set_option maxRecDepth 100000 in
set_option maxHeartbeats 8000000 in
theorem coreWhy_walk (P : Pb) (wv fv rv : Value) (w : World) (h : PbV w P wv fv rv) (hb : ∀ z ∈ P.who, z < 18446744073709551616) (ht : M.Tab w) :
    Calls Tryz.prog 3 #[pbV P wv fv rv] w fun e w' => e = .returned (.bool true) ∧ Below w.heap.size w w' := by
  have hB0 : Hid (Below w.heap.size w (w.alloc (.cells #[.int .i64 P.users, wv, fv, rv] 26))) := (Below.refl _ w).alloc (Nat.le_refl _) _
  have K0 := hide' (cutC P wv fv rv _ (h.below hB0.out))
  have hk := hide' (cutP_ok hb)
  have ht' := hide' ht
  have hQb : Hid (∀ V (a b c : Value), PbV V (cutP P) a b c → Calls Tryz.prog 4 #[pbV (cutP P) a b c] V fun e w' => ∃ va vb vc, e = .returned (pbV (cutP P) va vb vc) ∧ Hid (PbV w' (cutP P) va vb vc) ∧ Hid (Below V.heap.size V w') ∧ Hid (∀ ad n c, va = .slice (some ad) n c → V.heap.size ≤ ad.block ∧ ad.block < w'.heap.size)) := fun V a b c hq => cutD P a b c V hq
  clear h ht hb
  unfold pbV at K0 hQb ⊢
  generalize cutP P = Q at *
  go_enter Tryz.func3, Tryz.ntmps3
  go_wp2_with fail
  refine K0.out.mono ?_
  rintro e w1 ⟨qw, qf, qr, rfl, hq1, hb1, ho1⟩
  have hB1 : Hid (Below w.heap.size w w1) := hB0.out.trans (hb1.out.mono hB0.out.size)
  obtain ⟨ow, cw, of, cf, or, cr, rfl, rfl, rfl⟩ := hq1.out.shape
  have hY : Hid (∀ V, Below (w1.alloc (.cells #[.int .i64 Q.users, .slice ow Q.who.length cw, .slice of Q.fixed.length cf, .slice or Q.rules.length cr] 26)).heap.size (w1.alloc (.cells #[.int .i64 Q.users, .slice ow Q.who.length cw, .slice of Q.fixed.length cf, .slice or Q.rules.length cr] 26)) V → PbV V Q (.slice ow Q.who.length cw) (.slice of Q.fixed.length cf) (.slice or Q.rules.length cr) ∧ M.Tab V ∧ Below w.heap.size w V ∧ (V.cell? ⟨w1.heap.size, 0, none⟩ = some (.int .i64 Q.users) ∧ V.cell? ⟨w1.heap.size, 1, none⟩ = some (.slice ow Q.who.length cw) ∧ V.cell? ⟨w1.heap.size, 2, none⟩ = some (.slice of Q.fixed.length cf) ∧ V.cell? ⟨w1.heap.size, 3, none⟩ = some (.slice or Q.rules.length cr))) := fun V hV => by
    have h1 : Below w1.heap.size w1 (w1.alloc (.cells #[.int .i64 Q.users, .slice ow Q.who.length cw, .slice of Q.fixed.length cf, .slice or Q.rules.length cr] 26)) := (Below.refl _ w1).alloc (Nat.le_refl _) _
    have h2 := h1.trans (hV.mono h1.size)
    have h3 := hB1.out.trans (h2.mono hB1.out.size)
    have hp : PbB (w1.alloc (.cells #[.int .i64 Q.users, .slice ow Q.who.length cw, .slice of Q.fixed.length cf, .slice or Q.rules.length cr] 26)) w1.heap.size Q (.slice ow Q.who.length cw) (.slice of Q.fixed.length cf) (.slice or Q.rules.length cr) := heap_new w1 _
    exact ⟨hq1.out.below h2, ht'.out.over h3, h3, (hp.below hV).all⟩
  clear hb1 hB0 K0 ho1 hq1 hB1 ht'
  obtain ⟨W1, hW1⟩ : ∃ W, W = w1.alloc (.cells #[.int .i64 Q.users, .slice ow Q.who.length cw, .slice of Q.fixed.length cf, .slice or Q.rules.length cr] 26) := ⟨_, rfl⟩
  rw [← hW1] at hY
  go_upto_region 2 with fail
  rw [← hW1]
  clear hW1
  generalize w1.heap.size = g at *
  obtain ⟨p0, t0, b0, q0⟩ := hY.out W1 (Below.refl _ _)
  have KC := hide' (hQb.out W1 _ _ _ p0)
  clear p0 t0 b0 hQb
  go_wp2_with fail
  refine KC.out.mono ?_
  rintro e w3 ⟨va, vb, vc, rfl, hq3, hb3, ho3⟩
  have hb3' := hide' hb3.out
  have KWy := hide' (whyF Q va vb vc w3 hq3.out hk.out (hY.out w3 hb3.out).2.1 (fun ad n c e => (ho3.out ad n c e).2))
  obtain ⟨x1, y1, x2, y2, x3, y3, rfl, rfl, rfl⟩ := hq3.out.shape
  unfold pbV at KWy
  clear KC q0 hq3 ho3 hb3
  go_wp2_with fail
  refine KWy.out.mono ?_
  rintro e w4 ⟨o1, k1, o2, k2, A, B, s, rfl, hA, hB, hb4, hS⟩
  have hB4 := hide' (hb3'.out.trans (hb4.out.mono hb3'.out.size))
  obtain ⟨p4, t4, b4, q4⟩ := hY.out w4 hB4.out
  have KWd := hide' (whyD Q _ _ _ w4 p4 hk.out t4)
  unfold pbV at KWd
  have hfew := hS.out.few hk.out
  clear KWy hb3' hb4 p4 t4 b4 hk
  go_wp2_with fail
  refine KWd.out.mono ?_
  rintro e w5 ⟨o3, k3, o4, k4, A', B', s', rfl, hA', hB', hb5, hS'⟩
  obtain ⟨rfl, rfl, rfl⟩ := hS.out.one hS'.out
  have hB5 := hide' (hB4.out.trans (hb5.out.mono hB4.out.size))
  have hal : (ints A).length ≤ 1000000 := by rw [ints_len]; omega
  have hbl : (ints B).length ≤ 1000000 := by rw [ints_len]; omega
  have KI1 := hide' (keepInts (ints A) (ints A) (.slice o1 A.length k1) (.slice o3 A.length k3) w5 (hA.out.below hb5.out (Nat.le_refl _)) hA'.out hal hal)
  have KI2 : Hid (∀ V, Below w5.heap.size w5 V → Calls Tryz.prog 7 #[.slice o2 B.length k2, .slice o4 B.length k4] V fun e w' => e = .returned (.bool (decide (ints B = ints B))) ∧ Below V.heap.size V w') := fun V hV => keepInts (ints B) (ints B) _ _ V ((hB.out.below hb5.out (Nat.le_refl _)).below hV (Nat.le_refl _)) (hB'.out.below hV (Nat.le_refl _)) hbl hbl
  rw [decide_eq_true rfl] at KI1 KI2
  have hYw : Hid (∀ V, Below w5.heap.size w5 V → M.Tab V ∧ Below w.heap.size w V) := fun V hV => by
    obtain ⟨_, h2, h3, _⟩ := hY.out V (hB5.out.trans (hV.mono hB5.out.size))
    exact ⟨h2, h3⟩
  clear KWd hA hB hA' hB' hS hS' hb5 hY hB4 hB5 q4 hal hbl hfew
  cases s
  all_goals
    go_wp2_with fail
    refine KI1.out.mono ?_
    rintro e w6 ⟨rfl, hb6⟩
    have hb6' := hide' hb6
    clear KI1 hb6
    go_wp2_with fail
    refine (KI2.out _ hb6'.out).mono ?_
    rintro e w7 ⟨rfl, hb7⟩
    have hb7' := hide' (hb6'.out.trans (hb7.mono hb6'.out.size))
    clear KI2 hb7 hb6'
    go_wp2_with fail
    refine (wakesCF w7 (hYw.out _ hb7'.out).1).mono ?_
    rintro e w8 ⟨rfl, hb8⟩
    have hF := hide' (hYw.out _ (hb7'.out.trans (hb8.mono hb7'.out.size))).2
    clear hYw hb7' hb8
    go_wp2
    go_ret
    exact ⟨rfl, hF.out⟩
end Go.Proofs.YtcancjbpcppecaaGreatDoor.S
