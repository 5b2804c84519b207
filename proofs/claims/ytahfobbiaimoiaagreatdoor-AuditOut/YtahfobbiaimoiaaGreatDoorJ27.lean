/- Check and Order of a flow. -/
import Derived.Test.YtahfobbiaimoiaaGreatDoorJ21
import Derived.Test.YtahfobbiaimoiaaGreatDoorJ26
namespace Go.Proofs.YtahfobbiaimoiaaGreatDoor
open Go.RowKit
theorem chkF_nm {F : Fw} (h : lg F.name = false) : chkF F = 4 := by unfold chkF; rw [if_pos h]
theorem chkF_st {F : Fw} (h : lg F.name = true) (hs : stpE F.steps ≠ 0) : chkF F = stpE F.steps := by
  unfold chkF
  unfold stpE at hs ⊢
  rw [if_neg (by rw [h]; decide)]
  split
  · rfl
  · split
    · rfl
    · rename_i h1 h2
      rw [if_neg h1, if_neg h2] at hs
      rw [if_pos hs]
theorem stpE_zero {L : List Sp} (h : stpE L = 0) : L.length ≤ 12 ∧ L.length ≠ 0 ∧ fstE L L.length = 0 := by
  unfold stpE at h
  split at h
  · cases h
  · split at h
    · cases h
    · rename_i h1 h2; exact ⟨by omega, h2, h⟩
theorem chkF_ru {F : Fw} (h : lg F.name = true) (hs : stpE F.steps = 0) (hr : rulE (F.steps.length : Nat) F.rules ≠ 0) : chkF F = rulE (F.steps.length : Nat) F.rules := by
  obtain ⟨h1, h2, h3⟩ := stpE_zero hs
  unfold chkF
  rw [if_neg (by rw [h]; decide), if_neg (by omega), if_neg h2, if_neg (by rw [h3]; decide)]
  unfold rulE at hr ⊢
  split
  · rfl
  · split
    · rfl
    · rename_i g1 g2
      rw [if_neg g1, if_neg g2] at hr
      exact absurd rfl hr
theorem rulE_zero {n : Int} {R : List Rl} (h : rulE n R = 0) : R.length ≤ 32 ∧ R.all (chk n) = true := by
  unfold rulE at h
  split at h
  · cases h
  · split at h
    · cases h
    · rename_i h1 h2; exact ⟨by omega, by simpa using h2⟩
theorem chkF_cy {F : Fw} (h : lg F.name = true) (hs : stpE F.steps = 0) (hr : rulE (F.steps.length : Nat) F.rules = 0) : (O.cycL F.steps.length (prs F.steps) → chkF F = 6) ∧ (¬ O.cycL F.steps.length (prs F.steps) → chkF F = 0) := by
  obtain ⟨h1, h2, h3⟩ := stpE_zero hs
  obtain ⟨g1, g2⟩ := rulE_zero hr
  unfold chkF
  rw [if_neg (by rw [h]; decide), if_neg (by omega), if_neg h2, if_neg (by rw [h3]; decide), if_neg (by omega), if_neg (by rw [g2]; decide)]
  exact ⟨fun h => if_pos h, fun h => if_neg h⟩
set_option maxRecDepth 100000 in
set_option maxHeartbeats 4000000 in
theorem checkFlF (F : Fw) (v : Value) (w : World) (hv : flV w v F) (hB : FlB F) (ht : O.Tab w) :
    Calls Tryz.prog 116 #[v] w (flErr w (chkF F)) := by
  obtain ⟨sv, rvv, rfl, hs, hr⟩ := hv
  have hs0 := hide' hs
  have hr0 := hide' hr
  obtain ⟨oa, cap, rfl⟩ := hs.shape
  obtain ⟨ob, cb, rfl⟩ := hr.shape
  have K0 : Hid (∀ W, Calls Tryz.prog 136 #[.string F.name] W fun e w' => e = .returned (.bool (lg F.name)) ∧ Below W.heap.size W w') := fun W => legF _ W hB.nm
  have K1 : Hid (∀ W, Below w.heap.size w W → Calls Tryz.prog 137 #[.agg #[.string F.name, .slice oa F.steps.length cap, .slice ob F.rules.length cb]] W (flErr W (stpE F.steps))) := fun W hW => checkStepsF F.steps _ F.name ob _ cb W (hs0.out.below hW (Nat.le_refl _)) hB.sl hB.st
  have K2 : Hid (∀ W, Below w.heap.size w W → Calls Tryz.prog 138 #[.agg #[.string F.name, .slice oa F.steps.length cap, .slice ob F.rules.length cb]] W (flErr W (rulE (F.steps.length : Nat) F.rules))) := fun W hW => checkRulesF F.rules _ F.name oa _ cap W (hr0.out.below hW (Nat.le_refl _)) hB.rl hB.ru
  have K3 : Hid (∀ W, Below w.heap.size w W → Calls Tryz.prog 117 #[.slice oa F.steps.length cap] W fun e w' => ∃ po z, e = .returned (.tuple #[.pointer po, .int .i64 z]) ∧ Hid (O.NewC W (F.steps.length : Nat) (prs F.steps) po z w') ∧ Below W.heap.size W w') := fun W hW => orderOfF F.steps _ W (hs0.out.below hW (Nat.le_refl _)) hB.sl (fun s h => (hB.st s h).1) (ht.over hW)
  have z0 : Hid (lg F.name = false → chkF F = 4) := fun h => chkF_nm h
  have z1 : Hid (lg F.name = true → stpE F.steps ≠ 0 → chkF F = stpE F.steps) := fun h1 h2 => chkF_st h1 h2
  have z2 : Hid (lg F.name = true → stpE F.steps = 0 → rulE (F.steps.length : Nat) F.rules ≠ 0 → chkF F = rulE (F.steps.length : Nat) F.rules) := fun h1 h2 h3 => chkF_ru h1 h2 h3
  have z3 : Hid (lg F.name = true → stpE F.steps = 0 → rulE (F.steps.length : Nat) F.rules = 0 → (O.cycL F.steps.length (prs F.steps) → chkF F = 6) ∧ (¬ O.cycL F.steps.length (prs F.steps) → chkF F = 0)) := fun h1 h2 h3 => chkF_cy h1 h2 h3
  have z4 : Hid (stpE F.steps = 0 → O.goodP (F.steps.length : Nat) (prs F.steps)) := fun h => by
    obtain ⟨h1, h2, h3⟩ := stpE_zero h
    exact prs_good (by omega) h3
  generalize chkF F = z at *
  generalize stpE F.steps = e1 at *
  generalize rulE (F.steps.length : Nat) F.rules = e2 at *
  generalize lg F.name = b0 at *
  clear hs hr hs0 hr0 hB ht
  generalize prs F.steps = P at *
  generalize F.name = nm at *
  generalize F.steps.length = ns at *
  generalize F.rules.length = nr at *
  have D1 := hide' (heap_alloc_new w (.cells #[.string nm, .slice oa ns cap, .slice ob nr cb] 25))
  have B0 : Hid (Below w.heap.size w (w.alloc (.cells #[.string nm, .slice oa ns cap, .slice ob nr cb] 25))) := (Below.refl _ w).alloc (Nat.le_refl _) _
  go_enter Tryz.func116, Tryz.ntmps116
  go_wp2_with fail
  generalize w.alloc (.cells #[.string nm, .slice oa ns cap, .slice ob nr cb] 25) = W1 at *
  have hK : Hid (∀ W, Below W1.heap.size W1 W → Below w.heap.size w W ∧ W.cell? ⟨w.heap.size, 0, none⟩ = some (.string nm) ∧ W.cell? ⟨w.heap.size, 1, none⟩ = some (.slice oa ns cap) ∧ W.cell? ⟨w.heap.size, 2, none⟩ = some (.slice ob nr cb)) := fun W hW => by
    have e1 := (hW.block _ (Array.getElem?_eq_some_iff.1 D1.out).1).trans D1.out
    exact ⟨B0.out.trans (hW.mono B0.out.size), by simp [World.cell?, e1], by simp [World.cell?, e1], by simp [World.cell?, e1]⟩
  clear D1
  refine (K0.out _).mono ?_
  rintro e w2 ⟨rfl, hb2⟩
  obtain ⟨hB2, k0, k1, k2⟩ := hK.out w2 hb2
  have B2 := hide' hB2
  have b2 := hide' hb2
  clear hb2 hB2 K0
  cases b0 with
  | false =>
    have hz := hide' (z0.out rfl)
    clear z0 z1 z2 z3 z4 K1 K2 K3 hK
    go_wp2
    go_ret
    exact ⟨by rw [hz.out]; rfl, B2.out⟩
  | true =>
  clear z0
  go_wp2_with fail
  refine (K1.out _ B2.out).mono ?_
  rintro e w3 ⟨rfl, hb3⟩
  have b3 := hide' (b2.out.trans (hb3.mono b2.out.size))
  clear hb3 B2 b2 k0 k1 k2 K1
  obtain ⟨hB3, k0, k1, k2⟩ := hK.out w3 b3.out
  have B3 := hide' hB3
  clear hB3
  by_cases h1 : e1 = 0
  · subst h1
    go_wp2_with fail
    refine (K2.out _ B3.out).mono ?_
    rintro e w4 ⟨rfl, hb4⟩
    have b4 := hide' (b3.out.trans (hb4.mono b3.out.size))
    clear hb4 B3 b3 k0 k1 k2 K2
    obtain ⟨hB4, k0, k1, k2⟩ := hK.out w4 b4.out
    have B4 := hide' hB4
    clear hB4
    by_cases h2 : e2 = 0
    · subst h2
      go_wp2_with fail
      refine (K3.out _ B4.out).mono ?_
      rintro e w5 ⟨po, y, rfl, hC, hb5⟩
      have B5 := hide' (B4.out.trans (hb5.mono B4.out.size))
      have g := z4.out (by first | trivial | rfl)
      have c := z3.out (by first | trivial | rfl) (by first | trivial | rfl) (by first | trivial | rfl)
      have hy : Hid ((y = 6 ∧ z = 6) ∨ (y = 0 ∧ z = 0)) := by
        rcases hC.out with ⟨q1, _⟩ | ⟨_, q2, _, q3⟩ | ⟨_, q2, q3, _⟩
        · exact absurd g q1
        · rw [Int.toNat_natCast] at q2; exact .inl ⟨q3, c.1 q2⟩
        · rw [Int.toNat_natCast] at q2; exact .inr ⟨q3, c.2 q2⟩
      clear hC hb5 B4 b4 k0 k1 k2 K3 z1 z2 z3 z4 g c hK
      rcases hy.out with ⟨rfl, hz⟩ | ⟨rfl, hz⟩
      · have hz' := hide' hz
        clear hz hy
        go_wp2
        go_ret
        exact ⟨by rw [hz'.out]; rfl, B5.out⟩
      · have hz' := hide' hz
        clear hz hy
        go_wp2
        go_ret
        exact ⟨by rw [hz'.out]; rfl, B5.out⟩
    · have hz := hide' (z2.out (by first | trivial | rfl) (by first | trivial | rfl) h2)
      have h2' : (e2 == 0) = false := by rw [beq_eq_false_iff_ne]; exact h2
      clear z1 z2 z3 z4 K3 hK k0 k1 k2 h2
      go_wp2
      go_ret
      exact ⟨by rw [hz.out]; rfl, B4.out⟩
  · have hz := hide' (z1.out (by first | trivial | rfl) h1)
    have h1' : (e1 == 0) = false := by rw [beq_eq_false_iff_ne]; exact h1
    clear z1 z2 z3 z4 K2 K3 hK k0 k1 k2 h1
    go_wp2
    go_ret
    exact ⟨by rw [hz.out]; rfl, B3.out⟩
/-- What Order answers. -/
def OrdR (F : Fw) (w : World) (e : Ending) (w' : World) : Prop :=
  Below w.heap.size w w' ∧ ((chkF F ≠ 0 ∧ e = .returned (.tuple #[.pointer none, .int .i64 (chkF F)])) ∨
   (FlOk F ∧ ∃ go gp gs Pf Sf, e = .returned (.tuple #[.pointer (some ⟨go, 0, none⟩), .int .i64 0]) ∧ (w.heap.size ≤ go ∧ w.heap.size ≤ gp ∧ w.heap.size ≤ gs) ∧ O.OrdAt w' go gp gs F.steps.length Pf Sf ∧ O.Ord F.steps.length (O.ordL F.steps.length (prs F.steps)) Pf Sf))
set_option maxRecDepth 100000 in
set_option maxHeartbeats 4000000 in
theorem orderFlF (F : Fw) (v : Value) (w : World) (hv : flV w v F) (hB : FlB F) (ht : O.Tab w) :
    Calls Tryz.prog 77 #[v] w (OrdR F w) := by
  have hv0 := hide' hv
  obtain ⟨sv, rvv, rfl, hs, hr⟩ := hv
  have hs0 := hide' hs
  obtain ⟨oa, cap, rfl⟩ := hs.shape
  obtain ⟨ob, cb, rfl⟩ := hr.shape
  have K0 : Hid (∀ W, Below w.heap.size w W → Calls Tryz.prog 116 #[.agg #[.string F.name, .slice oa F.steps.length cap, .slice ob F.rules.length cb]] W (flErr W (chkF F))) := fun W hW => checkFlF F _ W (hv0.out.below hW (Nat.le_refl _)) hB (ht.over hW)
  have K3 : Hid (∀ W, Below w.heap.size w W → Calls Tryz.prog 117 #[.slice oa F.steps.length cap] W fun e w' => ∃ po z, e = .returned (.tuple #[.pointer po, .int .i64 z]) ∧ Hid (O.NewC W (F.steps.length : Nat) (prs F.steps) po z w') ∧ Below W.heap.size W w') := fun W hW => orderOfF F.steps _ W (hs0.out.below hW (Nat.le_refl _)) hB.sl (fun s h => (hB.st s h).1) (ht.over hW)
  have hOk : Hid (chkF F = 0 → FlOk F) := fun h => chkF_zero h
  have hR : Hid (∀ e w', Below w.heap.size w w' → ((chkF F ≠ 0 ∧ e = .returned (.tuple #[.pointer none, .int .i64 (chkF F)])) ∨ (FlOk F ∧ ∃ go gp gs Pf Sf, e = .returned (.tuple #[.pointer (some ⟨go, 0, none⟩), .int .i64 0]) ∧ (w.heap.size ≤ go ∧ w.heap.size ≤ gp ∧ w.heap.size ≤ gs) ∧ O.OrdAt w' go gp gs F.steps.length Pf Sf ∧ O.Ord F.steps.length (O.ordL F.steps.length (prs F.steps)) Pf Sf)) → OrdR F w e w') := fun e w' h1 h2 => ⟨h1, h2⟩
  generalize hQ : OrdR F w = QQ at *
  generalize chkF F = z at *
  clear hs hr hs0 hv0 hB ht hQ
  have D1 := hide' (heap_alloc_new w (.cells #[.string F.name, .slice oa F.steps.length cap, .slice ob F.rules.length cb] 25))
  have B0 : Hid (Below w.heap.size w (w.alloc (.cells #[.string F.name, .slice oa F.steps.length cap, .slice ob F.rules.length cb] 25))) := (Below.refl _ w).alloc (Nat.le_refl _) _
  go_enter Tryz.func77, Tryz.ntmps77
  go_wp2_with fail
  generalize w.alloc (.cells #[.string F.name, .slice oa F.steps.length cap, .slice ob F.rules.length cb] 25) = W1 at *
  have hK : Hid (∀ W, Below W1.heap.size W1 W → Below w.heap.size w W ∧ W.cell? ⟨w.heap.size, 1, none⟩ = some (.slice oa F.steps.length cap)) := fun W hW => by
    have e1 := (hW.block _ (Array.getElem?_eq_some_iff.1 D1.out).1).trans D1.out
    exact ⟨B0.out.trans (hW.mono B0.out.size), by simp [World.cell?, e1]⟩
  clear D1
  refine (K0.out _ B0.out).mono ?_
  rintro e w2 ⟨rfl, hb2⟩
  obtain ⟨hB2, k1⟩ := hK.out w2 hb2
  have B2 := hide' hB2
  clear hb2 hB2 K0 B0
  by_cases h0 : z = 0
  · have ok := hide' (hOk.out h0)
    subst h0
    go_wp2_with fail
    refine (K3.out _ B2.out).mono ?_
    rintro e w5 ⟨po, y, rfl, hC, hb5⟩
    have B5 := hide' (B2.out.trans (hb5.mono B2.out.size))
    have hgo : Hid (∃ go gp gs Pf Sf, po = some ⟨go, 0, none⟩ ∧ y = 0 ∧ (w.heap.size ≤ go ∧ w.heap.size ≤ gp ∧ w.heap.size ≤ gs) ∧ O.OrdAt w5 go gp gs F.steps.length Pf Sf ∧ O.Ord F.steps.length (O.ordL F.steps.length (prs F.steps)) Pf Sf) := by
      have g := prs_good (by have := ok.out.le; omega) ok.out.st
      rcases newC_down hC.out B2.out.size with ⟨q1, _⟩ | ⟨_, q2, _, q3⟩ | ⟨_, q2, q3, go, gp, gs, Pf, Sf, q4, q5, q6, q7⟩
      · exact absurd g q1
      · rw [Int.toNat_natCast] at q2; exact absurd q2 ok.out.cy
      · rw [Int.toNat_natCast] at q6 q7; exact ⟨go, gp, gs, Pf, Sf, q4, q3, q5, q6, q7⟩
    obtain ⟨go, gp, gs, Pf, Sf, rfl, rfl, q5, q6, q7⟩ := hgo.out
    have hF := hide' (hR.out _ w5 B5.out (.inr ⟨ok.out, go, gp, gs, Pf, Sf, rfl, q5, q6, q7⟩))
    clear hgo q5 q6 q7 hC hb5 K3 k1 hK hR ok hOk B2 B5
    go_wp2
    exact hF.out
  · have h0' : (z == 0) = false := by rw [beq_eq_false_iff_ne]; exact h0
    have hF := hide' (hR.out _ w2 B2.out (.inl ⟨h0, rfl⟩))
    clear K3 hK hR hOk h0 k1 B2
    go_wp2
    exact hF.out
end Go.Proofs.YtahfobbiaimoiaaGreatDoor
