/- The document's Check of a flow. -/
import Derived.Test.YtahfobbiaimoiaaGreatDoorJ14
import Derived.Test.YtahfobbiaimoiaaGreatDoorJ20
import Derived.Test.YtahfobbiaimoiaaGreatDoorJ26
import Derived.Test.YtahfobbiaimoiaaGreatDoorJ27
import Derived.Test.YtahfobbiaimoiaaGreatDoorJ30
import Derived.Deep.QuietTactic
import Derived.BigQuiet
import Derived.Deep.CutRange
import Derived.Deep.RegionHeld3
namespace Go.Proofs.YtahfobbiaimoiaaGreatDoor
open Go.RowKit
theorem rlegF (b : ByteArray) (w : World) (hm : b.size ≤ 9223372036854775807) : Calls Tryz.prog 79 #[.string b] w fun e w' => e = .returned (.bool (lg b)) ∧ w' = w := by
  have h := L.rLegal b.data.toList w (by rw [Array.length_toList]; exact hm)
  rwa [← L.bs_of] at h
/-- What the document's loop over After finds. -/
def risW (n : Int) (l : List Int) (k : Nat) : Bool := match l[k]? with
  | none => false
  | some x => decide (x < 0) || decide (n ≤ x) || (decide (0 < k) && decide (x ≤ (l[k - 1]?).getD 0))
theorem ris_from {n : Int} {l : List Int} (k : Nat) (lo : Int) (h0 : 0 ≤ lo) (hk : k = 0 → lo = 0) (hp : ∀ x, 0 < k → l[k - 1]? = some x → lo = x + 1) (hk1 : 0 < k → k - 1 < l.length) : (ris n lo (l.drop k) = true ↔ ∀ j, k ≤ j → risW n l j = false) := by
  induction hd : l.length - k generalizing k lo with
  | zero =>
    rw [List.drop_eq_nil_of_le (by omega)]
    simp only [ris, true_iff]
    intro j hj
    unfold risW
    rw [List.getElem?_eq_none (by omega)]
  | succ m ih =>
    have hlt : k < l.length := by omega
    have e : l.drop k = l[k] :: l.drop (k + 1) := List.drop_eq_getElem_cons hlt
    rw [e, ris]
    have hrec : 0 ≤ l[k] → (ris n (l[k] + 1) (l.drop (k + 1)) = true ↔ ∀ j, k + 1 ≤ j → risW n l j = false) := fun hx => ih (k + 1) (l[k] + 1) (by omega) (by omega) (fun x _ hx => by rw [Nat.add_sub_cancel, List.getElem?_eq_getElem hlt] at hx; cases hx; rfl) (fun _ => by omega) (by omega)
    have hthis : risW n l k = (decide (l[k] < 0) || decide (n ≤ l[k]) || (decide (0 < k) && decide (l[k] ≤ (l[k - 1]?).getD 0))) := by unfold risW; rw [List.getElem?_eq_getElem hlt]
    have hlo : lo ≤ l[k] ↔ ¬ (l[k] < 0) ∧ ¬ (0 < k ∧ l[k] ≤ (l[k - 1]?).getD 0) := by
      by_cases hk0 : k = 0
      · rw [hk hk0]; omega
      · have hk2 := hk1 (by omega)
        have := hp l[k - 1] (by omega) (List.getElem?_eq_getElem hk2)
        rw [List.getElem?_eq_getElem hk2]
        simp only [Option.getD_some]
        omega
    constructor
    · intro h j hj
      simp only [Bool.and_eq_true, decide_eq_true_eq] at h
      obtain ⟨⟨h1, h2⟩, h3⟩ := h
      by_cases hjk : j = k
      · subst hjk
        rw [hthis]
        have := hlo.1 h1
        simp
        exact ⟨⟨by omega, h2⟩, fun h => by have := this.2; simp only [not_and] at this; have := this h; omega⟩
      · exact (hrec (by omega)).1 h3 j (by omega)
    · intro h
      have h0' := h k (Nat.le_refl _)
      rw [hthis] at h0'
      simp at h0'
      obtain ⟨⟨h1, h2⟩, h3⟩ := h0'
      simp only [Bool.and_eq_true, decide_eq_true_eq]
      have : lo ≤ l[k] := hlo.2 ⟨by omega, fun hh => by have := h3 hh.1; omega⟩
      exact ⟨⟨this, h2⟩, (hrec h1).2 fun j hj => h j (by omega)⟩
theorem ris_iff (n : Int) (l : List Int) : ris n 0 l = true ↔ ∀ j, risW n l j = false := by
  have := ris_from (n := n) (l := l) 0 0 (Int.le_refl _) (fun _ => rfl) (fun x h => by omega) (fun h => by omega)
  rw [List.drop_zero] at this
  rw [this]
  exact ⟨fun h j => h j (Nat.zero_le _), fun h j _ => h j⟩
theorem chkF_12 {F : Fw} (h : lg F.name = true) (h2 : 12 < F.steps.length) : chkF F = 2 := by unfold chkF; rw [if_neg (by rw [h]; decide), if_pos h2]
theorem chkF_0 {F : Fw} (h : lg F.name = true) (h2 : F.steps.length = 0) : chkF F = 1 := by unfold chkF; rw [if_neg (by rw [h]; decide), if_neg (by omega), if_pos h2]
theorem chkF_s {F : Fw} (h : lg F.name = true) (h2 : ¬ 12 < F.steps.length) (h3 : F.steps.length ≠ 0) {c : Nat} {s : Sp} (hc : fstE F.steps c = 0) (hs : F.steps[c]? = some s) (hz : stE F.steps c s ≠ 0) : chkF F = stE F.steps c s := by
  have hlt := (List.getElem?_eq_some_iff.1 hs).1
  have e1 := fstE_at hc hs
  have e2 : fstE F.steps F.steps.length = stE F.steps c s := by rw [fstE_stop (k := c + 1) (by rw [e1]; exact hz) F.steps.length (by omega), e1]
  unfold chkF
  rw [if_neg (by rw [h]; decide), if_neg h2, if_neg h3, e2, if_pos hz]
theorem chkF_r {F : Fw} (h : lg F.name = true) (h2 : ¬ 12 < F.steps.length) (h3 : F.steps.length ≠ 0) (h4 : fstE F.steps F.steps.length = 0) (h5 : 32 < F.rules.length) : chkF F = 2 := by
  unfold chkF
  rw [if_neg (by rw [h]; decide), if_neg h2, if_neg h3, if_neg (by rw [h4]; decide), if_pos h5]
theorem chkF_u {F : Fw} (h : lg F.name = true) (h2 : ¬ 12 < F.steps.length) (h3 : F.steps.length ≠ 0) (h4 : fstE F.steps F.steps.length = 0) (h5 : ¬ 32 < F.rules.length) (h6 : F.rules.all (chk (F.steps.length : Int)) = false) : chkF F = 1 := by
  unfold chkF
  rw [if_neg (by rw [h]; decide), if_neg h2, if_neg h3, if_neg (by rw [h4]; decide), if_neg h5, if_pos h6]
theorem chkF_c {F : Fw} (h : lg F.name = true) (h2 : ¬ 12 < F.steps.length) (h3 : F.steps.length ≠ 0) (h4 : fstE F.steps F.steps.length = 0) (h5 : ¬ 32 < F.rules.length) (h6 : F.rules.all (chk (F.steps.length : Int)) = true) : (O.cycL F.steps.length (prs F.steps) → chkF F = 6) ∧ (¬ O.cycL F.steps.length (prs F.steps) → chkF F = 0) := by
  unfold chkF
  rw [if_neg (by rw [h]; decide), if_neg h2, if_neg h3, if_neg (by rw [h4]; decide), if_neg h5, if_neg (by rw [h6]; decide)]
  exact ⟨fun h => if_pos h, fun h => if_neg h⟩
theorem rgt_all {n : Nat} (h : ¬ 12 < n) (R : List Rl) : rgt (n : Int) R = R.all (chk (n : Int)) := by
  unfold rgt
  rw [decide_eq_true (by omega), decide_eq_true (by omega)]
  simp
theorem keep3 {W0 W w1 : World} {b : Nat} {x y z : Value} (h : W.cell? ⟨b, 0, none⟩ = some x ∧ W.cell? ⟨b, 1, none⟩ = some y ∧ W.cell? ⟨b, 2, none⟩ = some z ∧ Below W0.heap.size W0 W) (hb : Below W.heap.size W w1) : w1.cell? ⟨b, 0, none⟩ = some x ∧ w1.cell? ⟨b, 1, none⟩ = some y ∧ w1.cell? ⟨b, 2, none⟩ = some z ∧ Below W0.heap.size W0 w1 :=
  ⟨(hb.cell (p := ⟨b, 0, none⟩) (cell_lt h.1)).trans h.1, (hb.cell (p := ⟨b, 1, none⟩) (cell_lt h.2.1)).trans h.2.1, (hb.cell (p := ⟨b, 2, none⟩) (cell_lt h.2.2.1)).trans h.2.2.1, h.2.2.2.trans (hb.mono h.2.2.2.size)⟩
/-- What the walk is told of the numbers. -/
structure ZF (F : Fw) (z : Int) : Prop where
  n : lg F.name = false → z = 4
  t : lg F.name = true → 12 < F.steps.length → z = 2
  o : lg F.name = true → F.steps.length = 0 → z = 1
  s : lg F.name = true → ¬ 12 < F.steps.length → F.steps.length ≠ 0 → ∀ (c : Nat) (s : Sp), fstE F.steps c = 0 → F.steps[c]? = some s → stE F.steps c s ≠ 0 → z = stE F.steps c s
  r : lg F.name = true → ¬ 12 < F.steps.length → F.steps.length ≠ 0 → fstE F.steps F.steps.length = 0 → 32 < F.rules.length → z = 2
  u : lg F.name = true → ¬ 12 < F.steps.length → F.steps.length ≠ 0 → fstE F.steps F.steps.length = 0 → ¬ 32 < F.rules.length → F.rules.all (chk (F.steps.length : Int)) = false → z = 1
  c : lg F.name = true → ¬ 12 < F.steps.length → F.steps.length ≠ 0 → fstE F.steps F.steps.length = 0 → ¬ 32 < F.rules.length → F.rules.all (chk (F.steps.length : Int)) = true → (O.cycL F.steps.length (prs F.steps) → z = 6) ∧ (¬ O.cycL F.steps.length (prs F.steps) → z = 0)
theorem zf_of (F : Fw) : ZF F (chkF F) := ⟨chkF_nm, chkF_12, chkF_0, fun h1 h2 h3 _ _ h4 h5 h6 => chkF_s h1 h2 h3 h4 h5 h6, chkF_r, chkF_u, chkF_c⟩
theorem stE_4 {L : List Sp} {c : Nat} {s : Sp} (h : (lg s.name && lg s.duty) = false) : stE L c s = 4 := by unfold stE; rw [if_pos h]
theorem stE_5 {L : List Sp} {c : Nat} {s : Sp} (h : (lg s.name && lg s.duty) = true) (h2 : fnd L s.name 0 < (c : Int)) : stE L c s = 5 := by unfold stE; rw [if_neg (by rw [h]; decide), if_pos h2]
theorem stE_1 {L : List Sp} {c : Nat} {s : Sp} (h : (lg s.name && lg s.duty) = true) (h2 : ¬ fnd L s.name 0 < (c : Int)) (h3 : ris (L.length : Int) 0 s.after = false) : stE L c s = 1 := by unfold stE; rw [if_neg (by rw [h]; decide), if_neg h2, if_pos h3]
theorem stE_0 {L : List Sp} {c : Nat} {s : Sp} (h : (lg s.name && lg s.duty) = true) (h2 : ¬ fnd L s.name 0 < (c : Int)) (h3 : ris (L.length : Int) 0 s.after = true) : stE L c s = 0 := by unfold stE; rw [if_neg (by rw [h]; decide), if_neg h2, if_neg (by rw [h3]; decide)]
attribute [local irreducible] wpQuiet in
set_option maxRecDepth 100000 in
set_option maxHeartbeats 8000000 in
theorem checkD (F : Fw) (v : Value) (w : World) (hv : flV w v F) (hB : FlB F) : Calls Tryz.prog 50 #[v] w (flErr w (chkF F)) := by
  obtain ⟨sv, rvv, rfl, hs, hr⟩ := hv
  have hs0 := hide' hs
  have hr0 := hide' hr
  obtain ⟨oa, cap, rfl, hcap, hc⟩ := hs
  obtain ⟨ob, cb, rfl⟩ := hr.shape
  have hc' := hide' hc
  have K0 := hide' (fun W => rlegF F.name W hB.nm)
  have KL : Hid (∀ s ∈ F.steps, ∀ W, (Calls Tryz.prog 79 #[.string s.name] W fun e w' => e = .returned (.bool (lg s.name)) ∧ w' = W) ∧ (Calls Tryz.prog 79 #[.string s.duty] W fun e w' => e = .returned (.bool (lg s.duty)) ∧ w' = W)) := fun s h W => ⟨rlegF _ W (hB.st s h).2.1, rlegF _ W (hB.st s h).2.2⟩
  have KF : Hid (∀ W b, Below w.heap.size w W → Calls Tryz.prog 80 #[.agg #[.string F.name, .slice oa F.steps.length cap, .slice ob F.rules.length cb], .string b] W fun e w' => e = .returned (.int .i64 (fnd F.steps b 0)) ∧ Below W.heap.size W w') := fun W b hW => rFindF F.steps _ F.name b ob _ cb W (hs0.out.below hW (Nat.le_refl _)) hB.sl
  have KR : Hid (∀ W, Below w.heap.size w W → Calls Tryz.prog 81 #[.int .i64 (F.steps.length : Nat), .slice ob F.rules.length cb] W fun e w' => e = .returned (.bool (rgt (F.steps.length : Nat) F.rules)) ∧ Below W.heap.size W w') := fun W hW => rRight _ F.rules _ W (hr0.out.below hW (Nat.le_refl _)) hB.rl (fun r h => by have := hB.ru r h; omega)
  have KP : Hid (∀ W, Below w.heap.size w W → Calls Tryz.prog 83 #[.agg #[.string F.name, .slice oa F.steps.length cap, .slice ob F.rules.length cb]] W fun e w' => ∃ v', e = .returned v' ∧ O.PairsAt w' v' (prs F.steps) ∧ Below W.heap.size W w') := fun W hW => pairsD F.steps _ F.name ob _ cb W (hs0.out.below hW (Nat.le_refl _)) hB.sl (fun s h => (hB.st s h).1)
  have hpl : Hid ((prs F.steps).length ≤ 9000000000000000000) := by
    have h1 := prT_len (fun s h => (hB.st s h).1) F.steps.length
    have h2 := hB.sl
    show (prT F.steps F.steps.length).length ≤ _
    omega
  have KN : Hid (∀ W v', O.PairsAt W v' (prs F.steps) → Calls Tryz.prog 82 #[.int .i64 (F.steps.length : Nat), v'] W fun e w' => ∃ po z, e = .returned (.tuple #[.pointer po, .int .i64 z]) ∧ Hid (O.RefC W (F.steps.length : Nat) (prs F.steps) po z w') ∧ Below W.heap.size W w') := fun W v' hv' => O.refT _ v' _ W hv' hpl.out
  have hsl := hB.sl
  have hst : Hid (∀ s ∈ F.steps, s.after.length ≤ 30) := fun s h => (hB.st s h).1
  have hgood : Hid (F.steps.length ≤ 64 → fstE F.steps F.steps.length = 0 → O.goodP (F.steps.length : Int) (prs F.steps)) := fun h1 h2 => prs_good h1 h2
  have hZ := hide' (zf_of F)
  generalize chkF F = z at *
  clear hs0 hr0 hr hc hB hpl
  have D1 := hide' (heap_alloc_new w (.cells #[.string F.name, .slice oa F.steps.length cap, .slice ob F.rules.length cb] 25))
  have B0 : Hid (Below w.heap.size w (w.alloc (.cells #[.string F.name, .slice oa F.steps.length cap, .slice ob F.rules.length cb] 25))) := (Below.refl _ w).alloc (Nat.le_refl _) _
  go_enter Tryz.func50, Tryz.ntmps50
  go_wp2_with fail
  generalize w.alloc (.cells #[.string F.name, .slice oa F.steps.length cap, .slice ob F.rules.length cb] 25) = W1 at *
  have hK : Hid (∀ W, Below W1.heap.size W1 W → Below w.heap.size w W ∧ W.cell? ⟨w.heap.size, 0, none⟩ = some (.string F.name) ∧ W.cell? ⟨w.heap.size, 1, none⟩ = some (.slice oa F.steps.length cap) ∧ W.cell? ⟨w.heap.size, 2, none⟩ = some (.slice ob F.rules.length cb)) := fun W hW => by
    have e1 := (hW.block _ (Array.getElem?_eq_some_iff.1 D1.out).1).trans D1.out
    exact ⟨B0.out.trans (hW.mono B0.out.size), by simp [World.cell?, e1], by simp [World.cell?, e1], by simp [World.cell?, e1]⟩
  clear D1
  refine (K0.out _).mono ?_
  rintro e w1 ⟨rfl, hw⟩
  obtain rfl : W1 = w1 := hw.symm
  obtain ⟨-, k0, k1, k2⟩ := hK.out W1 (Below.refl _ _)
  cases hnm : lg F.name with
  | false =>
    have hz := hide' (hZ.out.n hnm)
    clear hZ KL KF KR KP KN hK hgood hst hc'
    go_wp2
    go_ret
    exact ⟨by rw [hz.out]; rfl, B0.out⟩
  | true =>
  by_cases h12 : 12 < F.steps.length
  · have hz := hide' (hZ.out.t hnm h12)
    clear hZ KL KF KR KP KN hK hgood hst hc'
    go_wp2
    go_ret
    exact ⟨by rw [hz.out]; rfl, B0.out⟩
  by_cases h0 : F.steps.length = 0
  · have hz := hide' (hZ.out.o hnm h0)
    have h0' : ((F.steps.length : Int) == 0) = true := by rw [h0]; rfl
    have h12' : decide ((12 : Int) < (F.steps.length : Int)) = false := decide_eq_false (by omega)
    have HB := hide' B0.out
    clear hZ KL KF KR KP KN hK hgood hst hc' h0 B0
    generalize F.steps.length = n at *
    go_wp2
    go_ret
    exact ⟨by rw [hz.out]; rfl, HB.out⟩
  have h0' : ((F.steps.length : Int) == 0) = false := by rw [beq_eq_false_iff_ne]; omega
  go_wp2
  go_loopw [3] (fun k wr => ∃ c : Nat, c ≤ F.steps.length ∧ k = .int .i64 c ∧ Hid (fstE F.steps c = 0) ∧ Hid (Below W1.heap.size W1 wr)) (fun k _ => ((F.steps.length : Int) - intOf k).toNat)
  case atStart => exact ⟨0, Nat.zero_le _, rfl, rfl, Below.refl _ _⟩
  case round =>
    clear k0 k1 k2
    obtain ⟨c, hcl, rfl, hA, hB⟩ := hrel
    obtain ⟨hBw, k0, k1, k2⟩ := hK.out wr hB.out
    by_cases hlt : c < F.steps.length
    · clear KR KP KN hgood
      obtain ⟨s, hx⟩ : ∃ x, F.steps[c]? = some x := ⟨_, List.getElem?_eq_getElem hlt⟩
      obtain ⟨g, o, av, rfl, c1', c2', c3', hs⟩ := hc'.out c s hx
      have d1 := (hBw.cell (p := ⟨g, o + c * 3, none⟩) (cell_lt c1')).trans c1'
      have d2 := (hBw.cell (p := ⟨g, o + c * 3 + 1, none⟩) (cell_lt c2')).trans c2'
      have d3 := (hBw.cell (p := ⟨g, o + c * 3 + 2, none⟩) (cell_lt c3')).trans c3'
      obtain ⟨os, cs, rfl, hcs, hsc⟩ := hs
      have hsc' := hide' hsc
      have hcs1 := hcs.1
      have hal := hst.out s (List.mem_of_getElem? hx)
      have KLn := hide' (fun W => (KL.out s (List.mem_of_getElem? hx) W).1)
      have KLd := hide' (fun W => (KL.out s (List.mem_of_getElem? hx) W).2)
      have hzs : Hid (stE F.steps c s ≠ 0 → z = stE F.steps c s) := fun h => hZ.out.s hnm h12 h0 c s hA.out hx h
      have hnext := hide' (fstE_at hA.out hx)
      have D5 := hide' (heap_alloc_new wr (.cells #[.string s.name, .string s.duty, .slice os s.after.length cs] 95))
      have B5 : Hid (Below W1.heap.size W1 (wr.alloc (.cells #[.string s.name, .string s.duty, .slice os s.after.length cs] 95))) := hB.out.alloc hB.out.size _
      have s4 : Hid ((lg s.name && lg s.duty) = false → stE F.steps c s = 4) := fun h => stE_4 h
      have s5 : Hid ((lg s.name && lg s.duty) = true → fnd F.steps s.name 0 < (c : Int) → stE F.steps c s = 5) := fun h h2 => stE_5 h h2
      have s1 : Hid ((lg s.name && lg s.duty) = true → ¬ fnd F.steps s.name 0 < (c : Int) → ris (F.steps.length : Int) 0 s.after = false → stE F.steps c s = 1) := fun h h2 h3 => stE_1 h h2 h3
      have s0 : Hid ((lg s.name && lg s.duty) = true → ¬ fnd F.steps s.name 0 < (c : Int) → ris (F.steps.length : Int) 0 s.after = true → stE F.steps c s = 0) := fun h h2 h3 => stE_0 h h2 h3
      have hri := hide' (ris_iff (F.steps.length : Int) s.after)
      clear hZ hc' hst KL hx hA hsc hcs c1' c2' c3' hBw
      generalize stE F.steps c s = y at *
      generalize ris (F.steps.length : Int) 0 s.after = b3 at *
      have KF' : Hid (∀ W, Below w.heap.size w W → Calls Tryz.prog 80 #[.agg #[.string F.name, .slice (some ⟨g, o, none⟩) F.steps.length cap, .slice ob F.rules.length cb], .string s.name] W fun e w' => e = .returned (.int .i64 (fnd F.steps s.name 0)) ∧ Below W.heap.size W w') := fun W hW => KF.out W s.name hW
      generalize fnd F.steps s.name 0 = b2 at *
      generalize lg s.name = l0 at *
      generalize lg s.duty = l1 at *
      clear KF
      go_wp2_with fail
      generalize hbw : wr.heap.size = bx at *
      generalize wr.alloc (.cells #[.string s.name, .string s.duty, .slice os s.after.length cs] 95) = W5 at *
      clear hbw d1 d2 d3 k0 k1 k2
      have hK5 : Hid (∀ W, Below W5.heap.size W5 W → Below W1.heap.size W1 W ∧ W.cell? ⟨bx, 0, none⟩ = some (.string s.name) ∧ W.cell? ⟨bx, 1, none⟩ = some (.string s.duty) ∧ W.cell? ⟨bx, 2, none⟩ = some (.slice os s.after.length cs)) := fun W hW => by
        have e1 := (hW.block _ (Array.getElem?_eq_some_iff.1 D5.out).1).trans D5.out
        exact ⟨B5.out.trans (hW.mono B5.out.size), by simp [World.cell?, e1], by simp [World.cell?, e1], by simp [World.cell?, e1]⟩
      clear D5
      refine (KLn.out _).mono ?_
      rintro e w2 ⟨rfl, hw⟩
      obtain rfl : W5 = w2 := hw.symm
      obtain ⟨-, t0, t1, t2⟩ := hK5.out W5 (Below.refl _ _)
      obtain ⟨hBw, k0, k1, k2⟩ := hK.out W5 B5.out
      have BW5 := hide' hBw
      clear hBw KLn hB
      cases l0 with
      | false =>
        have hy := s4.out rfl
        have hz := hide' (hzs.out (by rw [hy]; decide))
        have hy' := hide' hy
        clear hy hzs s4 s5 s1 s0 hri hK5 hK KF' KLd hnext
        go_wp2
        go_ret
        exact ⟨by rw [hz.out, hy'.out]; rfl, BW5.out⟩
      | true =>
      go_wp2_with fail
      refine (KLd.out _).mono ?_
      rintro e w2 ⟨rfl, hw⟩
      obtain rfl : W5 = w2 := hw.symm
      clear KLd
      cases l1 with
      | false =>
        have hy := s4.out (by first | trivial | rfl)
        have hz := hide' (hzs.out (by rw [hy]; decide))
        have hy' := hide' hy
        clear hy hzs s4 s5 s1 s0 hri hK5 hK KF' hnext
        go_wp2
        go_ret
        exact ⟨by rw [hz.out, hy'.out]; rfl, BW5.out⟩
      | true =>
      go_wp2_with fail
      refine (KF'.out _ BW5.out).mono ?_
      rintro e w6 ⟨rfl, hb6⟩
      obtain ⟨hb6', u0, u1, u2⟩ := hK5.out w6 hb6
      obtain ⟨hB6, j0, j1, j2⟩ := hK.out w6 hb6'
      have B6 := hide' hB6
      have b6 := hide' hb6'
      clear KF' hK5 hB6 hb6 hb6' t0 t1 t2 k0 k1 k2 BW5 s4 B5
      by_cases h5 : b2 < (c : Int)
      · have hy := s5.out (by first | trivial | rfl) h5
        have hz := hide' (hzs.out (by rw [hy]; decide))
        have hy' := hide' hy
        have h5' : decide (b2 < (c : Int)) = true := decide_eq_true h5
        clear hy hzs s5 s1 s0 hri hK hnext h5
        go_wp2
        go_ret
        exact ⟨by rw [hz.out, hy'.out]; rfl, B6.out⟩
      have h5' : decide (b2 < (c : Int)) = false := decide_eq_false h5
      have s1' : Hid (b3 = false → z = 1) := fun h => by have hy := s1.out (by first | trivial | rfl) (by omega) h; rw [hzs.out (by rw [hy]; decide), hy]
      have s0' : Hid (b3 = true → fstE F.steps (c + 1) = 0) := fun h => by rw [hnext.out]; exact s0.out (by first | trivial | rfl) (by omega) h
      clear s1 s0 s5 hzs hnext h5
      have HA : Hid (∀ i x, s.after[i]? = some x → ∃ gg oo, os = some ⟨gg, oo, none⟩ ∧ w6.cell? ⟨gg, oo + i, none⟩ = some (.int .i64 x)) := fun i x hx => by
        obtain ⟨gg, oo, e1, e2⟩ := hsc'.out i x hx
        exact ⟨gg, oo, e1, (B6.out.cell (p := ⟨gg, oo + i, none⟩) (cell_lt e2)).trans e2⟩
      clear hsc'
      go_wp2
      go_loopw [5] (fun k wr => ∃ (j q : Nat), j ≤ s.after.length ∧ k = .int .i64 j ∧ w6.drewN q = wr ∧ Hid (∀ i, i < j → risW (F.steps.length : Int) s.after i = false)) (fun k _ => ((s.after.length : Int) - intOf k).toNat)
      case atStart => exact ⟨0, 0, Nat.zero_le _, rfl, rfl, fun i h => absurd h (Nat.not_lt_zero _)⟩
      case round =>
        obtain ⟨j, q, hjl, rfl, rfl, hW⟩ := hrel
        by_cases hj : j < s.after.length
        · obtain ⟨x, hx⟩ : ∃ x, s.after[j]? = some x := ⟨_, List.getElem?_eq_getElem hj⟩
          obtain ⟨gg, oo, rfl, cx'⟩ := HA.out j x hx
          have cx : w6.cell? ⟨gg, oo + j, none⟩ = some (.int .i64 x) := cx'
          have u2' : w6.cell? ⟨bx, 2, none⟩ = some (.slice (some ⟨gg, oo, none⟩) s.after.length cs) := u2
          have j1' : w6.cell? ⟨w.heap.size, 1, none⟩ = some (.slice (some ⟨g, o, none⟩) F.steps.length cap) := j1
          have hrw : Hid (risW (F.steps.length : Int) s.after j = (decide (x < 0) || decide ((F.steps.length : Int) ≤ x) || (decide (0 < j) && decide (x ≤ (s.after[j - 1]?).getD 0)))) := by show _ = _; unfold risW; rw [hx]
          have hbad : Hid (risW (F.steps.length : Int) s.after j = true → z = 1) := fun h => s1'.out (by
            cases hb : b3 with
            | false => rfl
            | true => have := hri.out.1 hb j; rw [h] at this; cases this)
          have hgoodj : Hid (risW (F.steps.length : Int) s.after j = false → ∀ i, i < j + 1 → risW (F.steps.length : Int) s.after i = false) := fun h i hi => by
            by_cases e : i = j
            · rw [e]; exact h
            · exact hW.out i (by omega)
          have Bq : Hid (∀ m, Below w.heap.size w ((w6.drewN q).drewN m)) := fun m => (B6.out.trans ((drew_belowR w6 q).mono B6.out.size)).trans ((drew_belowR (w6.drewN q) m).mono (Nat.le_trans B6.out.size (drew_belowR w6 q).size))
          have cy : Hid (∀ j', j = j' + 1 → ∃ y, s.after[j']? = some y ∧ w6.cell? ⟨gg, oo + j', none⟩ = some (.int .i64 y)) := fun j' e => by
            obtain ⟨y, hy⟩ : ∃ y, s.after[j']? = some y := ⟨_, List.getElem?_eq_getElem (by omega)⟩
            obtain ⟨g2, o2, e2, c2⟩ := HA.out j' y hy
            cases e2
            exact ⟨y, hy, c2⟩
          clear HA hri s1' s0' hW hx cx' u0 u1 u2 j0 j1 j2 hK b6
          by_cases ha : x < 0
          · have a1 : decide (x < 0) = true := decide_eq_true ha
            have hz := hide' (hbad.out (by rw [hrw.out, a1]; rfl))
            clear hbad hgoodj hrw ha cy
            go_upto_region 18 with fail
            go_quiet (fail)
            go_wp2
            go_ret
            exact ⟨by rw [hz.out]; rfl, Bq.out _⟩
          have a1 : decide (x < 0) = false := decide_eq_false ha
          by_cases hb : (F.steps.length : Int) ≤ x
          · have b1 : decide ((F.steps.length : Int) ≤ x) = true := decide_eq_true hb
            have hz := hide' (hbad.out (by rw [hrw.out, a1, b1]; rfl))
            clear hbad hgoodj hrw ha hb cy
            go_upto_region 18 with fail
            go_quiet (fail)
            go_wp2
            go_ret
            exact ⟨by rw [hz.out]; rfl, Bq.out _⟩
          have b1 : decide ((F.steps.length : Int) ≤ x) = false := decide_eq_false hb
          by_cases h00 : j = 0
          · have e0 : decide (0 < j) = false := decide_eq_false (by omega)
            have hgd := hide' (hgoodj.out (by rw [hrw.out, a1, b1, e0]; rfl))
            have e0' : decide ((0 : Int) < (j : Int)) = false := decide_eq_false (by omega)
            clear hbad hgoodj hrw ha hb cy h00
            go_upto_region 18 with fail
            go_quiet (fail)
            go_wp2
            exact ⟨⟨j + 1, q + nq, by omega, by go_num, rfl, hgd⟩, by simp [intOf]; omega⟩
          obtain ⟨j', rfl⟩ : ∃ j', j = j' + 1 := ⟨j - 1, by omega⟩
          obtain ⟨y, hy, cy1⟩ := cy.out j' rfl
          have e0 : decide (0 < j' + 1) = true := decide_eq_true (by omega)
          have hpy : Hid ((s.after[j' + 1 - 1]?).getD 0 = y) := by show _ = _; rw [Nat.add_sub_cancel, hy]; rfl
          rw [hpy.out] at hrw
          clear cy hy hpy h00
          have hJ1 : j' < s.after.length := by omega
          by_cases hc : x ≤ y
          · have c1 : decide (x ≤ y) = true := decide_eq_true hc
            have hz := hide' (hbad.out (by rw [hrw.out, a1, b1, e0, c1]; rfl))
            clear hbad hgoodj hrw ha hb e0
            go_upto_region 18 with fail
            go_quiet (fail)
            go_wp2
            go_ret
            exact ⟨by rw [hz.out]; rfl, Bq.out _⟩
          · have c1 : decide (x ≤ y) = false := decide_eq_false hc
            have hgd := hide' (hgoodj.out (by rw [hrw.out, a1, b1, e0, c1]; rfl))
            clear hbad hgoodj hrw ha hb e0
            go_upto_region 18 with fail
            go_quiet (fail)
            go_wp2
            exact ⟨⟨j' + 1 + 1, q + nq, by omega, by go_num, rfl, hgd⟩, by simp [intOf]; omega⟩
        · obtain rfl : j = s.after.length := by omega
          have hb3 : Hid (b3 = true) := hri.out.2 fun i => by
            by_cases hi : i < s.after.length
            · exact hW.out i hi
            · unfold risW; rw [List.getElem?_eq_none (by omega)]
          have hn2 := hide' (s0'.out hb3.out)
          have bq := hide' (b6.out.trans ((drew_belowR w6 q).mono b6.out.size))
          clear s1' s0' hri HA hW hb3
          go_wp2
          exact ⟨⟨c + 1, by omega, by go_num, hn2, bq.out⟩, by simp [intOf]; omega⟩
    · obtain rfl : c = F.steps.length := by omega
      have hA' := hide' hA.out
      have BW := hide' hBw
      clear KF KL hc' hst hA hBw
      by_cases h32 : 32 < F.rules.length
      · have hz := hide' (hZ.out.r hnm h12 h0 hA'.out h32)
        clear hZ KR KP KN hK hgood
        go_wp2
        go_ret
        exact ⟨by rw [hz.out]; rfl, BW.out⟩
      have KR1 := hide' (KR.out wr BW.out)
      rw [rgt_all h12] at KR1
      cases hru : F.rules.all (chk (F.steps.length : Int)) with
      | false =>
        rw [hru] at KR1
        have hz := hide' (hZ.out.u hnm h12 h0 hA'.out h32 hru)
        clear hZ KR KP KN hK hgood hru
        go_wp2_with fail
        refine KR1.out.mono ?_
        rintro e w2 ⟨rfl, hb2⟩
        have B2 := hide' (BW.out.trans (hb2.mono BW.out.size))
        go_wp2
        go_ret
        exact ⟨by rw [hz.out]; rfl, B2.out⟩
      | true =>
        rw [hru] at KR1
        have hz := hide' (hZ.out.c hnm h12 h0 hA'.out h32 hru)
        have hg := hide' (hgood.out (by omega) hA'.out)
        clear hZ KR hgood hru
        go_wp2_with fail
        refine KR1.out.mono ?_
        rintro e w2 ⟨rfl, hb2⟩
        have b2 := hide' (hB.out.trans (hb2.mono hB.out.size))
        obtain ⟨hB2, j0, j1, j2⟩ := hK.out w2 b2.out
        have B2 := hide' hB2
        clear KR1 hb2 hB2 k0 k1 k2 hB BW
        go_wp2
        have hi0 : Hid (w2.drew.cell? ⟨w.heap.size, 0, none⟩ = some (.string F.name) ∧ w2.drew.cell? ⟨w.heap.size, 1, none⟩ = some (.slice oa F.steps.length cap) ∧ w2.drew.cell? ⟨w.heap.size, 2, none⟩ = some (.slice ob F.rules.length cb) ∧ Below w.heap.size w w2.drew) := ⟨j0, j1, j2, B2.out.drew⟩
        go_region_held3 (fun V => V.cell? ⟨w.heap.size, 0, none⟩ = some (.string F.name) ∧ V.cell? ⟨w.heap.size, 1, none⟩ = some (.slice oa F.steps.length cap) ∧ V.cell? ⟨w.heap.size, 2, none⟩ = some (.slice ob F.rules.length cb) ∧ Below w.heap.size w V) (first | (exact keep3 (by assumption) hb) | (exact keep3 hi0.out hb) | (exact hi0.out)) (first | (go_at_call 83; refine (KP.out _ (by first | exact ‹_ ∧ _ ∧ _ ∧ _›.2.2.2 | exact hi0.out.2.2.2)).mono ?_; rintro e w3 ⟨v3, rfl, hv3, hb⟩) | (go_at_call 82; refine (KN.out _ _ hv3).mono ?_; rintro e w4 ⟨po, y, rfl, hC, hb⟩))
        have B4 := hide' (‹w4.cell? _ = _ ∧ _ ∧ _ ∧ Below w.heap.size w w4›).2.2.2
        have hy : Hid (z = y) := by
          rcases hC.out with ⟨q1, _⟩ | ⟨_, q2, _, q3⟩ | ⟨_, q2, q3, _⟩
          · exact absurd hg.out q1
          · rw [Int.toNat_natCast] at q2; rw [q3]; exact hz.out.1 q2
          · rw [Int.toNat_natCast] at q2; rw [q3]; exact hz.out.2 q2
        clear hC KP KN hi0 hz hg hb hK j0 j1 j2
        go_wp2
        go_ret
        exact ⟨by rw [hy.out]; rfl, B4.out⟩
end Go.Proofs.YtahfobbiaimoiaaGreatDoor
