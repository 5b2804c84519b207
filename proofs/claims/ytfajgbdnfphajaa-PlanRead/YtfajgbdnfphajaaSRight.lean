/- The document's Right. -/
import Derived.Test.YtfajgbdnfphajaaRRef
namespace Go.Proofs.Ytfajgbdnfphajaa.S
open Go.RowKit
def rgt (n : Int) (R : List Rl) : Bool := decide (0 ≤ n) && decide (n ≤ 12) && R.all (chk n)
set_option maxRecDepth 100000 in
set_option maxHeartbeats 2000000 in
theorem rRight (n : Int) (R : List Rl) (v : Value) (w : World) (hr : RowR w v R) (hR : R.length ≤ 1000) (hm : ∀ r ∈ R, r.steps.length ≤ 1000) :
    Calls Try.prog 33 #[.int .i64 n, v] w fun e w' => e = .returned (.bool (rgt n R)) ∧ Below w.heap.size w w' := by
  have KC : Hid (∀ r sv W, r ∈ R → RowI w sv r.steps → Below w.heap.size w W → Calls Try.prog 42 #[.int .i64 n, rv r sv] W fun e w' => e = .returned (.bool (chk n r)) ∧ Below W.heap.size W w') := fun r sv W hr hs hW => rCheck n r sv W (hs.below hW (Nat.le_refl _)) (by have := hm r hr; omega)
  obtain ⟨oa, cap, rfl, hcap, hc⟩ := hr
  have hc' := hide' hc
  clear hc hcap hm
  by_cases h1 : 0 ≤ n
  · by_cases h2 : n ≤ 12
    · have hRg : Hid (rgt n R = R.all (chk n)) := by show _ = _; unfold rgt; rw [decide_eq_true h1, decide_eq_true h2]; rfl
      have h1' : decide (n < 0) = false := decide_eq_false (by omega)
      have h2' : ¬ 12 < n := by omega
      go_enter Try.func33, Try.ntmps33
      go_wp2
      go_loopw [5] (fun k wr => ∃ (c : Nat), c ≤ R.length ∧ k = .int .i64 c ∧ Hid ((R.take c).all (chk n) = true) ∧ Hid (Below w.heap.size w wr)) (fun k _ => ((R.length : Int) - intOf k).toNat)
      case atStart => exact ⟨0, Nat.zero_le _, rfl, by show _ = _; simp, Below.refl _ _⟩
      case round =>
        obtain ⟨c, hcl, rfl, hA, hB⟩ := hrel
        by_cases hlt : c < R.length
        · obtain ⟨r, hx⟩ : ∃ x, R[c]? = some x := ⟨_, List.getElem?_eq_getElem hlt⟩
          obtain ⟨g, o, sv, rfl, c1', c2', c3', hs⟩ := hc'.out c r hx
          have c1 := (hB.out.cell (p := ⟨g, o + c * 3, none⟩) (cell_lt c1')).trans c1'
          have c2 := (hB.out.cell (p := ⟨g, o + c * 3 + 1, none⟩) (cell_lt c2')).trans c2'
          have c3 := (hB.out.cell (p := ⟨g, o + c * 3 + 2, none⟩) (cell_lt c3')).trans c3'
          have hH := hide' (KC.out r sv wr (List.mem_of_getElem? hx) hs hB.out)
          have hN : Hid ((R.take (c + 1)).all (chk n) = chk n r) := by
            show _ = _
            rw [List.take_add_one, hx, show (some r).toList = [r] from rfl, List.all_append, hA.out]; simp
          have hF : Hid (chk n r = false → rgt n R = false) := fun h => by
            rw [hRg.out]
            rw [List.all_eq_false]
            exact ⟨r, List.mem_of_getElem? hx, by rw [h]; decide⟩
          obtain ⟨os, cs, rfl, _, _⟩ := hs
          unfold rv at hH
          clear KC hc' c1' c2' c3' hx hA hRg
          generalize r.steps.length = q at *
          generalize r.kind = kd at *
          generalize r.k = kk at *
          cases hh : chk n r with
          | true =>
            rw [hh] at hH hN
            clear hh hF
            go_wp2_with (go_at_call 42; refine hH.out.mono ?_; rintro e w2 ⟨rfl, hb1⟩)
            exact ⟨⟨c + 1, by omega, by go_num, hN, hB.out.trans (hb1.mono hB.out.size)⟩, by simp [intOf]; omega⟩
          | false =>
            rw [hh] at hH
            have hF' := hide' (hF.out hh)
            clear hh hN hF
            go_wp2_with (go_at_call 42; refine hH.out.mono ?_; rintro e w2 ⟨rfl, hb1⟩)
            go_ret
            exact ⟨ret_bool hF'.out.symm, hB.out.trans (hb1.mono hB.out.size)⟩
        · obtain rfl : c = R.length := by omega
          rw [List.take_length] at hA
          clear hc' KC
          go_wp2
          go_ret
          exact ⟨ret_bool (by rw [hRg.out, hA.out]), hB.out⟩
    · have hRg : Hid (rgt n R = false) := by show _ = _; unfold rgt; rw [decide_eq_false h2]; simp
      have h1' : decide (n < 0) = false := decide_eq_false (by omega)
      have h2' : 12 < n := by omega
      clear hc' KC h2
      go_enter Try.func33, Try.ntmps33
      go_wp2
      go_ret
      exact ⟨ret_bool hRg.out.symm, Below.refl _ _⟩
  · have hRg : Hid (rgt n R = false) := by show _ = _; unfold rgt; rw [decide_eq_false h1]; rfl
    have h1' : n < 0 := by omega
    clear hc' KC h1
    go_enter Try.func33, Try.ntmps33
    go_wp2
    go_ret
    exact ⟨ret_bool hRg.out.symm, Below.refl _ _⟩
end Go.Proofs.Ytfajgbdnfphajaa.S
