/- The document's unlike, often: what they answer. -/
import Derived.Test.YtfajgbdnfphajaaRHold
namespace Go.Proofs.Ytfajgbdnfphajaa
open Go.RowKit
theorem take_succI {l : List Int} {c : Nat} {x : Int} (h : l[c]? = some x) : l.take (c + 1) = l.take c ++ [x] := by rw [List.take_add_one, h]; rfl
theorem unl_take_le (P : List Int) (c : Nat) : unl (P.take c) ≤ c := by
  refine Nat.le_trans (unl_le _) ?_
  rw [List.length_take]; omega
set_option maxRecDepth 100000 in
set_option maxHeartbeats 2000000 in
theorem rUnlike (P : List Int) (v : Value) (w : World) (hr : RowI w v P) (hn : P.length ≤ 1000000) :
    Calls Try.prog 59 #[v] w fun e w' => e = .returned (.int .i64 (unl P : Nat)) ∧ Below w.heap.size w w' := by
  obtain ⟨oa, cap, rfl, _, hc⟩ := hr
  have hc' := hide' hc
  clear hc
  go_enter Try.func59, Try.ntmps59
  go_wp2
  go_loopw [3, 4, 5, 6] (fun m k _ _ wr => ∃ c : Nat, Hid (Below w.heap.size w wr) ∧ c ≤ P.length ∧ k = .int .i64 c ∧ m = .int .i64 ((unl (P.take c) : Nat) : Int)) (fun _ k _ _ _ => ((P.length : Int) - intOf k).toNat)
  case atStart => exact ⟨0, Below.refl _ _, Nat.zero_le _, rfl, rfl⟩
  case round =>
    obtain ⟨c, hB, hcl, rfl, rfl⟩ := hrel
    have hul := unl_take_le P c
    by_cases hlt : c < P.length
    · obtain ⟨x, hx⟩ : ∃ x, P[c]? = some x := ⟨_, List.getElem?_eq_getElem hlt⟩
      obtain ⟨g, o, rfl, cx0⟩ := hc'.out c x hx
      have hN : Hid (unl (P.take (c + 1)) = unl (P.take c) + if x ∈ P.take c then 0 else 1) := by show _ = _; rw [take_succI hx, unl_snoc]
      generalize unl (P.take c) = m at *
      go_wp2
      go_loopw [5, 6] (fun f k wr => ∃ d : Nat, Hid (Below w.heap.size w wr) ∧ d ≤ c ∧ k = .int .i64 d ∧ ∃ fv : Nat, f = .int .i64 (fv : Int) ∧ fv ≤ 1 ∧ Hid (fv = if x ∈ P.take d then 0 else 1)) (fun _ k _ => ((c : Int) - intOf k).toNat)
      case atStart => exact ⟨0, hB, Nat.zero_le _, rfl, 1, rfl, Nat.le_refl _, by show _ = _; simp⟩
      case round =>
        clear hB
        obtain ⟨d, hB, hdc, rfl, fv, rfl, hf1, hf⟩ := hrel
        by_cases hlt2 : d < c
        · obtain ⟨y, hy⟩ : ∃ y, P[d]? = some y := ⟨_, List.getElem?_eq_getElem (by omega)⟩
          obtain ⟨g', o', e', cy0⟩ := hc'.out d y hy
          cases e'
          have cx := (hB.out.cell (p := ⟨g, o + c, none⟩) (cell_lt cx0)).trans cx0
          have cy := (hB.out.cell (p := ⟨g, o + d, none⟩) (cell_lt cy0)).trans cy0
          clear cx0 cy0
          have hdl : d < P.length := by omega
          have hmem : Hid ((x ∈ P.take (d + 1)) ↔ (x ∈ P.take d ∨ x = y)) := by show _ ↔ _; rw [take_succI hy]; simp
          clear hx hy hc' hN
          by_cases hxy : y = x
          · subst hxy
            have hF : Hid (0 = if y ∈ P.take (d + 1) then 0 else 1) := by show _ = _; rw [if_pos (hmem.out.2 (.inr rfl))]
            clear hmem hf
            go_wp2
            go_region
            go_wp2
            exact ⟨⟨d + 1, hB.out.drew, by omega, by go_num, 0, rfl, by omega, hF⟩, by simp [intOf]; omega⟩
          · have hd : (y == x) = false := by simpa using hxy
            have hF : Hid (fv = if x ∈ P.take (d + 1) then 0 else 1) := by
              show _ = _
              rw [hf.out]
              by_cases h : x ∈ P.take d
              · rw [if_pos h, if_pos (hmem.out.2 (.inl h))]
              · rw [if_neg h, if_neg (fun h' => (hmem.out.1 h').elim h (fun e => hxy e.symm))]
            clear hmem hf hxy
            go_wp2
            go_region
            go_wp2
            exact ⟨⟨d + 1, hB.out.drew, by omega, by go_num, fv, rfl, hf1, hF⟩, by simp [intOf]; omega⟩
        · obtain rfl : d = c := by omega
          have hM : Hid (unl (P.take (d + 1)) = m + fv) := by show _ = _; rw [hN.out, hf.out]
          clear hN hf hc' hx
          go_wp2
          exact ⟨⟨d + 1, hB, by omega, by go_num, by rw [hM.out]; go_num⟩, by simp [intOf]; omega⟩
    · obtain rfl : c = P.length := by omega
      rw [List.take_length] at *
      clear hc'
      go_wp2
      go_ret
      exact ⟨rfl, hB.out⟩
/-- The greatest of the counts of the first ones. -/
def oft (P : List Int) (c : Nat) : Nat := ((P.take c).map fun x => P.count x).foldl max 0
theorem oft_all (P : List Int) : oft P P.length = mst P := by unfold oft mst; rw [List.take_length]
theorem oft_succ {P : List Int} {c : Nat} {x : Int} (h : P[c]? = some x) : oft P (c + 1) = max (oft P c) (P.count x) := by
  unfold oft
  rw [take_succI h, List.map_append, List.foldl_append]; rfl
theorem oft_le (P : List Int) (c : Nat) : oft P c ≤ P.length := by
  unfold oft
  rw [foldl_max]
  refine ⟨Nat.zero_le _, fun x hx => ?_⟩
  obtain ⟨y, _, rfl⟩ := List.mem_map.1 hx
  exact List.count_le_length
set_option maxRecDepth 100000 in
set_option maxHeartbeats 2000000 in
theorem rOften (P : List Int) (v : Value) (w : World) (hr : RowI w v P) (hn : P.length ≤ 1000000) :
    Calls Try.prog 60 #[v] w fun e w' => e = .returned (.int .i64 (mst P : Nat)) ∧ Below w.heap.size w w' := by
  obtain ⟨oa, cap, rfl, _, hc⟩ := hr
  have hc' := hide' hc
  clear hc
  go_enter Try.func60, Try.ntmps60
  go_wp2
  go_loopw [3, 4, 5, 6] (fun m k _ _ wr => ∃ c : Nat, Hid (Below w.heap.size w wr) ∧ c ≤ P.length ∧ k = .int .i64 c ∧ m = .int .i64 ((oft P c : Nat) : Int)) (fun _ k _ _ _ => ((P.length : Int) - intOf k).toNat)
  case atStart => exact ⟨0, Below.refl _ _, Nat.zero_le _, rfl, rfl⟩
  case round =>
    obtain ⟨c, hB, hcl, rfl, rfl⟩ := hrel
    have hul := oft_le P c
    by_cases hlt : c < P.length
    · obtain ⟨x, hx⟩ : ∃ x, P[c]? = some x := ⟨_, List.getElem?_eq_getElem hlt⟩
      obtain ⟨g, o, rfl, cx0⟩ := hc'.out c x hx
      have hN : Hid (oft P (c + 1) = max (oft P c) (P.count x)) := oft_succ hx
      generalize oft P c = m at *
      go_wp2
      go_loopw [5, 6] (fun f k wr => ∃ d : Nat, Hid (Below w.heap.size w wr) ∧ d ≤ P.length ∧ k = .int .i64 d ∧ ∃ fv : Nat, f = .int .i64 (fv : Int) ∧ fv ≤ d ∧ Hid (fv = (P.take d).count x)) (fun _ k _ => ((P.length : Int) - intOf k).toNat)
      case atStart => exact ⟨0, hB, Nat.zero_le _, rfl, 0, rfl, Nat.le_refl _, by show _ = _; simp⟩
      case round =>
        clear hB
        obtain ⟨d, hB, hdc, rfl, fv, rfl, hf1, hf⟩ := hrel
        by_cases hlt2 : d < P.length
        · obtain ⟨y, hy⟩ : ∃ y, P[d]? = some y := ⟨_, List.getElem?_eq_getElem (by omega)⟩
          obtain ⟨g', o', e', cy0⟩ := hc'.out d y hy
          cases e'
          have cx := (hB.out.cell (p := ⟨g, o + c, none⟩) (cell_lt cx0)).trans cx0
          have cy := (hB.out.cell (p := ⟨g, o + d, none⟩) (cell_lt cy0)).trans cy0
          clear cx0 cy0
          have hF : Hid ((P.take (d + 1)).count x = fv + if y = x then 1 else 0) := by
            show _ = _
            rw [take_succI hy, List.count_append, ← hf.out, List.count_singleton]
            simp
          clear hx hy hc' hN hf
          by_cases hxy : y = x
          · subst hxy
            rw [if_pos rfl] at hF
            go_wp2
            go_region
            go_wp2
            exact ⟨⟨d + 1, hB.out.drew, by omega, by go_num, fv + 1, by go_num, by omega, hF.out.symm⟩, by simp [intOf]; omega⟩
          · have hd : (y == x) = false := by simpa using hxy
            rw [if_neg hxy] at hF
            clear hxy
            go_wp2
            go_region
            go_wp2
            exact ⟨⟨d + 1, hB.out.drew, by omega, by go_num, fv, rfl, by omega, hF.out.symm⟩, by simp [intOf]; omega⟩
        · obtain rfl : d = P.length := by omega
          rw [List.take_length] at hf
          rw [← hf.out] at hN
          clear hf hc' hx
          by_cases hmf : m < fv
          · have hM : Hid (oft P (c + 1) = fv) := by show _ = _; rw [hN.out]; omega
            clear hN
            go_wp2
            exact ⟨⟨c + 1, hB, by omega, by go_num, by rw [hM.out]⟩, by simp [intOf]; omega⟩
          · have hM : Hid (oft P (c + 1) = m) := by show _ = _; rw [hN.out]; omega
            clear hN
            go_wp2
            exact ⟨⟨c + 1, hB, by omega, by go_num, by rw [hM.out]⟩, by simp [intOf]; omega⟩
    · obtain rfl : c = P.length := by omega
      rw [oft_all] at *
      clear hc'
      go_wp2
      go_ret
      exact ⟨rfl, hB.out⟩
end Go.Proofs.Ytfajgbdnfphajaa
