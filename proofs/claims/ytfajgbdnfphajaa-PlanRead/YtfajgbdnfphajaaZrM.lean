/- The document's stepwise reading against the reader's state: plain. -/
import Derived.Test.YtfajgbdnfphajaaZdE
namespace Go.Proofs.Ytfajgbdnfphajaa.S
open Go.RowKit Go.Shelf
theorem tk_ok {wd : Nat} {L : List Nat} (b : Bool) (h : wd ≤ L.length) : tkN wd (L, b) = valB (L.take wd) ∧ tkS wd (L, b) = (L.drop wd, b) := by
  have hl : ¬ ((L, b) : RdS).1.length < wd := by show ¬ L.length < wd; omega
  unfold tkN tkS
  rw [if_neg hl, if_neg hl]
  exact ⟨rfl, rfl⟩
theorem tk_no {wd : Nat} {s : RdS} (h : s.1.length < wd) : tkN wd s = 0 ∧ tkS wd s = ([], true) := by
  unfold tkN tkS
  rw [if_pos h, if_pos h]
  exact ⟨rfl, rfl⟩
theorem tk_one {L : List Nat} {x : Nat} (b : Bool) (h : L[0]? = some x) : tkN 1 (L, b) = x ∧ tkS 1 (L, b) = (L.drop 1, b) := by
  have hl : 1 ≤ L.length := by have := (List.getElem?_eq_some_iff.1 h).1; omega
  obtain ⟨h1, h2⟩ := tk_ok b hl
  refine ⟨?_, h2⟩
  rw [h1]
  cases L with
  | nil => cases h
  | cons a l => cases h; simp [valB]
/-- What was wrong stays wrong. -/
theorem tk_bad {wd : Nat} {s : RdS} (h : s.2 = true) : (tkS wd s).2 = true := by
  unfold tkS
  split
  · rfl
  · exact h
theorem rs_bad {n : Nat} {s : RdS} (h : s.2 = true) : (rsS n s).2 = true := by
  induction n with
  | zero => exact h
  | succ n ih => exact tk_bad ih
theorem rdRS_bad {s : RdS} (h : s.2 = true) : (rdRS s).2 = true := rs_bad (tk_bad (tk_bad (tk_bad h)))
theorem cr_bad {n : Nat} {s : RdS} (h : s.2 = true) : (crS n s).2 = true := by
  induction n with
  | zero => exact h
  | succ n ih => exact rdRS_bad ih
theorem cs_bad {n : Nat} {s : RdS} (h : s.2 = true) : (csS n s).2 = true := by
  induction n with
  | zero => exact h
  | succ n ih => exact tk_bad (tk_bad (tk_bad ih))
/-- So many steps. -/
theorem rs_ok : ∀ (n : Nat) {T : List Nat} (b : Bool), n ≤ T.length → rsS n (T, b) = (T.drop n, b) ∧ rsL n (T, b) = (T.take n).map (fun z : Nat => (z : Int))
  | 0, _, _, _ => ⟨rfl, rfl⟩
  | n + 1, T, b, h => by
    obtain ⟨h1, h2⟩ := rs_ok n b (show n ≤ T.length by omega)
    obtain ⟨x, hx⟩ : ∃ x, T[n]? = some x := ⟨_, List.getElem?_eq_getElem (by omega)⟩
    have ht := tk_one (L := T.drop n) (x := x) b (by rw [List.getElem?_drop, Nat.add_zero]; exact hx)
    rw [rsS, rsL, h1, h2, ht.1, ht.2, List.drop_drop]
    refine ⟨rfl, ?_⟩
    rw [List.take_add_one, hx]
    simp
theorem rs_short {n : Nat} {T : List Nat} (b : Bool) (h : T.length < n) : (rsS n (T, b)).2 = true := by
  have key : ∀ k, (rsS (T.length + 1 + k) (T, b)).2 = true := fun k => by
    induction k with
    | zero =>
      show (tkS 1 (rsS T.length (T, b))).2 = true
      rw [(rs_ok T.length b (Nat.le_refl _)).1, List.drop_length]
      exact congrArg Prod.snd (tk_no (wd := 1) (s := ([], b)) Nat.zero_lt_one).2
    | succ k ih => exact tk_bad ih
  obtain ⟨k, rfl⟩ : ∃ k, n = T.length + 1 + k := ⟨n - (T.length + 1), by omega⟩
  exact key k
/-- A rule that is not there. -/
theorem rule_no {L : List Nat} (b : Bool) (h : L.length < 6 ∨ ∃ m, L[5]? = some m ∧ L.length < 6 + m) : (rdRS (L, b)).2 = true := by
  unfold rdRS
  by_cases h1 : L.length < 1
  · exact rs_bad (tk_bad (tk_bad (congrArg Prod.snd (tk_no (wd := 1) (s := (L, b)) h1).2)))
  rw [(tk_ok (wd := 1) b (show 1 ≤ L.length by omega)).2]
  by_cases h5 : L.length < 5
  · exact rs_bad (tk_bad (congrArg Prod.snd (tk_no (wd := 4) (s := (L.drop 1, b)) (by show (L.drop 1).length < 4; rw [List.length_drop]; omega)).2))
  rw [(tk_ok (wd := 4) (L := L.drop 1) b (by rw [List.length_drop]; omega)).2, List.drop_drop]
  by_cases h6 : L.length < 6
  · exact rs_bad (congrArg Prod.snd (tk_no (wd := 1) (s := (L.drop (1 + 4), b)) (by show (L.drop (1 + 4)).length < 1; rw [List.length_drop]; omega)).2)
  · rcases h with h | ⟨m, hm, hl⟩
    · exact absurd h h6
    · have ht := tk_one (L := L.drop (1 + 4)) (x := m) b (by rw [List.getElem?_drop]; exact hm)
      rw [ht.1, ht.2, List.drop_drop]
      exact rs_short b (by rw [List.length_drop]; omega)
/-- A rule that is there. -/
theorem rule_yes {L : List Nat} {x m : Nat} (b : Bool) (hx : L[0]? = some x) (hm : L[5]? = some m) (hl : 6 + m ≤ L.length) : rdR (L, b) = ⟨(x : Int), (valB ((L.drop 1).take 4) : Int), ((L.drop 6).take m).map (fun z : Nat => (z : Int))⟩ ∧ rdRS (L, b) = (L.drop (6 + m), b) := by
  have t1 := tk_one b hx
  have t2 := tk_ok (wd := 4) (L := L.drop 1) b (by rw [List.length_drop]; omega)
  rw [List.drop_drop] at t2
  have t3 := tk_one (L := L.drop (1 + 4)) (x := m) b (by rw [List.getElem?_drop]; exact hm)
  rw [List.drop_drop] at t3
  have t4 := rs_ok m (T := L.drop (1 + 4 + 1)) b (by rw [List.length_drop]; omega)
  unfold rdR rdRS
  rw [t1.1, t1.2, t2.1, t2.2, t3.1, t3.2, t4.1, t4.2, List.drop_drop]
  exact ⟨rfl, rfl⟩
/-- A step that is not there, one that is. -/
theorem step_no {L : List Nat} (b : Bool) (h : L.length < 10) : (tkS 1 (tkS 1 (tkS 8 (L, b)))).2 = true := by
  by_cases h8 : L.length < 8
  · exact tk_bad (tk_bad (congrArg Prod.snd (tk_no (wd := 8) (s := (L, b)) h8).2))
  rw [(tk_ok (wd := 8) b (show 8 ≤ L.length by omega)).2]
  by_cases h9 : L.length < 9
  · exact tk_bad (congrArg Prod.snd (tk_no (wd := 1) (s := (L.drop 8, b)) (by show (L.drop 8).length < 1; rw [List.length_drop]; omega)).2)
  rw [(tk_ok (wd := 1) (L := L.drop 8) b (by rw [List.length_drop]; omega)).2, List.drop_drop]
  exact congrArg Prod.snd (tk_no (wd := 1) (s := (L.drop (8 + 1), b)) (by show (L.drop (8 + 1)).length < 1; rw [List.length_drop]; omega)).2
theorem step_yes {L : List Nat} {y x : Nat} (b : Bool) (hy : L[8]? = some y) (hx : L[9]? = some x) : tkN 8 (L, b) = valB (L.take 8) ∧ tkN 1 (tkS 8 (L, b)) = y ∧ tkN 1 (tkS 1 (tkS 8 (L, b))) = x ∧ tkS 1 (tkS 1 (tkS 8 (L, b))) = (L.drop 10, b) := by
  have hl := (List.getElem?_eq_some_iff.1 hx).1
  have t1 := tk_ok (wd := 8) b (show 8 ≤ L.length by omega)
  have t2 := tk_one (L := L.drop 8) (x := y) b (by rw [List.getElem?_drop]; exact hy)
  rw [List.drop_drop] at t2
  have t3 := tk_one (L := L.drop (8 + 1)) (x := x) b (by rw [List.getElem?_drop]; exact hx)
  rw [List.drop_drop] at t3
  rw [t1.1, t1.2, t2.1, t2.2, t3.1, t3.2]
  exact ⟨rfl, rfl, rfl, rfl⟩
end Go.Proofs.Ytfajgbdnfphajaa.S
