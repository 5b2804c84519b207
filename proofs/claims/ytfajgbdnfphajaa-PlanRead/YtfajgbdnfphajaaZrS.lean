/- The document's reading of a certificate's head and steps against the reader's state: plain. -/
import Derived.Test.YtfajgbdnfphajaaZrR
import Derived.Test.YtfajgbdnfphajaaZdF
namespace Go.Proofs.Ytfajgbdnfphajaa.S
open Go.RowKit Go.Shelf
theorem rd3 {L : List Nat} (h : (rcS (L, false)).2 = true) : rdN L = 3 := by unfold rdN; rw [if_neg (by unfold rdF_; rw [h]; simp)]
theorem rd3B {L : List Nat} (h : (rcB (L, false)).2 = true) : rdN L = 3 := rd3 (cr_bad h)
theorem tk_good {wd : Nat} {s : RdS} (h : (tkS wd s).2 = false) : s.2 = false ∧ (tkS wd s).1.length + wd = s.1.length := by
  unfold tkS at h ⊢
  split at h
  · cases h
  · rename_i hl
    rw [if_neg hl]
    refine ⟨h, ?_⟩
    show (s.1.drop wd).length + wd = s.1.length
    rw [List.length_drop]; omega
theorem mk_good {s : RdS} (h : (mkS s).2 = false) : tkN 2 s = 20547 ∧ mkS s = tkS 2 s := by
  unfold mkS at h ⊢
  split at h
  · rename_i hc; rw [if_pos hc]; exact ⟨hc, rfl⟩
  · cases h
theorem not_true {b : Bool} (h : ¬ b = true) : b = false := by cases b <;> simp_all
theorem rcB_good {s : RdS} (h : (rcB s).2 = false) : 5 ≤ s.1.length ∧ tkN 2 s = 20547 := by
  obtain ⟨h1, h2⟩ := tk_good (wd := 1) (s := csS (rcN s) (rcA s)) h
  have h3 : (rcA s).2 = false := not_true fun q => by rw [cs_bad q] at h1; cases h1
  have h4 := csS_len (rcN s) (rcA s)
  obtain ⟨h5, h6⟩ := tk_good (wd := 1) (s := tkS 1 (mkS s)) h3
  obtain ⟨h7, h8⟩ := tk_good (wd := 1) (s := mkS s) h5
  obtain ⟨h9, h10⟩ := mk_good h7
  rw [h10] at h7
  obtain ⟨_, h11⟩ := tk_good (wd := 2) (s := s) h7
  have h12 : (rcA s).1.length + 1 = (tkS 1 (mkS s)).1.length := h6
  rw [h10] at h8 h12
  exact ⟨by omega, h9⟩
theorem tk_two {L : List Nat} {a b : Nat} (h0 : L[0]? = some a) (h1 : L[1]? = some b) : tkN 2 (L, false) = 256 * a + b := by
  match L, h0, h1 with
  | x :: y :: l, h0, h1 =>
    cases h0; cases h1
    unfold tkN
    rw [if_neg (by simp)]
    simp [valB]
theorem head_short {L : List Nat} (h : L.length < 5) : rdN L = 3 := rd3B (by
  cases q : (rcB (L, false)).2 with
  | true => rfl
  | false => have := (rcB_good q).1; simp at this; omega)
theorem head_no {L : List Nat} {a b : Nat} (h0 : L[0]? = some a) (h1 : L[1]? = some b) (hb : b < 256) (h : ¬ (a = 80 ∧ b = 67)) : rdN L = 3 := rd3B (by
  cases q : (rcB (L, false)).2 with
  | true => rfl
  | false => have := (rcB_good q).2; rw [tk_two h0 h1] at this; omega)
theorem head_yes {L : List Nat} {u n : Nat} (h0 : L[0]? = some 80) (h1 : L[1]? = some 67) (hu : L[2]? = some u) (hn : L[3]? = some n) : tkN 1 (mkS (L, false)) = u ∧ rcN (L, false) = n ∧ rcA (L, false) = (L.drop 4, false) := by
  have hl := (List.getElem?_eq_some_iff.1 hn).1
  have e : mkS (L, false) = (L.drop 2, false) := by
    unfold mkS
    rw [if_pos (by rw [tk_two h0 h1])]
    exact (tk_ok (wd := 2) false (show 2 ≤ L.length by omega)).2
  have t1 := tk_one (L := L.drop 2) (x := u) false (by rw [List.getElem?_drop]; exact hu)
  rw [List.drop_drop] at t1
  have t2 := tk_one (L := L.drop (2 + 1)) (x := n) false (by rw [List.getElem?_drop]; exact hn)
  rw [List.drop_drop] at t2
  unfold rcN rcA
  rw [e, t1.1, t1.2, t2.1, t2.2]
  exact ⟨rfl, rfl, rfl⟩
theorem cs_late {s : RdS} {a b : Nat} (h : (csS a s).2 = true) (hab : a ≤ b) : (csS b s).2 = true := by
  obtain ⟨k, rfl⟩ : ∃ k, b = a + k := ⟨b - a, by omega⟩
  clear hab
  induction k with
  | zero => exact h
  | succ k ih => exact tk_bad (tk_bad (tk_bad ih))
theorem steps_no {L T : List Nat} {c : Nat} (hc : c < rcN (L, false)) (e : csS c (rcA (L, false)) = (T, false)) (h : T.length < 10) : rdN L = 3 := rd3B (by
  have h1 : (csS (c + 1) (rcA (L, false))).2 = true := by
    show (tkS 1 (tkS 1 (tkS 8 (csS c (rcA (L, false)))))).2 = true
    rw [e]; exact step_no false h
  exact tk_bad (cs_late h1 (by omega)))
theorem last_no {L T : List Nat} (e : csS (rcN (L, false)) (rcA (L, false)) = (T, false)) (h : T.length < 1) : rdN L = 3 := rd3B (by
  unfold rcB
  rw [e, (tk_no (wd := 1) (s := (T, false)) h).2])
theorem last_yes {L T : List Nat} {k : Nat} (e : csS (rcN (L, false)) (rcA (L, false)) = (T, false)) (h : T[0]? = some k) : rcK (L, false) = k ∧ rcB (L, false) = (T.drop 1, false) ∧ rdF_ L = ruOk k (T.drop 1) := by
  have t := tk_one false h
  have h1 : rcK (L, false) = k := by unfold rcK; rw [e]; exact t.1
  have h2 : rcB (L, false) = (T.drop 1, false) := by unfold rcB; rw [e]; exact t.2
  refine ⟨h1, h2, ?_⟩
  unfold rdF_ ruOk rcS
  rw [h1, h2]
end Go.Proofs.Ytfajgbdnfphajaa.S
