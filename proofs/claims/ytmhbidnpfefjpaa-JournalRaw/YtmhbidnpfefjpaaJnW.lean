/- Writes in a row: plain facts. -/
import Derived.Test.YtmhbidnpfefjpaaJnM
namespace Go.Proofs.Ytmhbidnpfefjpaa
open Go.RowKit
/-- Blocks that are there, of sixteen bytes. -/
def Fit (n : Nat) (ws : List (Nat × List Nat)) : Prop := ∀ p ∈ ws, p.1 < n ∧ p.2.length = 16
theorem wrs_app (D : Dk) (a b : List (Nat × List Nat)) : wrs D (a ++ b) = (if wrsOk D a = true then wrs (wrs D a) b else wrs D a) := by
  induction a generalizing D with
  | nil => rfl
  | cons x t ih =>
    obtain ⟨i, P⟩ := x
    cases h : D.power with
    | true => simp only [List.cons_append, wrs, wrsOk, h, if_true, Bool.true_and]; exact ih _
    | false => simp [List.cons_append, wrs, wrsOk, h]
theorem wrsOk_app (D : Dk) (a b : List (Nat × List Nat)) : wrsOk D (a ++ b) = (wrsOk D a && wrsOk (wrs D a) b) := by
  induction a generalizing D with
  | nil => rfl
  | cons x t ih =>
    obtain ⟨i, P⟩ := x
    cases h : D.power with
    | true => simp only [List.cons_append, wrs, wrsOk, h, if_true, Bool.true_and]; exact ih _
    | false => simp [List.cons_append, wrs, wrsOk, h]
theorem wrs_ok {n : Nat} : ∀ {D : Dk} {ws : List (Nat × List Nat)}, DkO D n → Fit n ws → D.writes + ws.length ≤ 1000000000000 → DkO (wrs D ws) n ∧ D.writes ≤ (wrs D ws).writes ∧ (wrs D ws).writes ≤ D.writes + ws.length
  | D, [], h, _, _ => ⟨h, Int.le_refl _, by simp [wrs]⟩
  | D, (i, P) :: t, h, hf, hw => by
    have h1 := hf (i, P) (List.mem_cons_self ..)
    simp only [List.length_cons] at hw
    unfold wrs
    split
    · have ok := wrD_ok (b := i) (L := P) h h1.1 h1.2 (by omega)
      obtain ⟨a, b, c⟩ := wrs_ok ok (fun p hp => hf p (List.mem_cons_of_mem _ hp)) (by show D.writes + 1 + _ ≤ _; omega)
      refine ⟨a, ?_, ?_⟩
      · have : (wrD D i P).writes = D.writes + 1 := rfl
        omega
      · have : (wrD D i P).writes = D.writes + 1 := rfl
        simp only [List.length_cons]
        omega
    · exact ⟨h, Int.le_refl _, by simp only [List.length_cons]; omega⟩
theorem pcW_succ (p : Nat) (R : List Nat) (k : Nat) : pcW p R (k + 1) = pcW p R k ++ [(p + 1 + k, pieceB R k)] := by
  unfold pcW
  rw [List.range_succ, List.map_append]
  rfl
theorem pcW_split {p k j : Nat} {R : List Nat} (h : j ≤ k) : pcW p R k = pcW p R j ++ (pcW p R k).drop j := by
  have e : (pcW p R k).take j = pcW p R j := by
    unfold pcW
    rw [← List.map_take, List.take_range, Nat.min_eq_left h]
  rw [← e, List.take_append_drop]
theorem pcW_fit {n p k : Nat} {R : List Nat} (h : p + 1 + k ≤ n) : Fit n (pcW p R k) := by
  rintro ⟨i, P⟩ hx
  unfold pcW at hx
  obtain ⟨j, hj, e⟩ := List.mem_map.1 hx
  cases e
  have := List.mem_range.1 hj
  exact ⟨by show p + 1 + j < n; omega, pieceB_len R j⟩
theorem pcW_len (p : Nat) (R : List Nat) (k : Nat) : (pcW p R k).length = k := by simp [pcW]
theorem layW_len (p c : Nat) (R : List Nat) : (layW p c R).length = spn R.length + 2 := by simp [layW, pcW_len]
theorem layW_fit {n p c : Nat} {R : List Nat} (h : p + 1 + spn R.length < n) : Fit n (layW p c R) := by
  intro x hx
  unfold layW at hx
  rcases List.mem_append.1 hx with hx | hx
  · exact pcW_fit (by omega) x hx
  · simp only [List.mem_cons, List.not_mem_nil, or_false] at hx
    rcases hx with rfl | rfl
    · exact ⟨h, z16_len⟩
    · exact ⟨by show p < n; omega, titleB_len _ _⟩
theorem wrs_one (D : Dk) (b : Nat) (P : List Nat) : wrs D [(b, P)] = if D.power = true then wrD D b P else D := rfl
theorem wrsOk_one (D : Dk) (b : Nat) (P : List Nat) : wrsOk D [(b, P)] = D.power := by simp [wrsOk]
theorem spn_lt {m i : Nat} (h : i < spn m) : 16 * i < m := by unfold spn at h; omega
/-- One write more behind those that were done. -/
theorem wrs_more {D D' : Dk} {ws : List (Nat × List Nat)} {b : Nat} {P : List Nat} {r : Int} (h : wrsOk D ws = true) (hc : (wrs D ws).power = true ∧ r = 0 ∧ D' = wrD (wrs D ws) b P ∨ (wrs D ws).power = false ∧ r = 50 ∧ D' = wrs D ws) :
    D' = wrs D (ws ++ [(b, P)]) ∧ (r = 0 ∧ wrsOk D (ws ++ [(b, P)]) = true ∨ r = 50 ∧ wrsOk D (ws ++ [(b, P)]) = false) := by
  rw [wrs_app, if_pos h, wrs_one, wrsOk_app, h, wrsOk_one, Bool.true_and]
  rcases hc with ⟨h1, h2, h3⟩ | ⟨h1, h2, h3⟩
  · rw [if_pos h1]; exact ⟨h3, .inl ⟨h2, h1⟩⟩
  · rw [if_neg (by simp [h1])]; exact ⟨h3, .inr ⟨h2, h1⟩⟩
theorem wrs_cut {D : Dk} {a : List (Nat × List Nat)} (h : wrsOk D a = false) (b : List (Nat × List Nat)) : wrs D (a ++ b) = wrs D a ∧ wrsOk D (a ++ b) = false := by
  rw [wrs_app, wrsOk_app, h]
  exact ⟨if_neg (by simp), rfl⟩
end Go.Proofs.Ytmhbidnpfefjpaa
