/- Patterns as rows: how many there are, rank, place, the next one: plain facts on lists; nothing of the program. -/
import Derived.Test.YtfajgbdnfphajaaRows
namespace Go.Proofs.Ytfajgbdnfphajaa

/-- In how many ways a row goes on by l numbers, where b blocks are there. -/
def ways : Nat → Nat → Nat
  | 0, _ => 1
  | l + 1, b => b * ways l b + ways l (b + 1)
/-- The blocks that are there behind a row. -/
def blks (b : Nat) (l : List Nat) : Nat := l.foldl (fun b x => max b (x + 1)) b
def Leg : Nat → List Nat → Prop
  | _, [] => True
  | b, x :: r => x ≤ b ∧ Leg (max b (x + 1)) r
/-- How many stand ahead. -/
def rk : Nat → List Nat → Nat
  | _, [] => 0
  | b, x :: r => x * ways r.length b + rk (max b (x + 1)) r
/-- The row of a rank. -/
def rowAt : Nat → Nat → Nat → List Nat
  | 0, _, _ => []
  | n + 1, b, r => min (r / ways n b) b :: rowAt n (max b (min (r / ways n b) b + 1)) (r - min (r / ways n b) b * ways n b)
/-- Each number is the greatest that it may be. -/
def Full : Nat → List Nat → Prop
  | _, [] => True
  | b, x :: r => x = b ∧ Full (b + 1) r

theorem ways_pos (l b : Nat) : 0 < ways l b := by
  induction l generalizing b with
  | zero => simp [ways]
  | succ l ih => have := ih (b + 1); rw [ways]; omega
theorem ways_up (l b : Nat) : ways l (b + 1) ≤ ways (l + 1) b := by rw [ways]; omega
theorem ways_le (l b : Nat) : ways l b ≤ ways (l + b) 0 := by
  induction b generalizing l with
  | zero => exact Nat.le_refl _
  | succ b ih => exact Nat.le_trans (ways_up l b) (by have := ih (l + 1); rwa [show l + 1 + b = l + (b + 1) by omega] at this)
theorem ways_more (l b : Nat) : ways l b ≤ ways l (b + 1) := by
  induction l generalizing b with
  | zero => simp [ways]
  | succ l ih =>
    rw [ways, ways]
    have h1 := ih b
    have h2 := ih (b + 1)
    have : b * ways l b ≤ (b + 1) * ways l (b + 1) := Nat.mul_le_mul (by omega) h1
    omega
theorem ways_long (l b : Nat) : ways l b ≤ ways (l + 1) b := Nat.le_trans (ways_more l b) (ways_up l b)
theorem ways_mono {l m : Nat} (h : l ≤ m) (b : Nat) : ways l b ≤ ways m b := by
  induction m with
  | zero =>
    have e : l = 0 := by omega
    subst e; exact Nat.le_refl _
  | succ m ih =>
    rcases Nat.lt_or_ge m l with h1 | h1
    · have e : l = m + 1 := by omega
      subst e; exact Nat.le_refl _
    · exact Nat.le_trans (ih h1) (ways_long m b)
theorem ways_small {l b : Nat} (h : l + b ≤ 25) : ways l b ≤ 4638590332229999353 :=
  Nat.le_trans (ways_le l b) (Nat.le_trans (ways_mono h 0) (by decide +kernel))
theorem mul_ways {x l b : Nat} (h : x ≤ b) : x * ways l b ≤ ways (l + 1) b := by
  have := Nat.mul_le_mul_right (ways l b) h
  rw [ways]; omega

theorem rk_lt {b : Nat} {a : List Nat} (h : Leg b a) : rk b a < ways a.length b := by
  induction a generalizing b with
  | nil => simp [rk, ways]
  | cons x r ih =>
    obtain ⟨h1, h2⟩ := h
    have := ih h2
    rw [rk, List.length_cons, ways]
    rcases Nat.lt_or_ge x b with hx | hx
    · rw [Nat.max_eq_left (by omega)] at this ⊢
      have h3 : (x + 1) * ways r.length b ≤ b * ways r.length b := Nat.mul_le_mul_right _ hx
      rw [Nat.add_mul, Nat.one_mul] at h3
      omega
    · obtain rfl : x = b := by omega
      rw [Nat.max_eq_right (by omega)] at this ⊢
      omega
theorem at_rk {b : Nat} {a : List Nat} (h : Leg b a) : rowAt a.length b (rk b a) = a := by
  induction a generalizing b with
  | nil => rfl
  | cons x r ih =>
    obtain ⟨h1, h2⟩ := h
    have hlt := rk_lt h2
    have hp := ways_pos r.length b
    have e : min (rk b (x :: r) / ways r.length b) b = x := by
      rw [rk]
      rcases Nat.lt_or_ge x b with hx | hx
      · rw [Nat.max_eq_left (by omega)] at hlt ⊢
        rw [Nat.mul_comm, Nat.mul_add_div hp, Nat.div_eq_of_lt hlt]
        omega
      · obtain rfl : x = b := by omega
        rw [Nat.mul_comm, Nat.mul_add_div hp]
        exact Nat.min_eq_right (Nat.le_add_right _ _)
    rw [List.length_cons, rowAt, e]
    congr 1
    rw [rk, Nat.add_sub_cancel_left]
    exact ih h2
theorem rk_full {b : Nat} {a : List Nat} (h : Full b a) : rk b a + 1 = ways a.length b := by
  induction a generalizing b with
  | nil => simp [rk, ways]
  | cons x r ih =>
    obtain ⟨rfl, h2⟩ := h
    have := ih h2
    rw [rk, List.length_cons, ways, Nat.max_eq_right (by omega)]
    omega
theorem rk_zeros (b n : Nat) (h : 1 ≤ b) : rk b (List.replicate n 0) = 0 := by
  induction n with
  | zero => rfl
  | succ n ih => rw [List.replicate_succ, rk, Nat.max_eq_left h, ih]; omega
theorem rk_app (b : Nat) (p t t' : List Nat) (h : t.length = t'.length) : rk b (p ++ t) + rk (blks b p) t' = rk b (p ++ t') + rk (blks b p) t := by
  induction p generalizing b with
  | nil => simp [blks]; omega
  | cons x p ih =>
    have := ih (max b (x + 1))
    rw [List.cons_append, List.cons_append, rk, rk, List.length_append, List.length_append, h]
    rw [show blks b (x :: p) = blks (max b (x + 1)) p from rfl]
    omega
/-- The next row: one more at the last place that can have more, zeros behind it. -/
theorem rk_next {p t : List Nat} {x : Nat} (hx : x < blks 0 p) (ht : Full (blks 0 p) t) : rk 0 (p ++ (x + 1) :: List.replicate t.length 0) = rk 0 (p ++ x :: t) + 1 := by
  have h := rk_app 0 p (x :: t) ((x + 1) :: List.replicate t.length 0) (by simp)
  have h1 := rk_full ht
  have e1 : rk (blks 0 p) (x :: t) = x * ways t.length (blks 0 p) + rk (blks 0 p) t := by rw [rk, Nat.max_eq_left (by omega)]
  have e2 : rk (blks 0 p) ((x + 1) :: List.replicate t.length 0) = (x + 1) * ways t.length (blks 0 p) := by
    rw [rk, List.length_replicate, rk_zeros _ _ (by omega)]; omega
  rw [e1, e2, Nat.add_mul, Nat.one_mul] at h
  omega
theorem blks_app (b : Nat) (p t : List Nat) : blks b (p ++ t) = blks (blks b p) t := by simp [blks]
theorem blks_le (b : Nat) (p : List Nat) : b ≤ blks b p := by
  induction p generalizing b with
  | nil => exact Nat.le_refl _
  | cons x p ih => exact Nat.le_trans (Nat.le_max_left b (x + 1)) (ih _)
theorem Leg.app {b : Nat} {p t : List Nat} : Leg b (p ++ t) ↔ Leg b p ∧ Leg (blks b p) t := by
  induction p generalizing b with
  | nil => simp [Leg, blks]
  | cons x p ih =>
    rw [List.cons_append, Leg, Leg, ih, show blks b (x :: p) = blks (max b (x + 1)) p from rfl]
    exact ⟨fun ⟨a, b, c⟩ => ⟨⟨a, b⟩, c⟩, fun ⟨⟨a, b⟩, c⟩ => ⟨a, b, c⟩⟩
theorem blks_leg {b : Nat} {p : List Nat} (h : Leg b p) : blks b p ≤ b + p.length := by
  induction p generalizing b with
  | nil => exact Nat.le_refl _
  | cons x p ih =>
    have := ih h.2
    have h1 := h.1
    rw [show blks b (x :: p) = blks (max b (x + 1)) p from rfl, List.length_cons]
    omega
/-- Every number is below the blocks that are there behind. -/
theorem lt_blks {b : Nat} {p : List Nat} {x : Nat} (h : x ∈ p) : x < blks b p := by
  induction p generalizing b with
  | nil => cases h
  | cons y p ih =>
    rcases List.mem_cons.1 h with rfl | h
    · exact Nat.lt_of_lt_of_le (by omega) (blks_le (max b (x + 1)) p)
    · exact ih h
theorem Leg.zeros (b n : Nat) : Leg b (List.replicate n 0) := by
  induction n generalizing b with
  | zero => trivial
  | succ n ih => exact ⟨by omega, ih _⟩
theorem Leg.next {p t : List Nat} {x : Nat} (h : Leg 0 (p ++ x :: t)) (hx : x < blks 0 p) (n : Nat) : Leg 0 (p ++ (x + 1) :: List.replicate n 0) :=
  Leg.app.2 ⟨(Leg.app.1 h).1, by omega, Leg.zeros _ _⟩
/-- A row that is full from some place on: what the scan from the end knows. -/
theorem Full.cons {b x : Nat} {t : List Nat} (hx : x = b) (h : Full (b + 1) t) : Full b (x :: t) := ⟨hx, h⟩
/-- b, b + 1 and so on. -/
def ups (b n : Nat) : List Nat := (List.range n).map (b + ·)
theorem full_ups {b : Nat} {t : List Nat} (h : Full b t) : t = ups b t.length := by
  induction t generalizing b with
  | nil => rfl
  | cons x t ih =>
    obtain ⟨rfl, h⟩ := h
    have := ih h
    unfold ups at this ⊢
    rw [List.length_cons, List.range_succ_eq_map, List.map_cons, List.map_map, Nat.add_zero]
    congr 1
    rw [this]
    simp
    intro k _
    omega
end Go.Proofs.Ytfajgbdnfphajaa
