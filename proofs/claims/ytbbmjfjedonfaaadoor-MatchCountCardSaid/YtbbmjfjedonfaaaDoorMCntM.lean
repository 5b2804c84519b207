/- In how many ways rows have places of their own: place by place, and row by row (plain). -/
import Derived.Test.YtbbmjfjedonfaaaDoorMMath
import Derived.Test.YtbbmjfjedonfaaaDoorMath
namespace Go.Proofs.YtbbmjfjedonfaaaDoor.M
/-- Each member of a row with what is left of it. -/
def picks {α : Type} : List α → List (α × List α)
  | [] => []
  | x :: l => (x, l) :: (picks l).map fun p => (p.1, x :: p.2)
def sumN {α : Type} (f : α → Nat) : List α → Nat
  | [] => 0
  | x :: l => f x + sumN f l
theorem sumN_map {α β : Type} (g : α → β) (f : β → Nat) : ∀ l : List α, sumN f (l.map g) = sumN (fun x => f (g x)) l
  | [] => rfl
  | x :: l => by rw [List.map_cons, sumN, sumN, sumN_map g f l]
theorem sumN_congr {α : Type} {f g : α → Nat} : ∀ {l : List α}, (∀ x ∈ l, f x = g x) → sumN f l = sumN g l
  | [], _ => rfl
  | x :: l, h => by rw [sumN, sumN, h x (List.mem_cons_self ..), sumN_congr fun y hy => h y (List.mem_cons_of_mem _ hy)]
theorem sumN_add {α : Type} (f g : α → Nat) : ∀ l : List α, sumN (fun x => f x + g x) l = sumN f l + sumN g l
  | [] => rfl
  | x :: l => by rw [sumN, sumN, sumN, sumN_add f g l]; omega
theorem sumN_zero {α : Type} {f : α → Nat} : ∀ {l : List α}, (∀ x ∈ l, f x = 0) → sumN f l = 0
  | [], _ => rfl
  | x :: l, h => by rw [sumN, h x (List.mem_cons_self ..), sumN_zero fun y hy => h y (List.mem_cons_of_mem _ hy)]
theorem sumN_app {α : Type} (f : α → Nat) : ∀ l m : List α, sumN f (l ++ m) = sumN f l + sumN f m
  | [], m => by simp [sumN]
  | x :: l, m => by rw [List.cons_append, sumN, sumN, sumN_app f l m]; omega
theorem sumN_swap {α β : Type} (f : α → β → Nat) (m : List β) : ∀ l : List α, sumN (fun x => sumN (fun y => f x y) m) l = sumN (fun y => sumN (fun x => f x y) l) m
  | [] => by rw [sumN]; exact (sumN_zero fun _ _ => rfl).symm
  | x :: l => by rw [sumN, sumN_swap f m l, ← sumN_add]; exact sumN_congr fun y _ => rfl
theorem sumN_filter {α : Type} (p : α → Bool) (f : α → Nat) : ∀ l : List α, sumN f (l.filter p) = sumN (fun x => if p x = true then f x else 0) l
  | [] => rfl
  | x :: l => by
    rw [List.filter_cons, sumN]
    by_cases h : p x = true
    · rw [if_pos h, if_pos h, sumN, sumN_filter p f l]
    · rw [if_neg h, if_neg h, sumN_filter p f l]; omega
theorem sumN_if {α : Type} (c : Bool) (f : α → Nat) (l : List α) : (if c = true then sumN f l else 0) = sumN (fun x => if c = true then f x else 0) l := by
  cases c
  · rw [if_neg (by decide)]; exact (sumN_zero fun _ _ => if_neg (by decide)).symm
  · rw [if_pos rfl]; exact sumN_congr fun _ _ => (if_pos rfl).symm
theorem picks_map {α β : Type} (f : α → β) : ∀ l : List α, picks (l.map f) = (picks l).map fun p => (f p.1, p.2.map f)
  | [] => rfl
  | x :: l => by
    rw [List.map_cons, picks, picks, picks_map f l, List.map_cons, List.map_map, List.map_map]
    rfl
/-- In how many ways these rows have places below U of their own: place by place. -/
def wy : Nat → List (Nat → Bool) → Nat
  | 0, l => if l.isEmpty = true then 1 else 0
  | U + 1, l => wy U l + sumN (fun p => if p.1 U = true then wy U p.2 else 0) (picks l)
def clr (u : Nat) (r : Nat → Bool) : Nat → Bool := fun v => r v && !(v == u)
theorem picks_mem {α : Type} : ∀ {l : List α} {p : α × List α}, p ∈ picks l → p.1 ∈ l ∧ ∀ x ∈ p.2, x ∈ l
  | [], p, h => by cases h
  | x :: l, p, h => by
    rcases List.mem_cons.1 h with rfl | h
    · exact ⟨List.mem_cons_self .., fun y hy => List.mem_cons_of_mem _ hy⟩
    · obtain ⟨q, hq, rfl⟩ := List.mem_map.1 h
      have := picks_mem hq
      refine ⟨List.mem_cons_of_mem _ this.1, fun y hy => ?_⟩
      rcases List.mem_cons.1 hy with rfl | hy
      · exact List.mem_cons_self ..
      · exact List.mem_cons_of_mem _ (this.2 y hy)
/-- Places at U and beyond are not looked at. -/
theorem wy_same {α : Type} (f g : α → Nat → Bool) : ∀ (U : Nat) (l : List α), (∀ x ∈ l, ∀ v, v < U → f x v = g x v) → wy U (l.map f) = wy U (l.map g)
  | 0, l, _ => by cases l <;> rfl
  | U + 1, l, h => by
    rw [wy, wy, wy_same f g U l fun x hx v hv => h x hx v (by omega), picks_map, picks_map, sumN_map, sumN_map]
    congr 1
    refine sumN_congr fun p hp => ?_
    have hm := picks_mem hp
    have q1 := h p.1 hm.1 U (by omega)
    have q2 := wy_same f g U p.2 fun x hx v hv => h x (hm.2 x hx) v (by omega)
    simp only [q1, q2]
theorem clr_ne {u v : Nat} (r : Nat → Bool) (h : v ≠ u) : clr u r v = r v := by unfold clr; rw [beq_false_of_ne h]; simp
theorem clr_eq (u : Nat) (r : Nat → Bool) : clr u r u = false := by unfold clr; simp
theorem wy_clr (U : Nat) (l : List (Nat → Bool)) : wy (U + 1) (l.map (clr U)) = wy U l := by
  rw [wy, picks_map, sumN_map, sumN_zero, Nat.add_zero]
  · have := wy_same (clr U) (fun x => x) U l fun x _ v hv => clr_ne x (by omega)
    rwa [List.map_id'] at this
  · intro p _
    simp only [clr_eq]
    rfl
theorem range_snoc (U : Nat) : List.range (U + 1) = List.range U ++ [U] := List.range_succ
/-- By the first row's place. -/
theorem wy_head : ∀ (U : Nat) (r : Nat → Bool) (l : List (Nat → Bool)), wy U (r :: l) = sumN (fun u => if r u = true then wy U (l.map (clr u)) else 0) (List.range U)
  | 0, r, l => rfl
  | U + 1, r, l => by
    have e1 : sumN (fun p => if p.1 U = true then wy U p.2 else 0) (picks (r :: l)) = (if r U = true then wy U l else 0) + sumN (fun u => if r u = true then sumN (fun p => if p.1 U = true then wy U (p.2.map (clr u)) else 0) (picks l) else 0) (List.range U) := by
      rw [picks, sumN, sumN_map]
      congr 1
      rw [sumN_congr (g := fun p => sumN (fun u => if r u = true then (if p.1 U = true then wy U (p.2.map (clr u)) else 0) else 0) (List.range U)) fun p _ => by
        dsimp only
        rw [wy_head U r p.2, sumN_if]
        refine sumN_congr fun u _ => ?_
        cases p.1 U <;> cases r u <;> rfl]
      rw [sumN_swap]
      exact sumN_congr fun u _ => (sumN_if _ _ _).symm
    rw [wy, e1, wy_head U r l, range_snoc, sumN_app]
    have e2 : sumN (fun u => if r u = true then wy (U + 1) (l.map (clr u)) else 0) [U] = if r U = true then wy U l else 0 := by
      rw [sumN, sumN, wy_clr]; rfl
    have e3 : sumN (fun u => if r u = true then wy (U + 1) (l.map (clr u)) else 0) (List.range U) = sumN (fun u => if r u = true then wy U (l.map (clr u)) else 0) (List.range U) + sumN (fun u => if r u = true then sumN (fun p => if p.1 U = true then wy U (p.2.map (clr u)) else 0) (picks l) else 0) (List.range U) := by
      rw [← sumN_add]
      refine sumN_congr fun u hu => ?_
      have hne : U ≠ u := by have := List.mem_range.1 hu; omega
      rw [wy, picks_map, sumN_map]
      have e4 : sumN (fun p : (Nat → Bool) × List (Nat → Bool) => if clr u p.1 U = true then wy U (p.2.map (clr u)) else 0) (picks l) = sumN (fun p => if p.1 U = true then wy U (p.2.map (clr u)) else 0) (picks l) := sumN_congr fun p _ => by rw [clr_ne _ hne]
      cases r u
      · rfl
      · simp only [if_true]
        exact congrArg _ e4
    rw [e2, e3]
    omega
theorem sumN_pos {α : Type} {f : α → Nat} : ∀ {l : List α}, 0 < sumN f l → ∃ x ∈ l, 0 < f x
  | [], h => absurd h (Nat.lt_irrefl 0)
  | x :: l, h => by
    rw [sumN] at h
    by_cases h0 : 0 < f x
    · exact ⟨x, List.mem_cons_self .., h0⟩
    · obtain ⟨y, hy, h1⟩ := sumN_pos (f := f) (l := l) (by omega)
      exact ⟨y, List.mem_cons_of_mem _ hy, h1⟩
/-- Places of their own. -/
def Fm (l : List (Nat → Bool)) (g : Nat → Nat) : Prop := (∀ (i : Nat) (r : Nat → Bool), l[i]? = some r → r (g i) = true) ∧ ∀ i j, i < l.length → j < l.length → g i = g j → i = j
theorem wy_full_n (n : Nat) : ∀ (l : List (Nat → Bool)) (U : Nat), l.length = n → 0 < wy U l → ∃ g, Fm l g := by
  induction n with
  | zero =>
    intro l U hl _
    rw [List.eq_nil_of_length_eq_zero hl]
    exact ⟨fun _ => 0, fun i r h => by simp at h, fun i j h => absurd h (Nat.not_lt_zero _)⟩
  | succ n ih =>
    intro l U hl h
    cases l with
    | nil => cases hl
    | cons r l =>
    rw [wy_head] at h
    obtain ⟨u, _, hu⟩ := sumN_pos h
    by_cases hr : r u = true
    · rw [if_pos hr] at hu
      obtain ⟨g, h1', h2⟩ := ih (l.map (clr u)) U (by simpa using hl) hu
      rw [List.length_map] at h2
      have h1 : ∀ i r, l[i]? = some r → r (g i) = true ∧ g i ≠ u := fun i r hr => by
        have := h1' i (clr u r) (by rw [List.getElem?_map, hr]; rfl)
        unfold clr at this
        simp at this
        exact this
      refine ⟨fun i => if i = 0 then u else g (i - 1), fun i x hx => ?_, fun i j hi hj e => ?_⟩
      · cases i with
        | zero => simp at hx; subst hx; exact hr
        | succ i =>
          rw [List.getElem?_cons_succ] at hx
          have := h1 i x hx
          simp only [Nat.add_one_ne_zero, if_false, Nat.add_sub_cancel]
          exact this.1
      · have hne : ∀ k, k < l.length → g k ≠ u := fun k hk => (h1 k _ (List.getElem?_eq_getElem hk)).2
        cases i with
        | zero =>
          cases j with
          | zero => rfl
          | succ j =>
            simp at e hj
            exact absurd e.symm (hne j hj)
        | succ i =>
          cases j with
          | zero =>
            simp at e hi
            exact absurd e (hne i hi)
          | succ j =>
            simp at e hi hj
            rw [h2 i j hi hj e]
    · rw [if_neg hr] at hu; exact absurd hu (Nat.lt_irrefl 0)
theorem wy_full {l : List (Nat → Bool)} {U : Nat} (h : 0 < wy U l) : ∃ g, Fm l g := wy_full_n l.length l U rfl h
/-- The rows of a set. -/
def rowsS (R : Nat → Nat) (s : Nat) : List (Nat → Bool) := (nums s).map fun r => (R r.val).testBit
theorem picks_nodup {α : Type} [DecidableEq α] : ∀ {l : List α}, l.Nodup → picks l = l.map fun x => (x, l.filter fun y => !decide (y = x))
  | [], _ => rfl
  | x :: l, h => by
    have h' := List.nodup_cons.1 h
    rw [picks, picks_nodup h'.2, List.map_cons, List.map_map]
    congr 1
    · rw [List.filter_cons, if_neg (by simp)]
      congr 1
      refine (List.filter_eq_self.2 fun y hy => ?_).symm
      simp only [Bool.not_eq_true', decide_eq_false_iff_not]
      exact fun e => h'.1 (e ▸ hy)
    · refine List.map_congr_left fun y hy => ?_
      show (y, x :: _) = _
      rw [List.filter_cons, if_pos]
      simp only [Bool.not_eq_true', decide_eq_false_iff_not]
      exact fun e => h'.1 (e ▸ hy)
theorem nodup_nums (s : Nat) : (nums s).Nodup := (sorted_nums s).imp fun h e => by subst e; exact absurd h (Nat.lt_irrefl _)
theorem nums_without (s t : Nat) (j : Fin 64) (h : ∀ k : Fin 64, t.testBit k.val = (s.testBit k.val && !decide (k = j))) : nums t = (nums s).filter fun y => !decide (y = j) := by
  unfold nums
  rw [List.filter_filter]
  exact List.filter_congr fun k _ => by rw [h k, Bool.and_comm]
/-- A set without one. -/
def clS (s j : Nat) : Nat := s &&& (18446744073709551615 - 2 ^ j)
/-- What is still to come for a set, of the takers that are left. -/
def remS (R : Nat → Nat) (u s : Nat) (T : List (Fin 64)) : Nat := sumN (fun j => wy u (rowsS R (clS s j.val))) T
theorem clS_bit (s : Nat) (j k : Fin 64) : (clS s j.val).testBit k.val = (s.testBit k.val && !decide (k = j)) := by
  have hp : 2 ^ j.val < 2 ^ 64 := Nat.pow_lt_pow_right (by decide) j.isLt
  unfold clS
  rw [show 18446744073709551615 - 2 ^ j.val = 2 ^ 64 - (2 ^ j.val + 1) by omega, Nat.testBit_and, Nat.testBit_two_pow_sub_succ hp, Nat.testBit_two_pow]
  have hk := k.isLt
  congr 1
  rw [decide_eq_true hk, Bool.true_and]
  congr 1
  exact decide_eq_decide.2 ⟨fun e => Fin.ext e.symm, fun e => (congrArg _ e).symm⟩
theorem clS_lt {s : Nat} {j : Fin 64} (h : s.testBit j.val = true) : clS s j.val < s := by
  refine Nat.lt_of_le_of_ne Nat.and_le_left fun e => ?_
  have := clS_bit s j j
  unfold clS at e this
  rw [e, h] at this
  simp at this
/-- One place more: what a set's ways come to. -/
theorem wy_step (R : Nat → Nat) (u s : Nat) : wy (u + 1) (rowsS R s) = wy u (rowsS R s) + remS R u s ((nums s).filter fun j => (R j.val).testBit u) := by
  rw [wy]
  congr 1
  unfold remS rowsS
  rw [picks_map, picks_nodup (nodup_nums s), sumN_map, sumN_map, sumN_filter]
  refine sumN_congr fun j _ => ?_
  have q := nums_without s (clS s j.val) j fun k => clS_bit s j k
  simp only [q]
end Go.Proofs.YtbbmjfjedonfaaaDoor.M
