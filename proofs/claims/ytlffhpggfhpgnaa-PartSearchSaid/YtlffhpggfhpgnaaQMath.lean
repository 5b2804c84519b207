/- The search, told plainly: what is asked, and what is found. -/
import Derived.Test.YtlffhpggfhpgnaaPMath
namespace Go.Proofs.Ytlffhpggfhpgnaa
/-- What was asked, and what was found. -/
abbrev SS := List (List Nat) × List (List Nat)
def goStep (K : List Nat → Bool) (most : Nat) (rec : List Nat → SS → SS) (a : List Nat) (s : SS) (b : Nat) : SS :=
  if most ≤ s.2.length ∨ 3000 ≤ s.1.length then s else if K (a ++ [b]) then rec (a ++ [b]) (s.1 ++ [a ++ [b]], s.2) else (s.1 ++ [a ++ [b]], s.2)
/-- The document's search: so many places are left. -/
def goS (K : List Nat → Bool) (most : Nat) : Nat → List Nat → SS → SS
  | 0, a, s => (s.1, s.2 ++ [a])
  | d + 1, a, s => (List.range (blks 0 a + 1)).foldl (goStep K most (goS K most d) a) s
def srStep (K : List Nat → Bool) (most : Nat) (rec : List Nat → SS → SS) (a : List Nat) (s : SS) (b : Nat) : SS :=
  if most ≤ s.2.length then s else if decide (s.1.length + 1 ≤ 3000) && K (a ++ [b]) then rec (a ++ [b]) (s.1 ++ [a ++ [b]], s.2) else (s.1 ++ [a ++ [b]], s.2)
/-- The program's search, its keep saying no behind the three thousandth. -/
def srS (K : List Nat → Bool) (most : Nat) : Nat → List Nat → SS → SS
  | 0, a, s => (s.1, s.2 ++ [a])
  | d + 1, a, s => (List.range (blks 0 a + 1)).foldl (srStep K most (srS K most d) a) s
/-- The program's search has come as far as the document's. -/
def SRel (s r : SS) : Prop := s.1 = r.1.take 3000 ∧ s.2 = r.2
theorem SRel.step {K : List Nat → Bool} {most : Nat} {f g : List Nat → SS → SS} (hfg : ∀ a s r, SRel s r → SRel (f a s) (g a r)) (a : List Nat) (b : Nat) {s r : SS} (h : SRel s r) : SRel (goStep K most f a s b) (srStep K most g a r b) := by
  obtain ⟨h1, h2⟩ := h
  unfold goStep srStep
  by_cases hm : most ≤ r.2.length
  · rw [if_pos (.inl (by rw [h2]; exact hm)), if_pos hm]; exact ⟨h1, h2⟩
  · rw [if_neg hm]
    by_cases h3 : 3000 ≤ s.1.length
    · rw [if_pos (.inr h3)]
      have hr : 3000 ≤ r.1.length := by rw [h1, List.length_take] at h3; omega
      rw [if_neg (by simp; omega)]
      exact ⟨by rw [h1]; simp only; rw [List.take_append_of_le_length hr], h2⟩
    · rw [if_neg (by rw [h2]; omega)]
      have hr : r.1.length < 3000 := by rw [h1, List.length_take] at h3; omega
      have e1 : s.1 = r.1 := by rw [h1, List.take_of_length_le (by omega)]
      have hn : SRel (s.1 ++ [a ++ [b]], s.2) (r.1 ++ [a ++ [b]], r.2) := ⟨by rw [e1, List.take_of_length_le (by simp; omega)], h2⟩
      cases hK : K (a ++ [b])
      · simp only [Bool.and_false, Bool.false_eq_true, if_false]; exact hn
      · rw [if_pos rfl, if_pos (by simp; omega)]; exact hfg _ _ _ hn
theorem srel_fold {F G : SS → Nat → SS} (hFG : ∀ s r b, SRel s r → SRel (F s b) (G r b)) : ∀ (l : List Nat) (s r : SS), SRel s r → SRel (l.foldl F s) (l.foldl G r) := by
  intro l
  induction l with
  | nil => intro s r h; exact h
  | cons x l ih => intro s r h; exact ih _ _ (hFG _ _ _ h)
theorem srel (K : List Nat → Bool) (most : Nat) : ∀ (d : Nat) (a : List Nat) (s r : SS), SRel s r → SRel (goS K most d a s) (srS K most d a r) := by
  intro d
  induction d with
  | zero => intro a s r h; exact ⟨h.1, by show s.2 ++ [a] = r.2 ++ [a]; rw [h.2]⟩
  | succ d ih => intro a s r h; exact srel_fold (fun s r b h => SRel.step ih a b h) _ _ _ h
/-- What was asked stays asked. -/
theorem sr_mono (K : List Nat → Bool) (most : Nat) : ∀ (d : Nat) (a : List Nat) (s : SS), s.1 <+: (srS K most d a s).1 := by
  intro d
  induction d with
  | zero => intro a s; exact List.prefix_refl _
  | succ d ih =>
    intro a s
    show s.1 <+: ((List.range (blks 0 a + 1)).foldl (srStep K most (srS K most d) a) s).1
    generalize List.range (blks 0 a + 1) = l
    induction l generalizing s with
    | nil => exact List.prefix_refl _
    | cons x l il =>
      refine List.IsPrefix.trans ?_ (il _)
      unfold srStep
      split
      · exact List.prefix_refl _
      · split
        · exact List.IsPrefix.trans (l₂ := s.1 ++ [a ++ [x]]) (List.prefix_append _ _) (ih _ (s.1 ++ [a ++ [x]], s.2))
        · exact List.prefix_append _ _
theorem sr_fold_mono (K : List Nat → Bool) (most d : Nat) (a : List Nat) (l : List Nat) (s : SS) : s.1 <+: (l.foldl (srStep K most (srS K most d) a) s).1 := by
  induction l generalizing s with
  | nil => exact List.prefix_refl _
  | cons x l il =>
    refine List.IsPrefix.trans ?_ (il _)
    unfold srStep
    split
    · exact List.prefix_refl _
    · split
      · exact List.IsPrefix.trans (l₂ := s.1 ++ [a ++ [x]]) (List.prefix_append _ _) (sr_mono K most d _ (s.1 ++ [a ++ [x]], s.2))
      · exact List.prefix_append _ _
theorem sr_full {K : List Nat → Bool} {most : Nat} {f : List Nat → SS → SS} {a : List Nat} (l : List Nat) {s : SS} (h : most ≤ s.2.length) : l.foldl (srStep K most f a) s = s := by
  induction l with
  | nil => rfl
  | cons x l il => rw [List.foldl_cons, show srStep K most f a s x = s by unfold srStep; rw [if_pos h]]; exact il
theorem go_full {K : List Nat → Bool} {most : Nat} {f : List Nat → SS → SS} {a : List Nat} (l : List Nat) {s : SS} (h : most ≤ s.2.length ∨ 3000 ≤ s.1.length) : l.foldl (goStep K most f a) s = s := by
  induction l with
  | nil => rfl
  | cons x l il => rw [List.foldl_cons, show goStep K most f a s x = s by unfold goStep; rw [if_pos h]]; exact il
theorem blks_snoc (a : List Nat) (b : Nat) : blks 0 (a ++ [b]) = max (blks 0 a) (b + 1) := by simp [blks]
/-- So many are asked at most. -/
theorem sr_len (K : List Nat → Bool) (most : Nat) : ∀ (d : Nat) (a : List Nat) (s : SS), blks 0 a + d ≤ 12 → (srS K most d a s).1.length ≤ max 3000 s.1.length + 13 * d := by
  intro d
  induction d with
  | zero => intro a s _; show s.1.length ≤ _; omega
  | succ d ih =>
    intro a s ha
    have key : ∀ c, c ≤ blks 0 a + 1 → ((List.range c).foldl (srStep K most (srS K most d) a) s).1.length ≤ max 3000 s.1.length + 13 * d + c := by
      intro c
      induction c with
      | zero => intro _; show s.1.length ≤ _; omega
      | succ c ic =>
        intro hc
        have h0 := ic (by omega)
        rw [List.range_succ, List.foldl_append, List.foldl_cons, List.foldl_nil]
        generalize (List.range c).foldl (srStep K most (srS K most d) a) s = r at h0 ⊢
        unfold srStep
        split
        · omega
        · split
          · rename_i hk
            have h3 : r.1.length + 1 ≤ 3000 := by
              rw [Bool.and_eq_true, decide_eq_true_eq] at hk; exact hk.1
            have h4 := ih (a ++ [c]) (r.1 ++ [a ++ [c]], r.2) (by rw [blks_snoc]; omega)
            simp only [List.length_append, List.length_singleton] at h4
            omega
          · simp only [List.length_append, List.length_singleton]; omega
    have := key (blks 0 a + 1) (Nat.le_refl _)
    show ((List.range (blks 0 a + 1)).foldl (srStep K most (srS K most d) a) s).1.length ≤ _
    omega
/-- The document's search asks at most three thousand times, and finds no more than it is to. -/
theorem go_len (K : List Nat → Bool) (most : Nat) : ∀ (d : Nat) (a : List Nat) (s : SS), s.1.length ≤ 3000 → s.2.length < most → (goS K most d a s).1.length ≤ 3000 ∧ (goS K most d a s).2.length ≤ most := by
  intro d
  induction d with
  | zero => intro a s h1 h2; exact ⟨h1, by show (s.2 ++ [a]).length ≤ most; simp; omega⟩
  | succ d ih =>
    intro a s h1 h2
    show ((List.range (blks 0 a + 1)).foldl (goStep K most (goS K most d) a) s).1.length ≤ 3000 ∧ ((List.range (blks 0 a + 1)).foldl (goStep K most (goS K most d) a) s).2.length ≤ most
    generalize List.range (blks 0 a + 1) = l
    have h2' : s.2.length ≤ most := by omega
    clear h2
    induction l generalizing s with
    | nil => exact ⟨h1, h2'⟩
    | cons x l il =>
      have hs : (goStep K most (goS K most d) a s x).1.length ≤ 3000 ∧ (goStep K most (goS K most d) a s x).2.length ≤ most := by
        unfold goStep
        split
        · exact ⟨h1, h2'⟩
        · rename_i hn
          split
          · exact ih _ _ (by simp; omega) (by simp; omega)
          · exact ⟨by simp; omega, h2'⟩
      exact il _ hs.1 hs.2
theorem go_fold_len (K : List Nat → Bool) (most d : Nat) (a : List Nat) (l : List Nat) (s : SS) (h1 : s.1.length ≤ 3000) (h2 : s.2.length ≤ most) : (l.foldl (goStep K most (goS K most d) a) s).1.length ≤ 3000 ∧ (l.foldl (goStep K most (goS K most d) a) s).2.length ≤ most := by
  induction l generalizing s with
  | nil => exact ⟨h1, h2⟩
  | cons x l il =>
    have hs : (goStep K most (goS K most d) a s x).1.length ≤ 3000 ∧ (goStep K most (goS K most d) a s x).2.length ≤ most := by
      unfold goStep
      split
      · exact ⟨h1, h2⟩
      · rename_i hn
        split
        · exact go_len K most d _ _ (by simp; omega) (by simp; omega)
        · exact ⟨by simp; omega, h2⟩
    exact il _ hs.1 hs.2
/-- What the closure must know of the one that is asked. -/
theorem ask_at {F A q : List (List Nat)} {l : List Nat} (hA : A = F.take 3000) (hp : q ++ [l] <+: F) (h : A.length < 3000 ∨ q.length < 3000) : A[q.length]? = some l := by
  obtain ⟨t, ht⟩ := hp
  have hF : F[q.length]? = some l := by rw [← ht]; simp
  have hlt : q.length < 3000 := by
    rcases h with h | h
    · rw [hA, List.length_take] at h
      have : q.length < F.length := (List.getElem?_eq_some_iff.1 hF).1
      omega
    · exact h
  rw [hA, List.getElem?_take_of_lt hlt]; exact hF
end Go.Proofs.Ytlffhpggfhpgnaa
