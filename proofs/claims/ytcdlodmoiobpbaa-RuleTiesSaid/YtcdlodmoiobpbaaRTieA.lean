/- Labels that fall, round by round, to the least of their block: plain facts. -/
namespace Go.Proofs.Ytcdlodmoiobpbaa
/-- Labels that are alike on each of the rows. -/
def Con (Ss : List (List Nat)) (B : Nat → Nat) : Prop := ∀ T ∈ Ss, ∀ s ∈ T, ∀ t ∈ T, B s = B t
/-- The least label of a row's first c steps and of its first. -/
def lowC (l : Nat → Nat) (T : List Nat) : Nat → Nat
  | 0 => l (T.getD 0 0)
  | c + 1 => if l (T.getD c 0) < lowC l T c then l (T.getD c 0) else lowC l T c
def lowT (l : Nat → Nat) (T : List Nat) : Nat := lowC l T T.length
def bnd (l : Nat → Nat) (T : List Nat) (a : Nat) : Nat := if a ∈ T then lowT l T else l a
theorem lowC_le (l : Nat → Nat) (T : List Nat) (c : Nat) : ∀ k, k < c → lowC l T c ≤ l (T.getD k 0) := by
  induction c with
  | zero => intro k hk; omega
  | succ c ih =>
    intro k hk
    rw [lowC]
    by_cases e : k = c
    · subst e
      split <;> omega
    · have := ih k (by omega)
      split <;> omega
theorem lowC_mem (l : Nat → Nat) (T : List Nat) (c : Nat) (hc : c ≤ T.length) (h0 : 0 < T.length) : ∃ t ∈ T, lowC l T c = l t := by
  have hm : ∀ k, k < T.length → T.getD k 0 ∈ T := fun k hk => by
    rw [List.getD_eq_getElem?_getD, List.getElem?_eq_getElem hk]; exact List.getElem_mem _
  induction c with
  | zero => exact ⟨_, hm 0 h0, rfl⟩
  | succ c ih =>
    rw [lowC]
    split
    · exact ⟨_, hm c (by omega), rfl⟩
    · exact ih (by omega)
theorem lowT_le {l : Nat → Nat} {T : List Nat} {t : Nat} (h : t ∈ T) : lowT l T ≤ l t := by
  obtain ⟨k, hk⟩ := List.getElem?_of_mem h
  have hlt := (List.getElem?_eq_some_iff.1 hk).1
  have := lowC_le l T T.length k hlt
  rwa [List.getD_eq_getElem?_getD, hk] at this
theorem lowT_mem {l : Nat → Nat} {T : List Nat} {t : Nat} (h : t ∈ T) : ∃ t ∈ T, lowT l T = l t := lowC_mem l T _ (Nat.le_refl _) (List.length_pos_of_mem h)
theorem bnd_le (l : Nat → Nat) (T : List Nat) (a : Nat) : bnd l T a ≤ l a := by
  unfold bnd
  split
  · next h => exact lowT_le h
  · exact Nat.le_refl _
theorem round_le (Ss : List (List Nat)) (l : Nat → Nat) (a : Nat) : Ss.foldl bnd l a ≤ l a := by
  induction Ss generalizing l with
  | nil => exact Nat.le_refl _
  | cons T Ss ih => exact Nat.le_trans (ih (bnd l T)) (bnd_le l T a)
/-- What stands of the labels all the way. -/
def InvL (n : Nat) (E l : Nat → Nat) : Prop := ∀ a, a < n → l a < n ∧ E (l a) = E a
theorem inv_bnd {n : Nat} {E l : Nat → Nat} {T : List Nat} (h : InvL n E l) (hT : ∀ t ∈ T, t < n) (hE : ∀ s ∈ T, ∀ t ∈ T, E s = E t) : InvL n E (bnd l T) := fun a ha => by
  unfold bnd
  split
  · next hm =>
    obtain ⟨t, ht, e⟩ := lowT_mem (l := l) hm
    rw [e]
    have := h t (hT t ht)
    exact ⟨this.1, this.2.trans (hE t ht a hm)⟩
  · exact h a ha
theorem inv_round {n : Nat} {E : Nat → Nat} {Ss : List (List Nat)} (hT : ∀ T ∈ Ss, ∀ t ∈ T, t < n) (hE : Con Ss E) {l : Nat → Nat} (h : InvL n E l) : InvL n E (Ss.foldl bnd l) := by
  induction Ss generalizing l with
  | nil => exact h
  | cons T Ss ih => exact ih (fun U hU => hT U (List.mem_cons_of_mem _ hU)) (fun U hU => hE U (List.mem_cons_of_mem _ hU)) (inv_bnd h (hT T List.mem_cons_self) (hE T List.mem_cons_self))
/-- A row's steps get the least label of all, where one of them has it. -/
theorem spreads {n : Nat} {E : Nat → Nat} {Ss : List (List Nat)} (hT : ∀ T ∈ Ss, ∀ t ∈ T, t < n) (hE : Con Ss E) {l : Nat → Nat} (h : InvL n E l) {m : Nat} (hm : ∀ a, a < n → E a = E m → m ≤ a) {T : List Nat} (hTS : T ∈ Ss) {s t : Nat} (hs : s ∈ T) (ht : t ∈ T) (hl : l s = m) : Ss.foldl bnd l t = m := by
  have hsm : E s = E m := by rw [← hl]; exact (h s (hT T hTS s hs)).2.symm
  have htm : E t = E m := (hE T hTS t ht s hs).trans hsm
  have hge : ∀ l', InvL n E l' → ∀ a, a < n → E a = E m → m ≤ l' a := fun l' h' a ha e => hm _ (h' a ha).1 ((h' a ha).2.trans e)
  have hlow := hge _ (inv_round hT hE h) t (hT T hTS t ht) htm
  obtain ⟨A, C, rfl⟩ := List.append_of_mem hTS
  have h1 := round_le A l s
  rw [List.foldl_append, List.foldl_cons] at hlow ⊢
  have h2 := round_le C (bnd (A.foldl bnd l) T) t
  have h3 : bnd (A.foldl bnd l) T t ≤ A.foldl bnd l s := by
    unfold bnd
    rw [if_pos ht]
    exact lowT_le hs
  omega
def cntM (n : Nat) (l : Nat → Nat) (m : Nat) : Nat := (List.range n).countP fun a => decide (l a = m)
theorem countP_more {L : List Nat} {p q : Nat → Bool} (h : ∀ x ∈ L, p x = true → q x = true) {t : Nat} (ht : t ∈ L) (hp : p t = false) (hq : q t = true) : L.countP p + 1 ≤ L.countP q := by
  induction L with
  | nil => cases ht
  | cons a L ih =>
    rw [List.countP_cons, List.countP_cons]
    have hm : L.countP p ≤ L.countP q := List.countP_mono_left fun x hx hpx => h x (List.mem_cons_of_mem _ hx) hpx
    rcases List.mem_cons.1 ht with rfl | ht'
    · rw [hp, hq]; simp; exact hm
    · have := ih (fun x hx => h x (List.mem_cons_of_mem _ hx)) ht'
      have ha := h a List.mem_cons_self
      cases hpa : p a with
      | false => simp; omega
      | true => rw [ha hpa]; simp; omega
def labN (Ss : List (List Nat)) : Nat → Nat → Nat
  | 0 => id
  | k + 1 => Ss.foldl bnd (labN Ss k)
theorem inv_labN {n : Nat} {E : Nat → Nat} {Ss : List (List Nat)} (hT : ∀ T ∈ Ss, ∀ t ∈ T, t < n) (hE : Con Ss E) (k : Nat) : InvL n E (labN Ss k) := by
  induction k with
  | zero => exact fun a ha => ⟨ha, rfl⟩
  | succ k ih => exact inv_round hT hE ih
/-- In k rounds all of a block has its least step's label, or more than k steps have it. -/
theorem grows {n : Nat} {E : Nat → Nat} {Ss : List (List Nat)} (hT : ∀ T ∈ Ss, ∀ t ∈ T, t < n) (hE : Con Ss E) (hF : ∀ B, Con Ss B → ∀ a b, a < n → b < n → E a = E b → B a = B b) {m : Nat} (hmn : m < n) (hm : ∀ a, a < n → E a = E m → m ≤ a) (k : Nat) :
    (∀ a, a < n → E a = E m → labN Ss k a = m) ∨ k + 1 ≤ cntM n (labN Ss k) m := by
  have hge : ∀ l', InvL n E l' → ∀ a, a < n → E a = E m → m ≤ l' a := fun l' h' a ha e => hm _ (h' a ha).1 ((h' a ha).2.trans e)
  have hkeep : ∀ k a, a < n → labN Ss k a = m → labN Ss (k + 1) a = m := fun k a ha h => by
    have hi := inv_labN hT hE k
    have ea : E a = E m := by rw [← h]; exact (hi a ha).2.symm
    have h1 := hge _ (inv_labN hT hE (k + 1)) a ha ea
    have h2 := round_le Ss (labN Ss k) a
    show Ss.foldl bnd (labN Ss k) a = m
    have h1' : m ≤ Ss.foldl bnd (labN Ss k) a := h1
    omega
  induction k with
  | zero =>
    right
    have := countP_more (L := List.range n) (p := fun _ => false) (q := fun a => decide (labN Ss 0 a = m)) (fun x _ h => by cases h) (List.mem_range.2 hmn) rfl (by simp [labN])
    unfold cntM
    omega
  | succ k ih =>
    by_cases hcl : ∀ a, a < n → E a = E m → labN Ss k a = m
    · left
      exact fun a ha e => hkeep k a ha (hcl a ha e)
    · rcases ih with ih | ih
      · exact absurd ih hcl
      · right
        by_cases hc : Con Ss fun a => if labN Ss k a = m then 1 else 0
        · exfalso
          apply hcl
          intro a ha e
          have h1 := hF _ hc a m ha hmn e
          have hmm : labN Ss k m = m := by
            have h1 := hge _ (inv_labN hT hE k) m hmn rfl
            have h2 : ∀ k, labN Ss k m ≤ m := fun k => by
              induction k with
              | zero => exact Nat.le_refl _
              | succ k ih => exact Nat.le_trans (round_le Ss _ m) ih
            have := h2 k
            omega
          simp only [hmm, if_true] at h1
          by_cases h2 : labN Ss k a = m
          · exact h2
          · rw [if_neg h2] at h1; cases h1
        · have hex : ∃ T, T ∈ Ss ∧ ∃ s, s ∈ T ∧ ∃ t, t ∈ T ∧ labN Ss k s = m ∧ labN Ss k t ≠ m := by
            apply Classical.byContradiction
            intro hno
            apply hc
            intro T hTS s hs t ht
            show (if labN Ss k s = m then 1 else 0) = (if labN Ss k t = m then 1 else 0)
            by_cases h1 : labN Ss k s = m
            · by_cases h2 : labN Ss k t = m
              · rw [if_pos h1, if_pos h2]
              · exact absurd ⟨T, hTS, s, hs, t, ht, h1, h2⟩ hno
            · by_cases h2 : labN Ss k t = m
              · exact absurd ⟨T, hTS, t, ht, s, hs, h2, h1⟩ hno
              · rw [if_neg h1, if_neg h2]
          obtain ⟨T, hTS, s, hs, t, ht, h1, h2⟩ := hex
          have h3 : labN Ss (k + 1) t = m := spreads hT hE (inv_labN hT hE k) hm hTS hs ht h1
          have := countP_more (L := List.range n) (p := fun a => decide (labN Ss k a = m)) (q := fun a => decide (labN Ss (k + 1) a = m)) (fun x hx h => by
            rw [decide_eq_true_iff] at h ⊢
            exact hkeep k x (List.mem_range.1 hx) h) (List.mem_range.2 (hT T hTS t ht)) (by simpa using h2) (by simpa using h3)
          unfold cntM at ih ⊢
          omega
theorem least_of {n : Nat} (E : Nat → Nat) {a : Nat} (ha : a < n) : ∃ m, m < n ∧ E m = E a ∧ ∀ b, b < n → E b = E m → m ≤ b := by
  induction a using Nat.strongRecOn with
  | ind a ih =>
    by_cases h : ∃ b, b < a ∧ E b = E a
    · obtain ⟨b, hb, e⟩ := h
      obtain ⟨m, h1, h2, h3⟩ := ih b hb (by omega)
      exact ⟨m, h1, h2.trans e, h3⟩
    · refine ⟨a, ha, rfl, fun b _ e => ?_⟩
      apply Nat.le_of_not_lt
      exact fun hlt => h ⟨b, hlt, e⟩
/-- Behind n rounds labels are alike just where the blocks are. -/
theorem labN_iff {n : Nat} {E : Nat → Nat} {Ss : List (List Nat)} (hT : ∀ T ∈ Ss, ∀ t ∈ T, t < n) (hE : Con Ss E) (hF : ∀ B, Con Ss B → ∀ a b, a < n → b < n → E a = E b → B a = B b) {a b : Nat} (ha : a < n) (hb : b < n) : labN Ss n a = labN Ss n b ↔ E a = E b := by
  have hi := inv_labN hT hE n
  constructor
  · intro h
    rw [← (hi a ha).2, ← (hi b hb).2, h]
  · intro h
    obtain ⟨m, hmn, em, hm⟩ := least_of E ha
    have key : ∀ c, c < n → E c = E m → labN Ss n c = m := by
      rcases grows hT hE hF hmn hm n with h1 | h1
      · exact h1
      · exfalso
        have : cntM n (labN Ss n) m ≤ n := by
          unfold cntM
          refine Nat.le_trans List.countP_le_length ?_
          rw [List.length_range]
          exact Nat.le_refl _
        omega
    rw [key a ha em.symm, key b hb (h.symm.trans em.symm)]
end Go.Proofs.Ytcdlodmoiobpbaa
