/- The document's hierarchy: a row of links in any order: plain facts. -/
import Derived.Test.YtegpgjiccpglbaaDoorYGoesM
namespace Go.Proofs.YtegpgjiccpglbaaDoor
theorem perm_of {α : Type} [DecidableEq α] : ∀ (l m : List α), l.Pairwise (· ≠ ·) → m.Pairwise (· ≠ ·) → (∀ x, x ∈ l ↔ x ∈ m) → l.Perm m
  | [], m, _, _, h => by
    cases m with
    | nil => exact .refl _
    | cons a m => exact absurd ((h a).2 (by simp)) (by simp)
  | a :: l, m, hl, hm, h => by
    rw [List.pairwise_cons] at hl
    have ha : a ∈ m := (h a).1 (by simp)
    have hp : m.Perm (a :: m.erase a) := List.perm_cons_erase ha
    have hm2 : (a :: m.erase a).Pairwise (· ≠ ·) := hm.perm hp (fun h e => h e.symm)
    rw [List.pairwise_cons] at hm2
    refine ((perm_of l (m.erase a) hl.2 hm2.2 fun x => ?_).cons a).trans hp.symm
    constructor
    · intro hx
      have h1 : x ∈ a :: m.erase a := hp.mem_iff.1 ((h x).1 (by simp [hx]))
      rcases List.mem_cons.1 h1 with e | h1
      · subst e; exact absurd rfl (hl.1 x hx)
      · exact h1
    · intro hx
      have h1 : x ∈ a :: l := (h x).2 (hp.mem_iff.2 (by simp [hx]))
      rcases List.mem_cons.1 h1 with e | h1
      · subst e; exact absurd rfl (hm2.1 x hx)
      · exact h1
/-- The same links. -/
def Sm (J : Nat → Nat) (D : List (Int × Int)) : Prop := D.Pairwise (· ≠ ·) ∧ ∀ p, p ∈ D ↔ p ∈ lks J
theorem lks_nodup (J : Nat → Nat) : (lks J).Pairwise (· ≠ ·) := (lks_sorted J).imp fun {a b} h e => by
  subst e; unfold ltP at h; omega
theorem Sm.perm {J : Nat → Nat} {D : List (Int × Int)} (h : Sm J D) : D.Perm (lks J) := perm_of _ _ h.1 (lks_nodup J) h.2
theorem Sm.len {J : Nat → Nat} {D : List (Int × Int)} (h : Sm J D) : D.length ≤ 4096 := by rw [h.perm.length_eq]; exact lks_len J
theorem Sm.ok {J : Nat → Nat} {D : List (Int × Int)} (hw : Wf J) (h : Sm J D) : ∀ p ∈ D, okP p := fun p hp => lks_ok hw p ((h.2 p).1 hp)
theorem Sm.link {J : Nat → Nat} {D : List (Int × Int)} (hw : Wf J) (h : Sm J D) {p : Int × Int} (hp : p ∈ D) : ∃ x y : Nat, E J x y ∧ p = ((x : Int), (y : Int)) := (mem_lks hw).1 ((h.2 p).1 hp)
theorem Sm.has {J : Nat → Nat} {D : List (Int × Int)} (hw : Wf J) (h : Sm J D) (x y : Int) : decide ((x, y) ∈ D) = hasJ J x y := by
  rw [Bool.eq_iff_iff, decide_eq_true_iff, h.2, mem_lks hw]
  unfold hasJ
  simp only [Bool.and_eq_true]
  constructor
  · rintro ⟨a, b, hE, e⟩
    cases e
    simp only [Int.toNat_natCast]
    exact ⟨⟨okA_of hE.1, okA_of (hE.lt hw)⟩, hE.2⟩
  · rintro ⟨⟨h1, h2⟩, h3⟩
    obtain ⟨a, ha, rfl⟩ := okA_nat h1
    obtain ⟨b, hb, rfl⟩ := okA_nat h2
    exact ⟨a, b, ⟨ha, h3⟩, rfl⟩
theorem sm_no : Sm noJ [] := by
  refine ⟨.nil, fun p => ?_⟩
  rw [mem_lks no_wf]
  constructor
  · intro h; cases h
  · rintro ⟨a, b, hE, _⟩
    unfold E noJ at hE
    simp at hE
theorem Sm.lay {J : Nat → Nat} {D : List (Int × Int)} (hw : Wf J) (h : Sm J D) {i j : Nat} (hi : i < 64) (hj : j < 64) (hn : (J i).testBit j = false) : Sm (lay J i j) (D ++ [((i : Int), (j : Int))]) := by
  constructor
  · rw [List.pairwise_append]
    refine ⟨h.1, by simp, fun p hp q hq e => ?_⟩
    rw [List.mem_singleton] at hq
    subst e
    obtain ⟨x, y, hE, e⟩ := h.link hw hp
    rw [hq] at e
    have e1 : i = x := by have := congrArg Prod.fst e; simp only [] at this; omega
    have e2 : j = y := by have := congrArg Prod.snd e; simp only [] at this; omega
    subst e1 e2
    have := hE.2
    rw [hn] at this; cases this
  · intro p
    rw [List.mem_append, List.mem_singleton, h.2, mem_lks hw, mem_lks (lay_wf hw hi hj)]
    constructor
    · rintro (⟨a, b, hE, e⟩ | e)
      · exact ⟨a, b, (lay_E hi).2 (.inl hE), e⟩
      · exact ⟨i, j, (lay_E hi).2 (.inr ⟨rfl, rfl⟩), e⟩
    · rintro ⟨a, b, hE, e⟩
      rcases (lay_E hi).1 hE with hE | ⟨rfl, rfl⟩
      · exact .inl ⟨a, b, hE, e⟩
      · exact .inr e
theorem Sm.filter {J K : Nat → Nat} {D : List (Int × Int)} (h : Sm J D) (q : Int × Int → Bool) (hq : ∀ p, p ∈ lks K ↔ p ∈ lks J ∧ q p = true) : Sm K (D.filter q) :=
  ⟨h.1.filter _, fun p => by rw [List.mem_filter, hq, h.2]⟩
/-- Is it another pair? -/
def nep (x y : Int) (p : Int × Int) : Bool := !decide (p = (x, y))
theorem Sm.cut {J : Nat → Nat} {D : List (Int × Int)} (hw : Wf J) (h : Sm J D) {i j : Nat} (hi : i < 64) (hj : j < 64) : Sm (cutJ J i j) (D.filter (nep (i : Int) (j : Int))) := by
  refine h.filter _ fun p => ?_
  rw [mem_lks hw, mem_lks (cut_wf hw hi)]
  constructor
  · rintro ⟨a, b, hE, rfl⟩
    obtain ⟨h1, h2⟩ := (cut_E hw hi hj).1 hE
    refine ⟨⟨a, b, h1, rfl⟩, ?_⟩
    unfold nep
    simp
    omega
  · rintro ⟨⟨a, b, hE, rfl⟩, h2⟩
    unfold nep at h2
    simp at h2
    exact ⟨a, b, (cut_E hw hi hj).2 ⟨hE, fun ⟨e1, e2⟩ => by omega⟩, rfl⟩
theorem Sm.drop {J : Nat → Nat} {D : List (Int × Int)} (hw : Wf J) (h : Sm J D) (x : Int) : Sm (drJI J x) (D.filter (fun p => !tch x p)) := by
  refine h.filter _ fun p => ?_
  rw [← (drop_links hw x).2, List.mem_filter]
theorem Sm.gone {J : Nat → Nat} {D : List (Int × Int)} (hw : Wf J) (h : Sm J D) (x : Int) : D.length = (D.filter (fun p => !tch x p)).length + drCI J x := by
  rw [← (drop_links hw x).1, ← h.perm.countP_eq, ← List.countP_eq_length_filter]
  have : ∀ l : List (Int × Int), l.length = l.countP (fun p => !tch x p) + l.countP (tch x) := fun l => by
    induction l with
    | nil => rfl
    | cons p l ih =>
      rw [List.countP_cons, List.countP_cons, List.length_cons, ih]
      cases tch x p <;> simp <;> omega
  exact this D
/-- Below by rounds that end where none adds any: s is what is met. -/
def closedD (D : List (Int × Int)) (w : Nat) : Prop := ∀ p ∈ D, w.testBit p.1.toNat = true → w.testBit p.2.toNat = true
theorem closed_bel {J : Nat → Nat} {D : List (Int × Int)} (hw : Wf J) (hy : Acy J) (h : Sm J D) {a w : Nat} (ha : a < 64) (h1 : w.testBit a = true) (h2 : closedD D w) (h3 : ∀ b, w.testBit b = true → Rc J a b) : w = bel J a := by
  apply Nat.eq_of_testBit_eq; intro b
  rw [Bool.eq_iff_iff, bel_bit hw hy ha]
  refine ⟨h3 b, fun ⟨n, hn⟩ => ?_⟩
  have key : ∀ n x b, Way J n x b → w.testBit x = true → w.testBit b = true := by
    intro n x b hn
    induction hn with
    | nil => exact id
    | @snoc n x b c _ e ih =>
      intro hx
      have := h2 _ ((h.2 _).2 ((mem_lks hw).2 ⟨b, c, e, rfl⟩)) (by simpa using ih hx)
      simpa using this
  exact key n a b hn h1
/-- Spread, place by place. -/
def sprR (J : Nat → Nat) (s : Nat) : Nat → Nat
  | 0 => 0
  | k + 1 => if s.testBit k then sprR J s k ||| bel J k else sprR J s k
theorem sprR_lt {J : Nat → Nat} (hw : Wf J) (s : Nat) : ∀ k, k ≤ 64 → sprR J s k < 18446744073709551616
  | 0, _ => by show 0 < 18446744073709551616; decide
  | k + 1, h => by
    unfold sprR; split
    · exact Nat.or_lt_two_pow (n := 64) (sprR_lt hw s k (by omega)) (bel_lt hw (by omega))
    · exact sprR_lt hw s k (by omega)
theorem sprR_bit {J : Nat → Nat} {s : Nat} (b : Nat) : ∀ k, (sprR J s k).testBit b = true ↔ ∃ a, a < k ∧ s.testBit a = true ∧ (bel J a).testBit b = true
  | 0 => by simp [sprR]
  | k + 1 => by
    unfold sprR
    split
    · rename_i h
      rw [Nat.testBit_or, Bool.or_eq_true, sprR_bit b k]
      constructor
      · rintro (⟨a, h1, h2⟩ | h1)
        · exact ⟨a, by omega, h2⟩
        · exact ⟨k, by omega, h, h1⟩
      · rintro ⟨a, h1, h2, h3⟩
        by_cases e : a = k
        · subst e; exact .inr h3
        · exact .inl ⟨a, by omega, h2, h3⟩
    · rename_i h
      rw [sprR_bit b k]
      constructor
      · rintro ⟨a, h1, h2⟩; exact ⟨a, by omega, h2⟩
      · rintro ⟨a, h1, h2, h3⟩
        have : a ≠ k := fun e => h (e ▸ h2)
        exact ⟨a, by omega, h2, h3⟩
theorem sprR_all {J : Nat → Nat} (hw : Wf J) (hy : Acy J) {s : Nat} (hs : s < 18446744073709551616) : sprR J s 64 = spr J s := by
  apply Nat.eq_of_testBit_eq; intro b
  rw [Bool.eq_iff_iff, spr_bit hw hy hs, sprR_bit]
  constructor
  · rintro ⟨a, ha, h, r⟩; exact ⟨a, h, (bel_bit hw hy ha).1 r⟩
  · rintro ⟨a, h, r⟩
    have ha := bit_lt hs h
    exact ⟨a, ha, h, (bel_bit hw hy ha).2 r⟩
/-- One link's step of Depth. -/
def rlx (d : Nat → Nat) (p : Int × Int) : Nat → Nat := if d p.1.toNat < d p.2.toNat + 1 then (fun i => if i = p.1.toNat then d p.2.toNat + 1 else d i) else d
def rlxL (D : List (Int × Int)) (d : Nat → Nat) : Nat → Nat := D.foldl rlx d
def rlxN (D : List (Int × Int)) : Nat → Nat → Nat
  | 0 => fun _ => 0
  | n + 1 => rlxL D (rlxN D n)
theorem rlx_mono (d : Nat → Nat) (p : Int × Int) (i : Nat) : d i ≤ rlx d p i := by
  unfold rlx; split
  · dsimp only
    split
    · rename_i h e; subst e; omega
    · exact Nat.le_refl _
  · exact Nat.le_refl _
theorem rlxL_mono : ∀ (D : List (Int × Int)) (d : Nat → Nat) (i : Nat), d i ≤ rlxL D d i
  | [], _, _ => Nat.le_refl _
  | p :: D, d, i => Nat.le_trans (rlx_mono d p i) (rlxL_mono D (rlx d p) i)
theorem rlx_le {J : Nat → Nat} (hw : Wf J) (hy : Acy J) {d : Nat → Nat} {x y : Nat} (hE : E J x y) (h : ∀ i, i < 64 → d i ≤ dep J i) : ∀ i, i < 64 → rlx d ((x : Int), (y : Int)) i ≤ dep J i := by
  intro i hi
  unfold rlx
  simp only [Int.toNat_natCast]
  split
  · dsimp only
    split
    · rename_i e; subst e
      have := dep_link hw hy hE
      have := h y (hE.lt hw)
      omega
    · exact h i hi
  · exact h i hi
theorem rlxL_le {J : Nat → Nat} (hw : Wf J) (hy : Acy J) : ∀ (D : List (Int × Int)) (d : Nat → Nat), (∀ p ∈ D, ∃ x y : Nat, E J x y ∧ p = ((x : Int), (y : Int))) → (∀ i, i < 64 → d i ≤ dep J i) → ∀ i, i < 64 → rlxL D d i ≤ dep J i
  | [], _, _, h => h
  | p :: D, d, hD, h => by
    obtain ⟨x, y, hE, rfl⟩ := hD p (by simp)
    exact rlxL_le hw hy D _ (fun q hq => hD q (by simp [hq])) (rlx_le hw hy hE h)
theorem rlxL_ge : ∀ (D : List (Int × Int)) (d : Nat → Nat) (p : Int × Int), p ∈ D → d p.2.toNat + 1 ≤ rlxL D d p.1.toNat
  | q :: D, d, p, hp => by
    rcases List.mem_cons.1 hp with e | hp
    · subst e
      refine Nat.le_trans ?_ (rlxL_mono D (rlx d p) p.1.toNat)
      unfold rlx; split
      · simp
      · omega
    · have := rlxL_ge D (rlx d q) p hp
      have := rlx_mono d q p.2.toNat
      show _ ≤ rlxL D (rlx d q) p.1.toNat
      omega
theorem rlxN_ok {J : Nat → Nat} {D : List (Int × Int)} (hw : Wf J) (hy : Acy J) (h : Sm J D) : ∀ n i, i < 64 → rlxN D n i ≤ dep J i ∧ min n (dep J i) ≤ rlxN D n i
  | 0, i, _ => ⟨Nat.zero_le _, by simp⟩
  | n + 1, i, hi => by
    have ih := rlxN_ok hw hy h n
    refine ⟨rlxL_le hw hy D _ (fun p hp => h.link hw hp) (fun k hk => (ih k hk).1) i hi, ?_⟩
    show _ ≤ rlxL D (rlxN D n) i
    by_cases hz : dep J i = 0
    · rw [hz]; simp
    · obtain ⟨b, hE, e⟩ := dep_some hw hy hi hz
      have h1 := rlxL_ge D (rlxN D n) _ ((h.2 _).2 ((mem_lks hw).2 ⟨i, b, hE, rfl⟩))
      simp only [Int.toNat_natCast] at h1
      have h2 := (ih b (hE.lt hw)).2
      omega
theorem rlxN_all {J : Nat → Nat} {D : List (Int × Int)} (hw : Wf J) (hy : Acy J) (h : Sm J D) {i : Nat} (hi : i < 64) : rlxN D 64 i = dep J i := by
  have := rlxN_ok hw hy h 64 i hi
  have := dep_le hw hy hi
  omega
theorem rlxL_take {D : List (Int × Int)} {c : Nat} {p : Int × Int} (h : D[c]? = some p) (d : Nat → Nat) : rlxL (D.take (c + 1)) d = rlx (rlxL (D.take c) d) p := by
  unfold rlxL; rw [List.take_add_one, h, List.foldl_append]; rfl
/-- The links of one place, up to k. -/
def rowTo (J : Nat → Nat) (a k : Nat) : List (Int × Int) := lkRow a ((nums (J a)).filter fun i => decide (i.val < k))
theorem fin_cut (p : Nat → Bool) (k : Nat) (hk : k < 64) : ((List.finRange 64).filter fun i => p i.val && decide (i.val < k + 1)) = ((List.finRange 64).filter fun i => p i.val && decide (i.val < k)) ++ (if p k then [⟨k, hk⟩] else []) := by
  have hs : (List.finRange 64) = ((List.finRange 64).filter fun i => decide (i.val < k)) ++ (⟨k, hk⟩ :: (List.finRange 64).filter fun i => decide (k < i.val)) := by
    have : ∀ m : Fin 64, (List.finRange 64) = ((List.finRange 64).filter fun i => decide (i.val < m.val)) ++ (m :: (List.finRange 64).filter fun i => decide (m.val < i.val)) := by decide +kernel
    exact this ⟨k, hk⟩
  have e1 : ∀ l : List (Fin 64), (∀ i ∈ l, k < i.val) → (l.filter fun i => p i.val && decide (i.val < k + 1)) = [] := fun l hl => List.filter_eq_nil_iff.2 fun i hi => by
    have := hl i hi; simp; intro _; omega
  have e2 : ∀ l : List (Fin 64), (∀ i ∈ l, k < i.val) → (l.filter fun i => p i.val && decide (i.val < k)) = [] := fun l hl => List.filter_eq_nil_iff.2 fun i hi => by
    have := hl i hi; simp; intro _; omega
  have hgt : ∀ i ∈ (List.finRange 64).filter (fun i => decide (k < i.val)), k < i.val := fun i hi => by
    have := (List.mem_filter.1 hi).2; simpa using this
  rw [hs, List.filter_append, List.filter_append, List.filter_cons, List.filter_cons, e1 _ hgt, e2 _ hgt]
  have e3 : (((List.finRange 64).filter fun i => decide (i.val < k)).filter fun i => p i.val && decide (i.val < k + 1)) = (((List.finRange 64).filter fun i => decide (i.val < k)).filter fun i => p i.val && decide (i.val < k)) := List.filter_congr fun i hi => by
    have : i.val < k := by simpa using (List.mem_filter.1 hi).2
    have h2 : i.val < k + 1 := by omega
    simp [this, h2]
  rw [e3]
  cases p k <;> simp
theorem rowTo_next (J : Nat → Nat) (a : Nat) {k : Nat} (hk : k < 64) : rowTo J a (k + 1) = rowTo J a k ++ (if (J a).testBit k then [((a : Int), (k : Int))] else []) := by
  unfold rowTo nums
  rw [List.filter_filter, List.filter_filter]
  have h1 : ∀ m, (List.finRange 64).filter (fun i => decide (i.val < m) && (J a).testBit i.val) = (List.finRange 64).filter (fun i => (J a).testBit i.val && decide (i.val < m)) := fun m => List.filter_congr fun i _ => Bool.and_comm _ _
  rw [h1, h1, fin_cut (fun i => (J a).testBit i) k hk]
  unfold lkRow
  rw [List.map_append]
  cases (J a).testBit k <;> simp
theorem rowTo_zero (J : Nat → Nat) (a : Nat) : rowTo J a 0 = [] := by
  unfold rowTo lkRow; simp
theorem rowTo_all (J : Nat → Nat) (a : Nat) : rowTo J a 64 = lkRow a (nums (J a)) := by
  unfold rowTo
  congr 1
  rw [List.filter_eq_self]
  intro i _
  simp
theorem rowTo_len (J : Nat → Nat) (a k : Nat) : (rowTo J a k).length ≤ 64 := by
  unfold rowTo lkRow
  rw [List.length_map]
  exact Nat.le_trans (List.length_filter_le _ _) (nums_len64 _)
end Go.Proofs.YtegpgjiccpglbaaDoor
