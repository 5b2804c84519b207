/- An order made of its covers is the same; with one less it is another: plain facts. -/
import Derived.Test.YteiedppecijhfaaDoorOExactM
namespace Go.Proofs.YteiedppecijhfaaDoor
theorem clo_sub {Q R : Nat → Nat → Bool} (h : ∀ a b, Q a b = true → R a b = true) (ht : ∀ a b c, R a b = true → R b c = true → R a c = true) : ∀ n a b, clo n Q a b = true → R a b = true
  | 0, a, b, e => h a b e
  | n + 1, a, b, e => by
    have e' : turn n (clo n Q) a b = true := e
    unfold turn at e'
    simp only [Bool.or_eq_true, Bool.and_eq_true] at e'
    rcases e' with e | ⟨e1, e2⟩
    · exact clo_sub h ht n a b e
    · exact ht a n b (clo_sub h ht n _ _ e1) (clo_sub h ht n _ _ e2)
theorem clo_super (Q : Nat → Nat → Bool) : ∀ n a b, Q a b = true → clo n Q a b = true
  | 0, _, _, h => h
  | n + 1, a, b, h => by
    show turn n (clo n Q) a b = true
    unfold turn
    rw [clo_super Q n a b h]; rfl
theorem clo_split {Q R : Nat → Nat → Bool} (h : ∀ a b, Q a b = true → R a b = true) (ht : ∀ a b c, R a b = true → R b c = true → R a c = true) : ∀ n a b, clo n Q a b = true → Q a b = true ∨ ∃ x, R a x = true ∧ R x b = true
  | 0, a, b, e => .inl e
  | n + 1, a, b, e => by
    have e' : turn n (clo n Q) a b = true := e
    unfold turn at e'
    simp only [Bool.or_eq_true, Bool.and_eq_true] at e'
    rcases e' with e | ⟨e1, e2⟩
    · exact clo_split h ht n a b e
    · exact .inr ⟨n, clo_sub h ht n _ _ e1, clo_sub h ht n _ _ e2⟩
theorem countP_lt {p q : Nat → Bool} : ∀ {l : List Nat}, (∀ x ∈ l, p x = true → q x = true) → (∃ x ∈ l, q x = true ∧ p x = false) → l.countP p < l.countP q
  | [], _, ⟨x, hx, _⟩ => by cases hx
  | y :: l, h, ⟨x, hx, hq, hp⟩ => by
    have hle : l.countP p ≤ l.countP q := List.countP_mono_left fun z hz => h z (by simp [hz])
    rw [List.countP_cons, List.countP_cons]
    rcases List.mem_cons.1 hx with rfl | hx
    · rw [hq, hp]; simp; omega
    · have := countP_lt (l := l) (fun z hz => h z (by simp [hz])) ⟨x, hx, hq, hp⟩
      have hy : (if p y = true then 1 else 0) ≤ (if q y = true then 1 else 0) := by
        by_cases e : p y = true
        · rw [if_pos e, if_pos (h y (by simp) e)]; exact Nat.le_refl _
        · rw [if_neg e]; exact Nat.zero_le _
      omega
theorem mem_cvK {R : Nat → Nat → Bool} {m k : Nat} {p : Int × Int} : p ∈ cvK R m k ↔ ∃ a b : Nat, p = ((a : Int), (b : Int)) ∧ a < k ∧ b < m ∧ okK R a b m = true := by
  unfold cvK cvRow
  simp only [List.mem_flatMap, List.mem_range, List.mem_map, List.mem_filter]
  constructor
  · rintro ⟨a, ha, x, ⟨hx, hk⟩, rfl⟩
    exact ⟨a, x, rfl, ha, hx, hk⟩
  · rintro ⟨a, b, rfl, ha, hb, hk⟩
    exact ⟨a, ha, b, ⟨hb, hk⟩, rfl⟩
theorem rel_cvK {R : Nat → Nat → Bool} {m a b : Nat} : relL (cvK R m m) a b = true ↔ a < m ∧ b < m ∧ okK R a b m = true := by
  unfold relL
  rw [decide_eq_true_eq, mem_cvK]
  constructor
  · rintro ⟨x, y, e, h1, h2, h3⟩
    obtain ⟨e1, e2⟩ := Prod.mk.inj e
    obtain rfl : a = x := by omega
    obtain rfl : b = y := by omega
    exact ⟨h1, h2, h3⟩
  · rintro ⟨h1, h2, h3⟩
    exact ⟨a, b, rfl, h1, h2, h3⟩
theorem cvRow_nodup (R : Nat → Nat → Bool) (m a b : Nat) : (cvRow R m a b).Nodup := by
  unfold cvRow
  rw [List.nodup_iff_pairwise_ne]
  refine List.Pairwise.map _ (R := fun x y : Nat => x ≠ y) (fun x y h e => h ?_) ((List.nodup_iff_pairwise_ne.1 List.nodup_range).sublist List.filter_sublist)
  have := (Prod.mk.inj e).2
  omega
theorem cvK_nodup (R : Nat → Nat → Bool) (m : Nat) : ∀ k, (cvK R m k).Nodup
  | 0 => by simp [cvK]
  | k + 1 => by
    rw [cvK_snoc, List.nodup_append]
    refine ⟨cvK_nodup R m k, cvRow_nodup R m k m, fun p hp q hq e => ?_⟩
    subst e
    obtain ⟨a, b, rfl, ha, _⟩ := mem_cvK.1 hp
    unfold cvRow at hq
    obtain ⟨x, _, e⟩ := List.mem_map.1 hq
    have := (Prod.mk.inj e).1
    omega
theorem cov_sub {n : Nat} {R : Nat → Nat → Bool} (a b : Nat) (e : relL (cvK R n n) a b = true) : R a b = true := by
  have := (rel_cvK.1 e).2.2
  unfold okK at this
  exact (Bool.and_eq_true _ _ ▸ this).1
theorem rel_sub {n : Nat} {R : Nat → Nat → Bool} {C : List (Int × Int)} (hs : ∀ p ∈ C, p ∈ cvK R n n) (a b : Nat) (e : relL C a b = true) : R a b = true :=
  cov_sub a b (decide_eq_true (hs _ (of_decide_eq_true e)))
section
variable {n : Nat} {R : Nat → Nat → Bool} {Pf Sf : Nat → Nat} (h : Ord n R Pf Sf)
include h
theorem Ord.cov_between {a b : Nat} (hab : R a b = true) (hno : ¬ ∃ x, R a x = true ∧ R x b = true) : relL (cvK R n n) a b = true := by
  have hin := h.inn a b hab
  refine rel_cvK.2 ⟨hin.1, hin.2, ?_⟩
  unfold okK
  rw [hab, Bool.true_and, List.all_eq_true]
  intro x _
  cases e : (R a x && R x b) with
  | false => rfl
  | true => exact absurd ⟨x, Bool.and_eq_true _ _ ▸ e⟩ hno
theorem Ord.cov_enough : ∀ (d a b : Nat), (List.range n).countP (fun x => R a x && R x b) ≤ d → R a b = true → ordL n (cvK R n n) a b = true := by
  intro d
  induction d with
  | zero =>
    intro a b hc hab
    refine clo_super _ n a b (h.cov_between hab ?_)
    rintro ⟨x, h1, h2⟩
    have : 0 < (List.range n).countP (fun x => R a x && R x b) := List.countP_pos_iff.2 ⟨x, List.mem_range.2 (h.inn a x h1).2, by rw [h1, h2]; rfl⟩
    omega
  | succ d ih =>
    intro a b hc hab
    by_cases hno : ∃ x, R a x = true ∧ R x b = true
    · obtain ⟨x, h1, h2⟩ := hno
      have hx := (h.inn a x h1).2
      have s1 : (List.range n).countP (fun y => R a y && R y x) < (List.range n).countP (fun y => R a y && R y b) := countP_lt (fun y _ hy => by
        rw [Bool.and_eq_true] at hy ⊢
        exact ⟨hy.1, h.tr y x b hy.2 h2⟩) ⟨x, List.mem_range.2 hx, by rw [h1, h2]; rfl, by rw [h.irr x]; simp⟩
      have s2 : (List.range n).countP (fun y => R x y && R y b) < (List.range n).countP (fun y => R a y && R y b) := countP_lt (fun y _ hy => by
        rw [Bool.and_eq_true] at hy ⊢
        exact ⟨h.tr a x y h1 hy.1, hy.2⟩) ⟨x, List.mem_range.2 hx, by rw [h1, h2]; rfl, by rw [h.irr x]; simp⟩
      exact clo_trans _ n x hx a b (ih a x (by omega) h1) (ih x b (by omega) h2)
    · exact clo_super _ n a b (h.cov_between hab hno)
theorem Ord.cov_same (a b : Nat) : ordL n (cvK R n n) a b = R a b := by
  rw [Bool.eq_iff_iff]
  exact ⟨clo_sub cov_sub h.tr n a b, h.cov_enough _ a b (Nat.le_refl _)⟩
theorem Ord.good_sub {C : List (Int × Int)} (hs : ∀ p ∈ C, p ∈ cvK R n n) : goodP n C := by
  refine ⟨by have := h.n64; omega, fun p hp => ?_⟩
  obtain ⟨a, b, rfl, ha, hb, _⟩ := mem_cvK.1 (hs p hp)
  unfold okP
  simp only []
  omega
theorem Ord.ncyc_sub {C : List (Int × Int)} (hs : ∀ p ∈ C, p ∈ cvK R n n) : ¬ cycL n C := by
  rintro ⟨a, _, e⟩
  have := clo_sub (rel_sub hs) h.tr n a a e
  rw [h.irr a] at this
  cases this
theorem Ord.pre_same {Pf' Sf' : Nat → Nat} (h' : Ord n (ordL n (cvK R n n)) Pf' Sf') {a : Nat} (ha : a < n) : Pf' a = Pf a := by
  apply Nat.eq_of_testBit_eq
  intro i
  rw [h'.pre a ha, h.pre a ha, h.cov_same]
/-- With one cover less its pair is lost. -/
theorem Ord.cov_less {k a b : Nat} (hk : (cvK R n n)[k]? = some ((a : Int), (b : Int))) : ordL n ((cvK R n n).take k ++ (cvK R n n).drop (k + 1)) a b = false ∧ (∀ p ∈ (cvK R n n).take k ++ (cvK R n n).drop (k + 1), p ∈ cvK R n n) := by
  have hsub : ∀ p ∈ (cvK R n n).take k ++ (cvK R n n).drop (k + 1), p ∈ cvK R n n := fun p hp => by
    rcases List.mem_append.1 hp with hp | hp
    · exact List.mem_of_mem_take hp
    · exact List.mem_of_mem_drop hp
  refine ⟨?_, hsub⟩
  have hnd := cvK_nodup R n n
  have hne : ((a : Int), (b : Int)) ∉ (cvK R n n).take k ++ (cvK R n n).drop (k + 1) := by
    obtain ⟨hlt, hget⟩ := List.getElem?_eq_some_iff.1 hk
    have hsp : cvK R n n = (cvK R n n).take k ++ ((a : Int), (b : Int)) :: (cvK R n n).drop (k + 1) := by
      rw [← hget, List.getElem_cons_drop, List.take_append_drop]
    rw [hsp] at hnd
    intro hm
    rw [List.nodup_append] at hnd
    obtain ⟨_, h2, h3⟩ := hnd
    rw [List.nodup_cons] at h2
    rcases List.mem_append.1 hm with hm | hm
    · exact h3 _ hm _ (by simp) rfl
    · exact h2.1 hm
  cases e : ordL n ((cvK R n n).take k ++ (cvK R n n).drop (k + 1)) a b with
  | false => rfl
  | true =>
    rcases clo_split (rel_sub hsub) h.tr n a b e with e1 | ⟨x, e1, e2⟩
    · exact absurd (of_decide_eq_true e1) hne
    · have hok := rel_cvK.1 (decide_eq_true (List.mem_of_getElem? hk) : relL (cvK R n n) a b = true)
      have h3 := hok.2.2
      unfold okK at h3
      rw [Bool.and_eq_true, List.all_eq_true] at h3
      have := h3.2 x (List.mem_range.2 (h.inn a x e1).2)
      rw [e1, e2] at this
      cases this
end
end Go.Proofs.YteiedppecijhfaaDoor
