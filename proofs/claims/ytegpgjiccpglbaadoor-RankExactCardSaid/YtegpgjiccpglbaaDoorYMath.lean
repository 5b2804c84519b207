/- Links between sixty-four places: what is reached, how deep it goes: plain facts. -/
import Derived.Test.YtegpgjiccpglbaaDoorMath
namespace Go.Proofs.YtegpgjiccpglbaaDoor
/-- A link. -/
def E (J : Nat → Nat) (a b : Nat) : Prop := a < 64 ∧ (J a).testBit b = true
/-- Words of sixty-four bits. -/
def Wf (J : Nat → Nat) : Prop := ∀ a, a < 64 → J a < 18446744073709551616
/-- A way of n links. -/
inductive Way (J : Nat → Nat) : Nat → Nat → Nat → Prop
  | nil (a : Nat) : Way J 0 a a
  | snoc {n a b c : Nat} : Way J n a b → E J b c → Way J (n + 1) a c
def Rc (J : Nat → Nat) (a b : Nat) : Prop := ∃ n, Way J n a b
/-- No link leads back. -/
def Acy (J : Nat → Nat) : Prop := ∀ a b, E J a b → ¬ Rc J b a
theorem bit_lt {x i : Nat} (hx : x < 18446744073709551616) (h : x.testBit i = true) : i < 64 := by
  apply Decidable.byContradiction
  intro hi
  rw [Nat.testBit_lt_two_pow (Nat.lt_of_lt_of_le (show x < 2 ^ 64 from hx) (Nat.pow_le_pow_right (by decide) (by omega)))] at h
  cases h
theorem E.lt {J : Nat → Nat} (h : Wf J) {a b : Nat} (e : E J a b) : b < 64 := bit_lt (h a e.1) e.2
theorem Rc.refl (J : Nat → Nat) (a : Nat) : Rc J a a := ⟨0, .nil a⟩
theorem Rc.snoc {J : Nat → Nat} {a b c : Nat} (h : Rc J a b) (e : E J b c) : Rc J a c := by
  obtain ⟨n, hn⟩ := h
  exact ⟨n + 1, hn.snoc e⟩
theorem Way.cons {J : Nat → Nat} {n a b c : Nat} (e : E J a b) (h : Way J n b c) : Way J (n + 1) a c := by
  induction h with
  | nil b => exact .snoc (.nil a) e
  | snoc _ e2 ih => exact .snoc (ih e) e2
theorem Way.head {J : Nat → Nat} {m a c : Nat} (h : Way J m a c) : ∀ n, m = n + 1 → ∃ b, E J a b ∧ Way J n b c := by
  induction h with
  | nil => intro n e; cases e
  | @snoc m a b c h e ih =>
    intro n hn
    obtain rfl : m = n := by omega
    cases m with
    | zero => cases h; exact ⟨c, e, .nil c⟩
    | succ k =>
      obtain ⟨d, h1, h2⟩ := ih k rfl
      exact ⟨d, h1, h2.snoc e⟩
theorem Rc.trans {J : Nat → Nat} {a b c : Nat} (h : Rc J a b) (h2 : Rc J b c) : Rc J a c := by
  obtain ⟨n, h2⟩ := h2
  induction h2 with
  | nil => exact h
  | snoc _ e ih => exact (ih h).snoc e
theorem Rc.lt {J : Nat → Nat} (h : Wf J) {a b : Nat} (ha : a < 64) (r : Rc J a b) : b < 64 := by
  obtain ⟨n, hn⟩ := r
  cases hn with
  | nil => exact ha
  | snoc _ e => exact e.lt h
theorem countMore {L : List Nat} {p q : Nat → Bool} (h : ∀ x ∈ L, p x = true → q x = true) {t : Nat} (ht : t ∈ L) (hp : p t = false) (hq : q t = true) : L.countP p + 1 ≤ L.countP q := by
  induction L with
  | nil => cases ht
  | cons a L ih =>
    rw [List.countP_cons, List.countP_cons]
    have hm : L.countP p ≤ L.countP q := List.countP_mono_left fun x hx hpx => h x (List.mem_cons_of_mem _ hx) hpx
    rcases List.mem_cons.1 ht with rfl | ht'
    · rw [hp, hq]; simp; exact hm
    · have := ih (fun x hx => h x (List.mem_cons_of_mem _ hx)) ht'
      have ha := h a List.mem_cons_self
      cases hpa : p a with
      | false => simp; omega
      | true => rw [ha hpa]; simp; omega
open Classical in
/-- No way is longer than there are places. -/
theorem Way.short {J : Nat → Nat} (hw : Wf J) (hy : Acy J) {n a b : Nat} (ha : a < 64) (h : Way J n a b) : n ≤ 63 := by
  have key : n + (List.range 64).countP (fun c => decide (Rc J b c)) ≤ (List.range 64).countP (fun c => decide (Rc J a c)) := by
    clear ha
    induction h with
    | nil => omega
    | @snoc n a b c h e ih =>
      have := countMore (L := List.range 64) (p := fun x => decide (Rc J c x)) (q := fun x => decide (Rc J b x)) (fun x _ hx => by
        rw [decide_eq_true_iff] at hx ⊢
        exact ((Rc.refl J b).snoc e).trans hx) (t := b) (List.mem_range.2 e.1) (by simpa using hy b c e) (by simpa using Rc.refl J b)
      omega
  have h1 : (List.range 64).countP (fun c => decide (Rc J a c)) ≤ 64 := by
    have := List.countP_le_length (p := fun c => decide (Rc J a c)) (l := List.range 64)
    simpa using this
  have hb : b < 64 := Rc.lt hw ha ⟨n, h⟩
  have h2 := countMore (L := List.range 64) (p := fun _ => false) (q := fun c => decide (Rc J b c)) (fun _ _ h => by cases h) (t := b) (List.mem_range.2 hb) rfl (by simpa using Rc.refl J b)
  omega
/-- What one link leads to from some place of a set. -/
def nxt (J : Nat → Nat) (s : Nat) : Nat := (nums s).foldl (fun acc k => acc ||| J k.val) 0
def nxtL (J : Nat → Nat) (l : List (Fin 64)) : Nat := l.foldl (fun acc k => acc ||| J k.val) 0
theorem nxtL_snoc (J : Nat → Nat) (l : List (Fin 64)) (k : Fin 64) : nxtL J (l ++ [k]) = nxtL J l ||| J k.val := by simp [nxtL]
theorem nxtL_lt {J : Nat → Nat} (h : Wf J) : ∀ l, nxtL J l < 18446744073709551616 := by
  intro l
  unfold nxtL
  suffices hh : ∀ acc, acc < 18446744073709551616 → l.foldl (fun acc k => acc ||| J k.val) acc < 18446744073709551616 from hh 0 (by decide)
  induction l with
  | nil => intro acc h; exact h
  | cons a l ih => intro acc h2; exact ih _ (Nat.or_lt_two_pow (n := 64) h2 (h a.val a.isLt))
theorem nxt_lt {J : Nat → Nat} (h : Wf J) (s : Nat) : nxt J s < 18446744073709551616 := nxtL_lt h (nums s)
theorem foldOr_bit (J : Nat → Nat) (b : Nat) : ∀ (l : List (Fin 64)) (acc : Nat), (l.foldl (fun acc k => acc ||| J k.val) acc).testBit b = true ↔ acc.testBit b = true ∨ ∃ k ∈ l, (J k.val).testBit b = true
  | [], acc => by simp
  | k :: l, acc => by
    rw [List.foldl_cons, foldOr_bit J b l, Nat.testBit_or]
    simp [or_assoc]
theorem nxt_bit {J : Nat → Nat} {s b : Nat} : (nxt J s).testBit b = true ↔ ∃ a, s.testBit a = true ∧ E J a b := by
  unfold nxt
  rw [foldOr_bit]
  constructor
  · rintro (h | ⟨k, hk, h⟩)
    · simp at h
    · exact ⟨k.val, (mem_nums s k).1 hk, k.isLt, h⟩
  · rintro ⟨a, h1, h2, h3⟩
    exact .inr ⟨⟨a, h2⟩, (mem_nums s _).2 h1, h3⟩
/-- What is below some place of a set, by rounds. -/
def sprN (J : Nat → Nat) (s : Nat) : Nat → Nat
  | 0 => s
  | k + 1 => sprN J s k ||| nxt J (sprN J s k)
def spr (J : Nat → Nat) (s : Nat) : Nat := sprN J s 64
theorem sprN_lt {J : Nat → Nat} (h : Wf J) {s : Nat} (hs : s < 18446744073709551616) : ∀ k, sprN J s k < 18446744073709551616
  | 0 => hs
  | k + 1 => Nat.or_lt_two_pow (n := 64) (sprN_lt h hs k) (nxt_lt h _)
theorem spr_lt {J : Nat → Nat} (h : Wf J) {s : Nat} (hs : s < 18446744073709551616) : spr J s < 18446744073709551616 := sprN_lt h hs 64
theorem sprN_bit {J : Nat → Nat} {s b : Nat} : ∀ k, (sprN J s k).testBit b = true ↔ ∃ a n, s.testBit a = true ∧ n ≤ k ∧ Way J n a b
  | 0 => by
    show s.testBit b = true ↔ _
    constructor
    · intro h; exact ⟨b, 0, h, Nat.le_refl _, .nil b⟩
    · rintro ⟨a, n, h, hn, hw⟩
      obtain rfl : n = 0 := by omega
      cases hw; exact h
  | k + 1 => by
    show (sprN J s k ||| nxt J (sprN J s k)).testBit b = true ↔ _
    rw [Nat.testBit_or, Bool.or_eq_true, sprN_bit k, nxt_bit]
    constructor
    · rintro (⟨a, n, h, hn, hw⟩ | ⟨c, hc, e⟩)
      · exact ⟨a, n, h, by omega, hw⟩
      · obtain ⟨a, n, h, hn, hw⟩ := (sprN_bit k).1 hc
        exact ⟨a, n + 1, h, by omega, hw.snoc e⟩
    · rintro ⟨a, n, h, hn, hw⟩
      by_cases hk : n ≤ k
      · exact .inl ⟨a, n, h, hk, hw⟩
      · cases hw with
        | nil => exact absurd (Nat.zero_le _) hk
        | @snoc n _ c _ hw e => exact .inr ⟨c, (sprN_bit k).2 ⟨a, n, h, by omega, hw⟩, e⟩
theorem spr_bit {J : Nat → Nat} (hw : Wf J) (hy : Acy J) {s : Nat} (hs : s < 18446744073709551616) {b : Nat} : (spr J s).testBit b = true ↔ ∃ a, s.testBit a = true ∧ Rc J a b := by
  unfold spr
  rw [sprN_bit]
  constructor
  · rintro ⟨a, n, h, _, w⟩; exact ⟨a, h, n, w⟩
  · rintro ⟨a, h, n, w⟩
    exact ⟨a, n, h, Nat.le_trans (w.short hw hy (bit_lt hs h)) (by decide), w⟩
theorem one_bit (a b : Nat) : (2 ^ a).testBit b = true ↔ a = b := by rw [Nat.testBit_two_pow]; simp
theorem pow_lt64 {a : Nat} (ha : a < 64) : 2 ^ a < 18446744073709551616 := Nat.lt_of_lt_of_le (Nat.pow_lt_pow_right (by decide) ha) (by decide)
/-- What is below a place. -/
def bel (J : Nat → Nat) (a : Nat) : Nat := spr J (2 ^ a)
theorem bel_lt {J : Nat → Nat} (h : Wf J) {a : Nat} (ha : a < 64) : bel J a < 18446744073709551616 := spr_lt h (pow_lt64 ha)
theorem bel_bit {J : Nat → Nat} (hw : Wf J) (hy : Acy J) {a : Nat} (ha : a < 64) {b : Nat} : (bel J a).testBit b = true ↔ Rc J a b := by
  unfold bel
  rw [spr_bit hw hy (pow_lt64 ha)]
  constructor
  · rintro ⟨c, h, r⟩; rw [one_bit] at h; subst h; exact r
  · intro r; exact ⟨a, (one_bit a a).2 rfl, r⟩
/-- Spread under way: s what was met, f what is fresh. -/
structure SpI (J : Nat → Nat) (s0 s f : Nat) : Prop where
  sl : s < 18446744073709551616
  fl : f < 18446744073709551616
  st : ∀ b, s0.testBit b = true → s.testBit b = true
  dj : s &&& f = 0
  inn : ∀ b, s.testBit b = true ∨ f.testBit b = true → (spr J s0).testBit b = true
  nx : ∀ b, (nxt J s).testBit b = true → s.testBit b = true ∨ f.testBit b = true
theorem andNot_bit (x b : Nat) (hx : x < 18446744073709551616) (hb : b < 18446744073709551616) (j : Nat) : (x &&& (18446744073709551615 - b)).testBit j = (x.testBit j && !b.testBit j) := by
  by_cases hj : j < 64
  · have e : (18446744073709551615 - b : Nat) = 2 ^ 64 - (b + 1) := by omega
    rw [Nat.testBit_and, e, Nat.testBit_two_pow_sub_succ hb]; simp [hj]
  · have h0 : x.testBit j = false := Nat.testBit_lt_two_pow (Nat.lt_of_lt_of_le (show x < 2 ^ 64 from hx) (Nat.pow_le_pow_right (by decide) (by omega)))
    rw [Nat.testBit_and, h0]; simp
theorem disj_of {x y : Nat} (h : ∀ b, x.testBit b = true → y.testBit b = true → False) : x &&& y = 0 := by
  apply Nat.eq_of_testBit_eq; intro i
  rw [Nat.testBit_and, Nat.zero_testBit]
  cases h1 : x.testBit i with
  | false => rfl
  | true =>
    cases h2 : y.testBit i with
    | false => rfl
    | true => exact (h i h1 h2).elim
theorem disj_bit {x y : Nat} (h : x &&& y = 0) (b : Nat) (h1 : x.testBit b = true) (h2 : y.testBit b = true) : False := by
  have := congrArg (Nat.testBit · b) h
  simp [h1, h2] at this
theorem sprN_self {J : Nat → Nat} {s b : Nat} (h : s.testBit b = true) (k : Nat) : (sprN J s k).testBit b = true := (sprN_bit k).2 ⟨b, 0, h, Nat.zero_le _, .nil b⟩
theorem spr_next {J : Nat → Nat} (hw : Wf J) (hy : Acy J) {s b c : Nat} (hs : s < 18446744073709551616) (h : (spr J s).testBit b = true) (e : E J b c) : (spr J s).testBit c = true := by
  rw [spr_bit hw hy hs] at h ⊢
  obtain ⟨a, h1, h2⟩ := h
  exact ⟨a, h1, h2.snoc e⟩
theorem SpI.start {J : Nat → Nat} (hw : Wf J) (hy : Acy J) {s : Nat} (hs : s < 18446744073709551616) : SpI J s s (nxt J s &&& (18446744073709551615 - s)) where
  sl := hs
  fl := Nat.lt_of_le_of_lt Nat.and_le_left (nxt_lt hw s)
  st := fun _ h => h
  dj := disj_of fun b h1 h2 => by rw [andNot_bit _ _ (nxt_lt hw s) hs, h1] at h2; simp at h2
  inn := fun b h => by
    rcases h with h | h
    · exact sprN_self h 64
    · rw [andNot_bit _ _ (nxt_lt hw s) hs, Bool.and_eq_true] at h
      obtain ⟨a, h1, e⟩ := nxt_bit.1 h.1
      exact spr_next hw hy hs (sprN_self h1 64) e
  nx := fun b h => by
    cases hb : s.testBit b with
    | true => exact .inl rfl
    | false => right; rw [andNot_bit _ _ (nxt_lt hw s) hs, h, hb]; rfl
theorem SpI.step {J : Nat → Nat} (hw : Wf J) (hy : Acy J) {s0 s f : Nat} (h0 : s0 < 18446744073709551616) (h : SpI J s0 s f) : SpI J s0 (s ||| f) (nxt J f &&& (18446744073709551615 - (s ||| f))) := by
  have hl : s ||| f < 18446744073709551616 := Nat.or_lt_two_pow (n := 64) h.sl h.fl
  refine ⟨hl, Nat.lt_of_le_of_lt Nat.and_le_left (nxt_lt hw f), fun b hb => by rw [Nat.testBit_or, h.st b hb]; rfl, disj_of fun b h1 h2 => by rw [andNot_bit _ _ (nxt_lt hw f) hl, h1] at h2; simp at h2, fun b hb => ?_, fun b hb => ?_⟩
  · rcases hb with hb | hb
    · rw [Nat.testBit_or, Bool.or_eq_true] at hb
      exact h.inn b hb
    · rw [andNot_bit _ _ (nxt_lt hw f) hl, Bool.and_eq_true] at hb
      obtain ⟨a, h1, e⟩ := nxt_bit.1 hb.1
      exact spr_next hw hy h0 (h.inn a (.inr h1)) e
  · obtain ⟨a, h1, e⟩ := nxt_bit.1 hb
    rw [Nat.testBit_or, Bool.or_eq_true] at h1
    cases hc : (s ||| f).testBit b with
    | true => exact .inl rfl
    | false =>
      right
      have hs : ¬ (s.testBit b = true ∨ f.testBit b = true) := by rw [Nat.testBit_or] at hc; simpa using hc
      rcases h1 with h1 | h1
      · exact absurd (h.nx b (nxt_bit.2 ⟨a, h1, e⟩)) hs
      · rw [andNot_bit _ _ (nxt_lt hw f) hl, nxt_bit.2 ⟨a, h1, e⟩, hc]; rfl
theorem SpI.done {J : Nat → Nat} (hw : Wf J) (hy : Acy J) {s0 s : Nat} (h0 : s0 < 18446744073709551616) (h : SpI J s0 s 0) : s = spr J s0 := by
  apply Nat.eq_of_testBit_eq; intro b
  rw [Bool.eq_iff_iff]
  constructor
  · intro hb; exact h.inn b (.inl hb)
  · intro hb
    rw [spr_bit hw hy h0] at hb
    obtain ⟨a, h1, n, hn⟩ := hb
    have : ∀ n a b, Way J n a b → s.testBit a = true → s.testBit b = true := by
      intro n a b hn
      induction hn with
      | nil => exact id
      | snoc _ e ih =>
        intro ha
        rcases h.nx _ (nxt_bit.2 ⟨_, ih ha, e⟩) with h | h
        · exact h
        · simp at h
    exact this n a b hn (h.st a h1)
theorem SpI.grow {J : Nat → Nat} {s0 s f : Nat} (h : SpI J s0 s f) (hf : f ≠ 0) : s < s ||| f := by
  have h1 : s ≤ s ||| f := Nat.left_le_or
  rcases Nat.lt_or_ge s (s ||| f) with h2 | h2
  · exact h2
  · have e : s ||| f = s := Nat.le_antisymm h2 h1
    exfalso
    apply hf
    apply Nat.eq_of_testBit_eq; intro i
    rw [Nat.zero_testBit]
    cases hi : f.testBit i with
    | false => rfl
    | true =>
      have h3 : s.testBit i = true := by rw [← e, Nat.testBit_or, hi]; simp
      exact (disj_bit h.dj i h3 hi).elim
/-- A word less its least number. -/
theorem and_pred {x k : Nat} (h1 : x.testBit k = true) (h0 : ∀ j, j < k → x.testBit j = false) (i : Nat) : (x &&& (x - 1)).testBit i = (x.testBit i && decide (i ≠ k)) := by
  have hm : x % 2 ^ (k + 1) = 2 ^ k := by
    apply Nat.eq_of_testBit_eq; intro i
    rw [Nat.testBit_mod_two_pow, Nat.testBit_two_pow]
    by_cases e : k = i
    · subst e; simp [h1]
    · by_cases hlt : i < k + 1
      · rw [h0 i (by omega)]; simp [e]
      · simp [hlt, e]
  have hd := Nat.div_add_mod x (2 ^ (k + 1))
  rw [hm] at hd
  generalize x / 2 ^ (k + 1) = m at hd
  have hp : 0 < 2 ^ k := Nat.two_pow_pos k
  have hm1 : x - 1 = 2 ^ (k + 1) * m + (2 ^ k - 1) := by omega
  have hlt1 : 2 ^ k - 1 < 2 ^ (k + 1) := by rw [Nat.pow_succ]; omega
  have hlt2 : 2 ^ k < 2 ^ (k + 1) := by rw [Nat.pow_succ]; omega
  rw [Nat.testBit_and]
  by_cases hi : i < k
  · rw [h0 i hi]; simp
  · by_cases e : i = k
    · subst e
      have : (x - 1).testBit i = false := by rw [hm1, Nat.testBit_two_pow_mul_add _ hlt1, if_pos (by omega), Nat.testBit_two_pow_sub_one]; simp
      rw [h1, this]; simp
    · have a1 : x.testBit i = m.testBit (i - (k + 1)) := by rw [← hd, Nat.testBit_two_pow_mul_add _ hlt2, if_neg (by omega)]
      have a2 : (x - 1).testBit i = m.testBit (i - (k + 1)) := by rw [hm1, Nat.testBit_two_pow_mul_add _ hlt1, if_neg (by omega)]
      rw [a1, a2]; simp [e]
theorem nums_pred {x : Nat} {j : Fin 64} {l : List (Fin 64)} (h : nums x = j :: l) : nums (x &&& (x - 1)) = l := by
  have hs := sorted_nums x
  have hj : x.testBit j.val = true := (mem_nums x j).1 (by rw [h]; simp)
  have h0 : ∀ i, i < j.val → x.testBit i = false := by
    intro i hi
    have hi64 : i < 64 := by omega
    cases hb : x.testBit i with
    | false => rfl
    | true =>
      have hm : (⟨i, hi64⟩ : Fin 64) ∈ nums x := (mem_nums x _).2 hb
      rw [h] at hm hs
      rcases List.mem_cons.1 hm with e | hm
      · have : i = j.val := congrArg Fin.val e
        omega
      · have : j.val < i := (List.pairwise_cons.1 hs).1 _ hm
        omega
  have e1 : nums (x &&& (x - 1)) = fromI ((j.val : Int) + 1) (nums x) := nums_from fun i => by
    rw [and_pred hj h0]
    by_cases hi : i.val < j.val
    · rw [h0 _ hi]; simp
    · congr 1
      rw [decide_eq_decide]; omega
  rw [e1]
  exact from_snoc (pre := []) hs h
theorem nums_cons {x : Nat} (hx : x < 18446744073709551616) (h : x ≠ 0) : ∃ j l, nums x = j :: l := by
  cases e : nums x with
  | nil => exact absurd (nums_eq_nil hx e) h
  | cons j l => exact ⟨j, l, rfl⟩
/-- A word without a number. -/
def putJ (J : Nat → Nat) (a v : Nat) : Nat → Nat := fun i => if i = a then v else J i
theorem putJ_wf {J : Nat → Nat} (h : Wf J) {a v : Nat} (hv : v < 18446744073709551616) : Wf (putJ J a v) := fun i hi => by
  unfold putJ; split
  · exact hv
  · exact h i hi
theorem Rc.sub {J K : Nat → Nat} (h : ∀ a b, E K a b → E J a b) {a b : Nat} (r : Rc K a b) : Rc J a b := by
  obtain ⟨n, hn⟩ := r
  induction hn with
  | nil => exact .refl _ _
  | snoc _ e ih => exact ih.snoc (h _ _ e)
theorem Acy.sub {J K : Nat → Nat} (hy : Acy J) (h : ∀ a b, E K a b → E J a b) : Acy K := fun a b e r => hy a b (h a b e) (r.sub h)
/-- A link laid. -/
def lay (J : Nat → Nat) (a b : Nat) : Nat → Nat := putJ J a (J a ||| 2 ^ b)
theorem lay_E {J : Nat → Nat} {a b : Nat} (ha : a < 64) {x y : Nat} : E (lay J a b) x y ↔ E J x y ∨ x = a ∧ y = b := by
  unfold E lay putJ
  by_cases h : x = a
  · subst h
    rw [if_pos rfl, Nat.testBit_or, Nat.testBit_two_pow]
    simp [ha]
    constructor
    · rintro (h | h)
      · exact .inl h
      · exact .inr h.symm
    · rintro (h | h)
      · exact .inl h
      · exact .inr h.symm
  · simp [h]
theorem lay_Rc {J : Nat → Nat} {a b : Nat} (ha : a < 64) {x y : Nat} (r : Rc (lay J a b) x y) : Rc J x y ∨ Rc J x a ∧ Rc J b y := by
  obtain ⟨n, hn⟩ := r
  induction hn with
  | nil => exact .inl (.refl _ _)
  | snoc _ e ih =>
    rcases (lay_E ha).1 e with e | ⟨rfl, rfl⟩
    · rcases ih with h | ⟨h1, h2⟩
      · exact .inl (h.snoc e)
      · exact .inr ⟨h1, h2.snoc e⟩
    · rcases ih with h | ⟨h1, h2⟩
      · exact .inr ⟨h, .refl _ _⟩
      · exact .inr ⟨h1, .refl _ _⟩
theorem lay_acy {J : Nat → Nat} (hy : Acy J) {a b : Nat} (ha : a < 64) (h : ¬ Rc J b a) : Acy (lay J a b) := by
  intro x y e r
  rcases (lay_E ha).1 e with e | ⟨rfl, rfl⟩
  · rcases lay_Rc ha r with r | ⟨r1, r2⟩
    · exact hy x y e r
    · exact h (r2.trans (((Rc.refl J x).snoc e).trans r1))
  · rcases lay_Rc ha r with r | ⟨r1, r2⟩
    · exact h r
    · exact h r1
theorem lay_wf {J : Nat → Nat} (hw : Wf J) {a b : Nat} (ha : a < 64) (hb : b < 64) : Wf (lay J a b) := putJ_wf hw (Nat.or_lt_two_pow (n := 64) (hw a ha) (pow_lt64 hb))
/-- A link cut. -/
def cutJ (J : Nat → Nat) (a b : Nat) : Nat → Nat := putJ J a (J a &&& (18446744073709551615 - 2 ^ b))
theorem cut_E {J : Nat → Nat} (hw : Wf J) {a b : Nat} (ha : a < 64) (hb : b < 64) {x y : Nat} : E (cutJ J a b) x y ↔ E J x y ∧ ¬ (x = a ∧ y = b) := by
  unfold E cutJ putJ
  by_cases h : x = a
  · subst h
    rw [if_pos rfl, andNot_bit _ _ (hw x ha) (pow_lt64 hb), Nat.testBit_two_pow]
    simp [ha]
    intro _
    exact ⟨fun h e => h e.symm, fun h e => h e.symm⟩
  · simp [h]
theorem cut_wf {J : Nat → Nat} (hw : Wf J) {a b : Nat} (ha : a < 64) : Wf (cutJ J a b) := putJ_wf hw (Nat.lt_of_le_of_lt Nat.and_le_left (hw a ha))
theorem cut_acy {J : Nat → Nat} (hw : Wf J) (hy : Acy J) {a b : Nat} (ha : a < 64) (hb : b < 64) : Acy (cutJ J a b) := hy.sub fun _ _ e => ((cut_E hw ha hb).1 e).1
/-- All links of a place gone. -/
def drpJ (J : Nat → Nat) (a : Nat) : Nat → Nat := fun i => if i = a then 0 else J i &&& (18446744073709551615 - 2 ^ a)
theorem drp_E {J : Nat → Nat} (hw : Wf J) {a : Nat} (ha : a < 64) {x y : Nat} : E (drpJ J a) x y ↔ E J x y ∧ x ≠ a ∧ y ≠ a := by
  unfold E drpJ
  by_cases h : x = a
  · simp [h]
  · by_cases hx : x < 64
    · rw [if_neg h, andNot_bit _ _ (hw x hx) (pow_lt64 ha), Nat.testBit_two_pow]
      simp [h, hx]
      intro _
      exact ⟨fun h e => h e.symm, fun h e => h e.symm⟩
    · simp [hx]
theorem drp_wf {J : Nat → Nat} (hw : Wf J) (a : Nat) : Wf (drpJ J a) := fun i hi => by
  unfold drpJ; split
  · decide
  · exact Nat.lt_of_le_of_lt Nat.and_le_left (hw i hi)
theorem drp_acy {J : Nat → Nat} (hw : Wf J) (hy : Acy J) {a : Nat} (ha : a < 64) : Acy (drpJ J a) := hy.sub fun _ _ e => ((drp_E hw ha).1 e).1
/-- No links. -/
def noJ : Nat → Nat := fun _ => 0
theorem no_wf : Wf noJ := fun _ _ => by unfold noJ; decide
theorem no_acy : Acy noJ := fun a b e => by unfold E noJ at e; simp at e
end Go.Proofs.YtegpgjiccpglbaaDoor
