/- How many bits of a word are set, as the library reckons it: plain arithmetic; nothing of the program. -/
import Derived.Test.YtlijlelejobchaaGreatDoorRows
namespace Go.Proofs.YtlijlelejobchaaGreatDoor

/-- In how many ways a row goes on by l numbers, where b blocks are there. -/
def ways : Nat → Nat → Nat
  | 0, _ => 1
  | l + 1, b => b * ways l b + ways l (b + 1)
/-- The blocks that are there behind a row. -/
def blks (b : Nat) (l : List Nat) : Nat := l.foldl (fun b x => max b (x + 1)) b
def Leg : Nat → List Nat → Prop
  | _, [] => True
  | b, x :: r => x ≤ b ∧ Leg (max b (x + 1)) r
/-- How many stand ahead. -/
def rk : Nat → List Nat → Nat
  | _, [] => 0
  | b, x :: r => x * ways r.length b + rk (max b (x + 1)) r
/-- The row of a rank. -/
def rowAt : Nat → Nat → Nat → List Nat
  | 0, _, _ => []
  | n + 1, b, r => min (r / ways n b) b :: rowAt n (max b (min (r / ways n b) b + 1)) (r - min (r / ways n b) b * ways n b)
/-- Each number is the greatest that it may be. -/
def Full : Nat → List Nat → Prop
  | _, [] => True
  | b, x :: r => x = b ∧ Full (b + 1) r

theorem ways_pos (l b : Nat) : 0 < ways l b := by
  induction l generalizing b with
  | zero => simp [ways]
  | succ l ih => have := ih (b + 1); rw [ways]; omega
theorem ways_up (l b : Nat) : ways l (b + 1) ≤ ways (l + 1) b := by rw [ways]; omega
theorem ways_le (l b : Nat) : ways l b ≤ ways (l + b) 0 := by
  induction b generalizing l with
  | zero => exact Nat.le_refl _
  | succ b ih => exact Nat.le_trans (ways_up l b) (by have := ih (l + 1); rwa [show l + 1 + b = l + (b + 1) by omega] at this)
theorem ways_more (l b : Nat) : ways l b ≤ ways l (b + 1) := by
  induction l generalizing b with
  | zero => simp [ways]
  | succ l ih =>
    rw [ways, ways]
    have h1 := ih b
    have h2 := ih (b + 1)
    have : b * ways l b ≤ (b + 1) * ways l (b + 1) := Nat.mul_le_mul (by omega) h1
    omega
theorem ways_long (l b : Nat) : ways l b ≤ ways (l + 1) b := Nat.le_trans (ways_more l b) (ways_up l b)
theorem ways_mono {l m : Nat} (h : l ≤ m) (b : Nat) : ways l b ≤ ways m b := by
  induction m with
  | zero =>
    have e : l = 0 := by omega
    subst e; exact Nat.le_refl _
  | succ m ih =>
    rcases Nat.lt_or_ge m l with h1 | h1
    · have e : l = m + 1 := by omega
      subst e; exact Nat.le_refl _
    · exact Nat.le_trans (ih h1) (ways_long m b)
theorem ways_small {l b : Nat} (h : l + b ≤ 25) : ways l b ≤ 4638590332229999353 :=
  Nat.le_trans (ways_le l b) (Nat.le_trans (ways_mono h 0) (by decide +kernel))
theorem mul_ways {x l b : Nat} (h : x ≤ b) : x * ways l b ≤ ways (l + 1) b := by
  have := Nat.mul_le_mul_right (ways l b) h
  rw [ways]; omega

theorem rk_lt {b : Nat} {a : List Nat} (h : Leg b a) : rk b a < ways a.length b := by
  induction a generalizing b with
  | nil => simp [rk, ways]
  | cons x r ih =>
    obtain ⟨h1, h2⟩ := h
    have := ih h2
    rw [rk, List.length_cons, ways]
    rcases Nat.lt_or_ge x b with hx | hx
    · rw [Nat.max_eq_left (by omega)] at this ⊢
      have h3 : (x + 1) * ways r.length b ≤ b * ways r.length b := Nat.mul_le_mul_right _ hx
      rw [Nat.add_mul, Nat.one_mul] at h3
      omega
    · obtain rfl : x = b := by omega
      rw [Nat.max_eq_right (by omega)] at this ⊢
      omega
theorem at_rk {b : Nat} {a : List Nat} (h : Leg b a) : rowAt a.length b (rk b a) = a := by
  induction a generalizing b with
  | nil => rfl
  | cons x r ih =>
    obtain ⟨h1, h2⟩ := h
    have hlt := rk_lt h2
    have hp := ways_pos r.length b
    have e : min (rk b (x :: r) / ways r.length b) b = x := by
      rw [rk]
      rcases Nat.lt_or_ge x b with hx | hx
      · rw [Nat.max_eq_left (by omega)] at hlt ⊢
        rw [Nat.mul_comm, Nat.mul_add_div hp, Nat.div_eq_of_lt hlt]
        omega
      · obtain rfl : x = b := by omega
        rw [Nat.mul_comm, Nat.mul_add_div hp]
        exact Nat.min_eq_right (Nat.le_add_right _ _)
    rw [List.length_cons, rowAt, e]
    congr 1
    rw [rk, Nat.add_sub_cancel_left]
    exact ih h2
theorem rk_full {b : Nat} {a : List Nat} (h : Full b a) : rk b a + 1 = ways a.length b := by
  induction a generalizing b with
  | nil => simp [rk, ways]
  | cons x r ih =>
    obtain ⟨rfl, h2⟩ := h
    have := ih h2
    rw [rk, List.length_cons, ways, Nat.max_eq_right (by omega)]
    omega
theorem rk_zeros (b n : Nat) (h : 1 ≤ b) : rk b (List.replicate n 0) = 0 := by
  induction n with
  | zero => rfl
  | succ n ih => rw [List.replicate_succ, rk, Nat.max_eq_left h, ih]; omega
theorem rk_app (b : Nat) (p t t' : List Nat) (h : t.length = t'.length) : rk b (p ++ t) + rk (blks b p) t' = rk b (p ++ t') + rk (blks b p) t := by
  induction p generalizing b with
  | nil => simp [blks]; omega
  | cons x p ih =>
    have := ih (max b (x + 1))
    rw [List.cons_append, List.cons_append, rk, rk, List.length_append, List.length_append, h]
    rw [show blks b (x :: p) = blks (max b (x + 1)) p from rfl]
    omega
/-- The next row: one more at the last place that can have more, zeros behind it. -/
theorem rk_next {p t : List Nat} {x : Nat} (hx : x < blks 0 p) (ht : Full (blks 0 p) t) : rk 0 (p ++ (x + 1) :: List.replicate t.length 0) = rk 0 (p ++ x :: t) + 1 := by
  have h := rk_app 0 p (x :: t) ((x + 1) :: List.replicate t.length 0) (by simp)
  have h1 := rk_full ht
  have e1 : rk (blks 0 p) (x :: t) = x * ways t.length (blks 0 p) + rk (blks 0 p) t := by rw [rk, Nat.max_eq_left (by omega)]
  have e2 : rk (blks 0 p) ((x + 1) :: List.replicate t.length 0) = (x + 1) * ways t.length (blks 0 p) := by
    rw [rk, List.length_replicate, rk_zeros _ _ (by omega)]; omega
  rw [e1, e2, Nat.add_mul, Nat.one_mul] at h
  omega
theorem blks_app (b : Nat) (p t : List Nat) : blks b (p ++ t) = blks (blks b p) t := by simp [blks]
theorem blks_le (b : Nat) (p : List Nat) : b ≤ blks b p := by
  induction p generalizing b with
  | nil => exact Nat.le_refl _
  | cons x p ih => exact Nat.le_trans (Nat.le_max_left b (x + 1)) (ih _)
theorem Leg.app {b : Nat} {p t : List Nat} : Leg b (p ++ t) ↔ Leg b p ∧ Leg (blks b p) t := by
  induction p generalizing b with
  | nil => simp [Leg, blks]
  | cons x p ih =>
    rw [List.cons_append, Leg, Leg, ih, show blks b (x :: p) = blks (max b (x + 1)) p from rfl]
    exact ⟨fun ⟨a, b, c⟩ => ⟨⟨a, b⟩, c⟩, fun ⟨⟨a, b⟩, c⟩ => ⟨a, b, c⟩⟩
theorem blks_leg {b : Nat} {p : List Nat} (h : Leg b p) : blks b p ≤ b + p.length := by
  induction p generalizing b with
  | nil => exact Nat.le_refl _
  | cons x p ih =>
    have := ih h.2
    have h1 := h.1
    rw [show blks b (x :: p) = blks (max b (x + 1)) p from rfl, List.length_cons]
    omega
/-- Every number is below the blocks that are there behind. -/
theorem lt_blks {b : Nat} {p : List Nat} {x : Nat} (h : x ∈ p) : x < blks b p := by
  induction p generalizing b with
  | nil => cases h
  | cons y p ih =>
    rcases List.mem_cons.1 h with rfl | h
    · exact Nat.lt_of_lt_of_le (by omega) (blks_le (max b (x + 1)) p)
    · exact ih h
theorem Leg.zeros (b n : Nat) : Leg b (List.replicate n 0) := by
  induction n generalizing b with
  | zero => trivial
  | succ n ih => exact ⟨by omega, ih _⟩
theorem Leg.next {p t : List Nat} {x : Nat} (h : Leg 0 (p ++ x :: t)) (hx : x < blks 0 p) (n : Nat) : Leg 0 (p ++ (x + 1) :: List.replicate n 0) :=
  Leg.app.2 ⟨(Leg.app.1 h).1, by omega, Leg.zeros _ _⟩
/-- A row that is full from some place on: what the scan from the end knows. -/
theorem Full.cons {b x : Nat} {t : List Nat} (hx : x = b) (h : Full (b + 1) t) : Full b (x :: t) := ⟨hx, h⟩
/-- b, b + 1 and so on. -/
def ups (b n : Nat) : List Nat := (List.range n).map (b + ·)
theorem full_ups {b : Nat} {t : List Nat} (h : Full b t) : t = ups b t.length := by
  induction t generalizing b with
  | nil => rfl
  | cons x t ih =>
    obtain ⟨rfl, h⟩ := h
    have := ih h
    unfold ups at this ⊢
    rw [List.length_cons, List.range_succ_eq_map, List.map_cons, List.map_map, Nat.add_zero]
    congr 1
    rw [this]
    simp
    intro k _
    omega
end Go.Proofs.YtlijlelejobchaaGreatDoor
namespace Go.Proofs.YtlijlelejobchaaGreatDoor.M

/-- The numbers of a word, rising. -/
def nums (x : Nat) : List (Fin 64) := (List.finRange 64).filter (fun i => x.testBit i.val)
/-- The first of a list; -1: none. -/
def lowI : List (Fin 64) → Int
  | [] => -1
  | j :: _ => j.val
/-- Those not below i. -/
def fromI (i : Int) (l : List (Fin 64)) : List (Fin 64) := l.filter (fun j => decide (i ≤ (j.val : Int)))
/-- Those below i. -/
def toI (i : Int) (l : List (Fin 64)) : List (Fin 64) := l.filter (fun j => decide ((j.val : Int) < i))

theorem mem_nums (x : Nat) (i : Fin 64) : i ∈ nums x ↔ x.testBit i.val = true := by simp [nums]
theorem sorted_fin : (List.finRange 64).Pairwise (· < ·) := by decide +kernel
theorem sorted_nums (x : Nat) : (nums x).Pairwise (· < ·) := sorted_fin.sublist List.filter_sublist
theorem nums_congr {x y : Nat} (h : ∀ i : Fin 64, x.testBit i.val = y.testBit i.val) : nums x = nums y := by
  unfold nums; exact List.filter_congr fun i _ => h i
theorem nums_from {x y : Nat} {i : Int} (h : ∀ j : Fin 64, y.testBit j.val = (x.testBit j.val && decide (i ≤ (j.val : Int)))) : nums y = fromI i (nums x) := by
  unfold nums fromI; rw [List.filter_filter]; exact List.filter_congr fun j _ => by rw [h j, Bool.and_comm]
theorem nums_to {x y : Nat} {i : Int} (h : ∀ j : Fin 64, y.testBit j.val = (x.testBit j.val && decide ((j.val : Int) < i))) : nums y = toI i (nums x) := by
  unfold nums toI; rw [List.filter_filter]; exact List.filter_congr fun j _ => by rw [h j, Bool.and_comm]
theorem nums_zero : nums 0 = [] := by simp [nums]
theorem nums_eq_nil {x : Nat} (hx : x < 2 ^ 64) (h : nums x = []) : x = 0 := by
  apply Nat.eq_of_testBit_eq
  intro i
  by_cases hi : i < 64
  · have : (⟨i, hi⟩ : Fin 64) ∉ nums x := by rw [h]; simp
    rw [mem_nums] at this
    simpa using this
  · rw [Nat.testBit_lt_two_pow (Nat.lt_of_lt_of_le hx (Nat.pow_le_pow_right (by decide) (by omega)))]; simp
theorem nums_inj {x y : Nat} (hx : x < 2 ^ 64) (hy : y < 2 ^ 64) (h : nums x = nums y) : x = y := by
  apply Nat.eq_of_testBit_eq
  intro i
  by_cases hi : i < 64
  · have e : (⟨i, hi⟩ : Fin 64) ∈ nums x ↔ (⟨i, hi⟩ : Fin 64) ∈ nums y := by rw [h]
    rw [mem_nums, mem_nums] at e
    exact Bool.eq_iff_iff.2 e
  · rw [Nat.testBit_lt_two_pow (Nat.lt_of_lt_of_le hx (Nat.pow_le_pow_right (by decide) (by omega))), Nat.testBit_lt_two_pow (Nat.lt_of_lt_of_le hy (Nat.pow_le_pow_right (by decide) (by omega)))]

/-- In a rising list: what is behind j is what is not below j + 1. -/
theorem from_snoc {l pre rest : List (Fin 64)} {j : Fin 64} (hs : l.Pairwise (· < ·)) (h : l = pre ++ j :: rest) : fromI ((j.val : Int) + 1) l = rest := by
  subst h
  unfold fromI
  rw [List.pairwise_append] at hs
  obtain ⟨_, h2, h3⟩ := hs
  rw [List.pairwise_cons] at h2
  rw [List.filter_append, List.filter_cons]
  have e1 : pre.filter (fun k => decide ((j.val : Int) + 1 ≤ (k.val : Int))) = [] := by
    rw [List.filter_eq_nil_iff]; intro k hk
    have := h3 k hk j (by simp)
    have : k.val < j.val := this
    simp; omega
  have e2 : rest.filter (fun k => decide ((j.val : Int) + 1 ≤ (k.val : Int))) = rest := by
    rw [List.filter_eq_self]; intro k hk
    have : j.val < k.val := h2.1 k hk
    simp; omega
  rw [e1, e2, if_neg (by simp; omega)]; rfl
theorem to_snoc {l pre rest : List (Fin 64)} {j : Fin 64} (hs : l.Pairwise (· < ·)) (h : l = pre ++ j :: rest) : toI (j.val : Int) l = pre := by
  subst h
  unfold toI
  rw [List.pairwise_append] at hs
  obtain ⟨_, h2, h3⟩ := hs
  rw [List.pairwise_cons] at h2
  rw [List.filter_append, List.filter_cons]
  have e1 : pre.filter (fun k => decide ((k.val : Int) < (j.val : Int))) = pre := by
    rw [List.filter_eq_self]; intro k hk
    have : k.val < j.val := h3 k hk j (by simp)
    simp; omega
  have e2 : rest.filter (fun k => decide ((k.val : Int) < (j.val : Int))) = [] := by
    rw [List.filter_eq_nil_iff]; intro k hk
    have : j.val < k.val := h2.1 k hk
    simp; omega
  rw [e1, e2, if_neg (by simp)]; simp
theorem from_low (l : List (Fin 64)) {i : Int} (hi : i ≤ 0) : fromI i l = l := by
  unfold fromI; rw [List.filter_eq_self]; intro k _; simp; omega

/-- A word whose least number is k: the word and its negative have just that in common. -/
theorem and_neg {x k : Nat} (hk : k < 64) (h1 : x.testBit k = true) (h0 : ∀ j, j < k → x.testBit j = false) (hx : x < 2 ^ 64) : x &&& (2 ^ 64 - x) = 2 ^ k := by
  have hm : x % 2 ^ (k + 1) = 2 ^ k := by
    apply Nat.eq_of_testBit_eq; intro i
    rw [Nat.testBit_mod_two_pow, Nat.testBit_two_pow]
    by_cases e : k = i
    · subst e; simp [h1]
    · by_cases hlt : i < k + 1
      · rw [h0 i (by omega)]; simp [e]
      · simp [hlt, e]
  have hd := Nat.div_add_mod x (2 ^ (k + 1))
  rw [hm] at hd
  generalize x / 2 ^ (k + 1) = m at hd
  have hp : 0 < 2 ^ k := Nat.two_pow_pos k
  have hx0 : 0 < x := by omega
  have e2 : 2 ^ 64 - x = 2 ^ 64 - ((x - 1) + 1) := by omega
  have hm1 : x - 1 = 2 ^ (k + 1) * m + (2 ^ k - 1) := by omega
  have hlt1 : 2 ^ k - 1 < 2 ^ (k + 1) := by rw [Nat.pow_succ]; omega
  have hlt2 : 2 ^ k < 2 ^ (k + 1) := by rw [Nat.pow_succ]; omega
  apply Nat.eq_of_testBit_eq; intro i
  rw [Nat.testBit_and, e2, Nat.testBit_two_pow_sub_succ (by omega), Nat.testBit_two_pow]
  by_cases hi : i < k
  · rw [h0 i hi]; simp; omega
  · by_cases e : k = i
    · subst e
      have : (x - 1).testBit k = false := by rw [hm1, Nat.testBit_two_pow_mul_add _ hlt1, if_pos (by omega), Nat.testBit_two_pow_sub_one]; simp
      rw [h1, this]; simp [hk]
    · have a1 : x.testBit i = m.testBit (i - (k + 1)) := by rw [← hd, Nat.testBit_two_pow_mul_add _ hlt2, if_neg (by omega)]
      have a2 : (x - 1).testBit i = m.testBit (i - (k + 1)) := by rw [hm1, Nat.testBit_two_pow_mul_add _ hlt1, if_neg (by omega)]
      rw [a1, a2]; simp [e]; intro h _; exact h
theorem and_neg_nums {x : Nat} {j : Fin 64} {l : List (Fin 64)} (hx : x < 2 ^ 64) (h : nums x = j :: l) : x &&& (2 ^ 64 - x) = 2 ^ j.val := by
  have hs := sorted_nums x
  refine and_neg j.isLt ((mem_nums x j).1 (by rw [h]; simp)) ?_ hx
  intro i hi
  have hi64 : i < 64 := by omega
  cases hb : x.testBit i with
  | false => rfl
  | true =>
    have hm : (⟨i, hi64⟩ : Fin 64) ∈ nums x := (mem_nums x _).2 hb
    rw [h] at hm hs
    rcases List.mem_cons.1 hm with e | hm
    · have : i = j.val := congrArg Fin.val e
      omega
    · have : j.val < i := (List.pairwise_cons.1 hs).1 _ hm
      omega
/-- The place that the library's table is asked at. -/
def dbAt (k : Nat) : Nat := 2 ^ k * 285870213051353865 % 18446744073709551616 / 288230376151711744
def dbTab : List Nat := [0, 1, 56, 2, 57, 49, 28, 3, 61, 58, 42, 50, 38, 29, 17, 4, 62, 47, 59, 36, 45, 43, 51, 22, 53, 39, 33, 30, 24, 18, 12, 5, 63, 55, 48, 27, 60, 41, 37, 16, 46, 35, 44, 21, 52, 32, 23, 11, 54, 26, 40, 15, 34, 20, 31, 10, 25, 14, 19, 9, 13, 8, 7, 6]
theorem db_ok : ∀ k : Fin 64, dbAt k.val < 64 ∧ dbTab[dbAt k.val]? = some k.val := by decide +kernel
end Go.Proofs.YtlijlelejobchaaGreatDoor.M
namespace Go.Proofs.YtlijlelejobchaaGreatDoor.M

/-- The set bits among the first n. -/
def cnt : Nat → Nat → Nat
  | 0, _ => 0
  | n + 1, x => x % 2 + cnt n (x / 2)
theorem cnt_range (n x : Nat) : ((List.range n).filter (fun i => x.testBit i)).length = cnt n x := by
  induction n generalizing x with
  | zero => rfl
  | succ n ih =>
    rw [List.range_succ_eq_map, List.filter_cons, List.filter_map, cnt, ← ih (x / 2)]
    have e : (fun i => x.testBit i) ∘ Nat.succ = fun i => (x / 2).testBit i := by
      funext i; simp [Nat.testBit_succ]
    rw [e]
    rcases Nat.mod_two_eq_zero_or_one x with h | h
    · rw [if_neg (by simp [Nat.testBit_zero, h])]; simp [h]
    · rw [if_pos (by simp [Nat.testBit_zero, h])]; simp [h]; omega
theorem len_nums (x : Nat) : (nums x).length = cnt 64 x := by
  rw [← cnt_range, nums]
  have e : List.range 64 = (List.finRange 64).map Fin.val := by decide +kernel
  rw [e, List.filter_map, List.length_map]; rfl
theorem cnt_le (n x : Nat) : cnt n x ≤ n := by
  induction n generalizing x with
  | zero => exact Nat.le_refl _
  | succ n ih => have := ih (x / 2); rw [cnt]; omega
theorem cnt_byte (n x : Nat) : cnt (n + 8) x = cnt 8 (x % 256) + cnt n (x / 256) := by
  have e : x / 2 / 2 / 2 / 2 / 2 / 2 / 2 / 2 = x / 256 := by omega
  simp only [cnt, e]
  omega
theorem and_byte (c x m M : Nat) (hc : c < 256) (hm : m < 256) : (c + 256 * x) &&& (m + 256 * M) = (c &&& m) + 256 * (x &&& M) := by
  have h1 : ((c + 256 * x) &&& (m + 256 * M)) % 2 ^ 8 = (c &&& m) := by
    rw [Nat.and_mod_two_pow]
    congr 1
    · show (c + 256 * x) % 256 = c; omega
    · show (m + 256 * M) % 256 = m; omega
  have h2 : ((c + 256 * x) &&& (m + 256 * M)) / 2 ^ 8 = (x &&& M) := by
    rw [Nat.and_div_two_pow]
    congr 1
    · show (c + 256 * x) / 256 = x; omega
    · show (m + 256 * M) / 256 = M; omega
  have := Nat.div_add_mod ((c + 256 * x) &&& (m + 256 * M)) (2 ^ 8)
  rw [h1, h2] at this
  omega
/-- A mask of n bytes, each m. -/
def mask (m : Nat) : Nat → Nat
  | 0 => 0
  | n + 1 => m + 256 * mask m n
def s1 (n x : Nat) : Nat := (x / 2 &&& mask 85 n) + (x &&& mask 85 n)
def s2 (n x : Nat) : Nat := (x / 4 &&& mask 51 n) + (x &&& mask 51 n)
def s3 (n x : Nat) : Nat := (x / 16 + x) &&& mask 15 n
def pack : Nat → Nat → Nat
  | 0, _ => 0
  | n + 1, x => cnt 8 (x % 256) + 256 * pack n (x / 256)

theorem fin1 : ∀ c : Fin 256, ∀ b : Fin 2, (c.val / 2 + 128 * b.val) &&& 85 = c.val / 2 &&& 85 := by decide +kernel
theorem fin2 : ∀ c : Fin 256, ∀ b : Fin 4, (c.val / 4 + 64 * b.val) &&& 51 = c.val / 4 &&& 51 := by decide +kernel
theorem fin3 : ∀ c : Fin 73, ∀ b : Fin 5, (c.val / 16 + c.val + 16 * b.val) &&& 15 = (c.val / 16 + c.val) &&& 15 := by decide +kernel
theorem finB : ∀ c : Fin 256, (c.val / 2 &&& 85) + (c.val &&& 85) < 256 := by decide +kernel
theorem finC : ∀ c : Fin 256, (((c.val / 2 &&& 85) + (c.val &&& 85)) / 4 &&& 51) + ((c.val / 2 &&& 85) + (c.val &&& 85) &&& 51) < 73 ∧
    ((((c.val / 2 &&& 85) + (c.val &&& 85)) / 4 &&& 51) + ((c.val / 2 &&& 85) + (c.val &&& 85) &&& 51)) % 16 < 5 := by decide +kernel
theorem finD : ∀ c : Fin 256, (let y := (c.val / 2 &&& 85) + (c.val &&& 85); let z := (y / 4 &&& 51) + (y &&& 51); (z / 16 + z) &&& 15) = cnt 8 c.val := by decide +kernel

theorem s1_byte (n c x : Nat) (hc : c < 256) : s1 (n + 1) (c + 256 * x) = ((c / 2 &&& 85) + (c &&& 85)) + 256 * s1 n x := by
  have e : (c + 256 * x) / 2 = (c / 2 + 128 * (x % 2)) + 256 * (x / 2) := by omega
  have f := fin1 ⟨c, hc⟩ ⟨x % 2, by omega⟩
  dsimp only at f
  unfold s1
  rw [e, mask, and_byte _ _ _ _ (by omega) (by omega), and_byte _ _ _ _ hc (by omega), f]
  omega
theorem s2_byte (n c x : Nat) (hc : c < 256) : s2 (n + 1) (c + 256 * x) = ((c / 4 &&& 51) + (c &&& 51)) + 256 * s2 n x := by
  have e : (c + 256 * x) / 4 = (c / 4 + 64 * (x % 4)) + 256 * (x / 4) := by omega
  have f := fin2 ⟨c, hc⟩ ⟨x % 4, by omega⟩
  dsimp only at f
  unfold s2
  rw [e, mask, and_byte _ _ _ _ (by omega) (by omega), and_byte _ _ _ _ hc (by omega), f]
  omega
theorem s3_byte (n c x : Nat) (hc : c < 73) (hx : x % 16 < 5) : s3 (n + 1) (c + 256 * x) = ((c / 16 + c) &&& 15) + 256 * s3 n x := by
  have e : (c + 256 * x) / 16 + (c + 256 * x) = (c / 16 + c + 16 * (x % 16)) + 256 * (x / 16 + x) := by omega
  unfold s3
  rw [e, mask, and_byte _ _ _ _ (by omega) (by omega), fin3 ⟨c, hc⟩ ⟨x % 16, hx⟩]
/-- The three steps over n bytes pack each byte's count into that byte. -/
theorem swar (n x : Nat) : s2 n (s1 n x) % 16 < 5 ∧ s3 n (s2 n (s1 n x)) = pack n x := by
  induction n generalizing x with
  | zero => exact ⟨by simp [s2, s1, mask], by simp [s3, pack, mask]⟩
  | succ n ih =>
    obtain ⟨h1, h2⟩ := ih (x / 256)
    have ex : x = x % 256 + 256 * (x / 256) := by omega
    have hc : x % 256 < 256 := by omega
    have b := finB ⟨x % 256, hc⟩
    obtain ⟨c1, c2⟩ := finC ⟨x % 256, hc⟩
    have d := finD ⟨x % 256, hc⟩
    simp only at b c1 c2 d
    rw [pack]
    conv => lhs; rw [ex]
    conv => rhs; lhs; rw [ex]
    rw [s1_byte _ _ _ hc, s2_byte _ _ _ b, s3_byte _ _ _ c1 h1, h2, d]
    exact ⟨by omega, rfl⟩
theorem cnt64 (x : Nat) : cnt 64 x = cnt 8 (x % 256) + (cnt 8 (x / 256 % 256) + (cnt 8 (x / 256 / 256 % 256) + (cnt 8 (x / 256 / 256 / 256 % 256) + (cnt 8 (x / 256 / 256 / 256 / 256 % 256) + (cnt 8 (x / 256 / 256 / 256 / 256 / 256 % 256) + (cnt 8 (x / 256 / 256 / 256 / 256 / 256 / 256 % 256) + cnt 8 (x / 256 / 256 / 256 / 256 / 256 / 256 / 256 % 256))))))) := by
  have a := cnt_byte 56 x
  have b := cnt_byte 48 (x / 256)
  have c := cnt_byte 40 (x / 256 / 256)
  have d := cnt_byte 32 (x / 256 / 256 / 256)
  have e := cnt_byte 24 (x / 256 / 256 / 256 / 256)
  have f := cnt_byte 16 (x / 256 / 256 / 256 / 256 / 256)
  have g := cnt_byte 8 (x / 256 / 256 / 256 / 256 / 256 / 256)
  have h := cnt_byte 0 (x / 256 / 256 / 256 / 256 / 256 / 256 / 256)
  have z : cnt 0 (x / 256 / 256 / 256 / 256 / 256 / 256 / 256 / 256) = 0 := by unfold cnt; rfl
  simp only [Nat.reduceAdd, Nat.zero_add] at a b c d e f g h
  omega
/-- The last steps add the bytes up. -/
theorem pack8 (x : Nat) : pack 8 x = cnt 8 (x % 256) + 256 * (cnt 8 (x / 256 % 256) + 256 * (cnt 8 (x / 256 / 256 % 256) + 256 * (cnt 8 (x / 256 / 256 / 256 % 256) + 256 * (cnt 8 (x / 256 / 256 / 256 / 256 % 256) + 256 * (cnt 8 (x / 256 / 256 / 256 / 256 / 256 % 256) + 256 * (cnt 8 (x / 256 / 256 / 256 / 256 / 256 / 256 % 256) + 256 * (cnt 8 (x / 256 / 256 / 256 / 256 / 256 / 256 / 256 % 256) + 256 * 0))))))) := by
  simp only [pack]
theorem add1 (y a q : Nat) (h : y = a + 256 * q) (ha : a ≤ 8) : y / 256 = q := by omega
theorem add2 (y q1 q2 q3 a0 a1 a2 : Nat) (h : y = a0 + 256 * q1) (h1 : q1 = a1 + 256 * q2) (h2 : q2 = a2 + 256 * q3) (l0 : a0 ≤ 8) (l1 : a1 ≤ 8) (l2 : a2 ≤ 8) :
    (y + q1) / 65536 = q2 + q3 ∧ y + q1 = (a0 + a1) + 256 * (a1 + a2) + 65536 * (q2 + q3) := by
  have e : y + q1 = (a0 + a1) + 256 * (a1 + a2) + 65536 * (q2 + q3) := by omega
  exact ⟨by rw [e]; omega, e⟩
theorem add3 (z p r t s0 s1 t0 t1 v0 v1 : Nat) (h : z = s0 + 256 * s1 + 65536 * p) (hp : p = t0 + 256 * t1 + 65536 * r) (hr : r = v0 + 256 * v1 + 65536 * t)
    (l0 : s0 ≤ 16) (l1 : s1 ≤ 16) (l2 : t0 ≤ 16) (l3 : t1 ≤ 16) (l4 : v0 ≤ 16) (l5 : v1 ≤ 16) : (z + p) / 4294967296 = r + t ∧ (z + p) % 256 = s0 + t0 := by
  have e : p + r = (t0 + v0) + 256 * (t1 + v1) + 65536 * (r + t) := by omega
  have e2 : z + p = (s0 + t0) + 256 * (s1 + t1) + 65536 * (p + r) := by omega
  generalize r + t = rt at *
  generalize p + r = pr at *
  rw [e2]
  exact ⟨by omega, by omega⟩
theorem addm (p q r a b : Nat) (h1 : p = a + 256 * q) (h2 : q = b + 256 * r) (la : a ≤ 8) (lb : b ≤ 8) : (p + q) % 256 = a + b := by
  have e : p + q = (a + b) + 256 * (q + r) := by omega
  rw [e]; omega
theorem fin4 (u r s a b c d : Nat) (hu : u % 256 = a) (hr : r % 256 = b) (hs : s % 256 = c) (hd : a + b + c = d) (l : d ≤ 64) : (u + (r + s)) % 128 = d := by omega
theorem addup (x y : Nat) (hy : y = pack 8 x) : y ≤ 578721382704613384 ∧ (y + y / 256 + (y + y / 256) / 65536 + (y + y / 256 + (y + y / 256) / 65536) / 4294967296) % 128 = cnt 64 x := by
  rw [pack8] at hy
  rw [cnt64]
  have l0 := cnt_le 8 (x % 256)
  have l1 := cnt_le 8 (x / 256 % 256)
  have l2 := cnt_le 8 (x / 256 / 256 % 256)
  have l3 := cnt_le 8 (x / 256 / 256 / 256 % 256)
  have l4 := cnt_le 8 (x / 256 / 256 / 256 / 256 % 256)
  have l5 := cnt_le 8 (x / 256 / 256 / 256 / 256 / 256 % 256)
  have l6 := cnt_le 8 (x / 256 / 256 / 256 / 256 / 256 / 256 % 256)
  have l7 := cnt_le 8 (x / 256 / 256 / 256 / 256 / 256 / 256 / 256 % 256)
  generalize cnt 8 (x % 256) = a0 at *
  generalize cnt 8 (x / 256 % 256) = a1 at *
  generalize cnt 8 (x / 256 / 256 % 256) = a2 at *
  generalize cnt 8 (x / 256 / 256 / 256 % 256) = a3 at *
  generalize cnt 8 (x / 256 / 256 / 256 / 256 % 256) = a4 at *
  generalize cnt 8 (x / 256 / 256 / 256 / 256 / 256 % 256) = a5 at *
  generalize cnt 8 (x / 256 / 256 / 256 / 256 / 256 / 256 % 256) = a6 at *
  generalize cnt 8 (x / 256 / 256 / 256 / 256 / 256 / 256 / 256 % 256) = a7 at *
  obtain ⟨q7, h7⟩ : ∃ q, q = a7 + 256 * 0 := ⟨_, rfl⟩
  rw [← h7] at hy
  obtain ⟨q6, h6⟩ : ∃ q, q = a6 + 256 * q7 := ⟨_, rfl⟩
  rw [← h6] at hy
  obtain ⟨q5, h5⟩ : ∃ q, q = a5 + 256 * q6 := ⟨_, rfl⟩
  rw [← h5] at hy
  obtain ⟨q4, h4⟩ : ∃ q, q = a4 + 256 * q5 := ⟨_, rfl⟩
  rw [← h4] at hy
  obtain ⟨q3, h3⟩ : ∃ q, q = a3 + 256 * q4 := ⟨_, rfl⟩
  rw [← h3] at hy
  obtain ⟨q2, h2⟩ : ∃ q, q = a2 + 256 * q3 := ⟨_, rfl⟩
  rw [← h2] at hy
  obtain ⟨q1, h1⟩ : ∃ q, q = a1 + 256 * q2 := ⟨_, rfl⟩
  rw [← h1] at hy
  have b7 : q7 ≤ 8 := by omega
  have b6 : q6 ≤ 2056 := by omega
  have b5 : q5 ≤ 526344 := by omega
  have b4 : q4 ≤ 134744072 := by omega
  have b3 : q3 ≤ 34494482440 := by omega
  have b2 : q2 ≤ 8830587504648 := by omega
  have b1 : q1 ≤ 2260630401189896 := by omega
  have e1 := add1 y a0 q1 hy l0
  obtain ⟨e2, f2⟩ := add2 y q1 q2 q3 a0 a1 a2 hy h1 h2 l0 l1 l2
  obtain ⟨_, f3⟩ := add2 q2 q3 q4 q5 a2 a3 a4 h2 h3 h4 l2 l3 l4
  obtain ⟨_, f4⟩ := add2 q4 q5 q6 q7 a4 a5 a6 h4 h5 h6 l4 l5 l6
  obtain ⟨g1, g2⟩ := add3 (y + q1) (q2 + q3) (q4 + q5) (q6 + q7) _ _ _ _ _ _ f2 f3 f4 (by omega) (by omega) (by omega) (by omega) (by omega) (by omega)
  have hle : y ≤ 578721382704613384 := by clear h1 h2 h3 h4 h5 h6 h7 e1 e2 f2 f3 f4 g1 g2; omega
  refine ⟨hle, ?_⟩
  rw [e1, e2, g1]
  generalize y + q1 + (q2 + q3) = u at *
  have k1 := addm q4 q5 q6 a4 a5 h4 h5 l4 l5
  have k2 := addm q6 q7 0 a6 a7 h6 h7 l6 l7
  exact fin4 _ _ _ _ _ _ _ g2 k1 k2 (by simp only [Nat.add_assoc]) (by clear hy h1 h2 h3 h4 h5 h6 h7 e1 e2 f2 f3 f4 g1 g2 k1 k2 b1 b2 b3 b4 b5 b6 b7 hle; omega)
end Go.Proofs.YtlijlelejobchaaGreatDoor.M
