/- In how many ways rows have places of their own: place by place, and row by row (plain). -/
import Derived.Test.YtmoiedlchcceaaaDoorJ00
import Derived.Test.YtmoiedlchcceaaaDoorRows
namespace Go.Proofs.YtmoiedlchcceaaaDoor

/-- The numbers of a word, rising. -/
def nums (x : Nat) : List (Fin 64) := (List.finRange 64).filter (fun i => x.testBit i.val)
/-- The first of a list; -1: none. -/
def lowI : List (Fin 64) → Int
  | [] => -1
  | j :: _ => j.val
/-- Those not below i. -/
def fromI (i : Int) (l : List (Fin 64)) : List (Fin 64) := l.filter (fun j => decide (i ≤ (j.val : Int)))
/-- Those below i. -/
def toI (i : Int) (l : List (Fin 64)) : List (Fin 64) := l.filter (fun j => decide ((j.val : Int) < i))

theorem mem_nums (x : Nat) (i : Fin 64) : i ∈ nums x ↔ x.testBit i.val = true := by simp [nums]
theorem sorted_fin : (List.finRange 64).Pairwise (· < ·) := by decide +kernel
theorem sorted_nums (x : Nat) : (nums x).Pairwise (· < ·) := sorted_fin.sublist List.filter_sublist
theorem nums_congr {x y : Nat} (h : ∀ i : Fin 64, x.testBit i.val = y.testBit i.val) : nums x = nums y := by
  unfold nums; exact List.filter_congr fun i _ => h i
theorem nums_from {x y : Nat} {i : Int} (h : ∀ j : Fin 64, y.testBit j.val = (x.testBit j.val && decide (i ≤ (j.val : Int)))) : nums y = fromI i (nums x) := by
  unfold nums fromI; rw [List.filter_filter]; exact List.filter_congr fun j _ => by rw [h j, Bool.and_comm]
theorem nums_to {x y : Nat} {i : Int} (h : ∀ j : Fin 64, y.testBit j.val = (x.testBit j.val && decide ((j.val : Int) < i))) : nums y = toI i (nums x) := by
  unfold nums toI; rw [List.filter_filter]; exact List.filter_congr fun j _ => by rw [h j, Bool.and_comm]
theorem nums_zero : nums 0 = [] := by simp [nums]
theorem nums_eq_nil {x : Nat} (hx : x < 2 ^ 64) (h : nums x = []) : x = 0 := by
  apply Nat.eq_of_testBit_eq
  intro i
  by_cases hi : i < 64
  · have : (⟨i, hi⟩ : Fin 64) ∉ nums x := by rw [h]; simp
    rw [mem_nums] at this
    simpa using this
  · rw [Nat.testBit_lt_two_pow (Nat.lt_of_lt_of_le hx (Nat.pow_le_pow_right (by decide) (by omega)))]; simp
theorem nums_inj {x y : Nat} (hx : x < 2 ^ 64) (hy : y < 2 ^ 64) (h : nums x = nums y) : x = y := by
  apply Nat.eq_of_testBit_eq
  intro i
  by_cases hi : i < 64
  · have e : (⟨i, hi⟩ : Fin 64) ∈ nums x ↔ (⟨i, hi⟩ : Fin 64) ∈ nums y := by rw [h]
    rw [mem_nums, mem_nums] at e
    exact Bool.eq_iff_iff.2 e
  · rw [Nat.testBit_lt_two_pow (Nat.lt_of_lt_of_le hx (Nat.pow_le_pow_right (by decide) (by omega))), Nat.testBit_lt_two_pow (Nat.lt_of_lt_of_le hy (Nat.pow_le_pow_right (by decide) (by omega)))]

/-- In a rising list: what is behind j is what is not below j + 1. -/
theorem from_snoc {l pre rest : List (Fin 64)} {j : Fin 64} (hs : l.Pairwise (· < ·)) (h : l = pre ++ j :: rest) : fromI ((j.val : Int) + 1) l = rest := by
  subst h
  unfold fromI
  rw [List.pairwise_append] at hs
  obtain ⟨_, h2, h3⟩ := hs
  rw [List.pairwise_cons] at h2
  rw [List.filter_append, List.filter_cons]
  have e1 : pre.filter (fun k => decide ((j.val : Int) + 1 ≤ (k.val : Int))) = [] := by
    rw [List.filter_eq_nil_iff]; intro k hk
    have := h3 k hk j (by simp)
    have : k.val < j.val := this
    simp; omega
  have e2 : rest.filter (fun k => decide ((j.val : Int) + 1 ≤ (k.val : Int))) = rest := by
    rw [List.filter_eq_self]; intro k hk
    have : j.val < k.val := h2.1 k hk
    simp; omega
  rw [e1, e2, if_neg (by simp; omega)]; rfl
theorem to_snoc {l pre rest : List (Fin 64)} {j : Fin 64} (hs : l.Pairwise (· < ·)) (h : l = pre ++ j :: rest) : toI (j.val : Int) l = pre := by
  subst h
  unfold toI
  rw [List.pairwise_append] at hs
  obtain ⟨_, h2, h3⟩ := hs
  rw [List.pairwise_cons] at h2
  rw [List.filter_append, List.filter_cons]
  have e1 : pre.filter (fun k => decide ((k.val : Int) < (j.val : Int))) = pre := by
    rw [List.filter_eq_self]; intro k hk
    have : k.val < j.val := h3 k hk j (by simp)
    simp; omega
  have e2 : rest.filter (fun k => decide ((k.val : Int) < (j.val : Int))) = [] := by
    rw [List.filter_eq_nil_iff]; intro k hk
    have : j.val < k.val := h2.1 k hk
    simp; omega
  rw [e1, e2, if_neg (by simp)]; simp
theorem from_low (l : List (Fin 64)) {i : Int} (hi : i ≤ 0) : fromI i l = l := by
  unfold fromI; rw [List.filter_eq_self]; intro k _; simp; omega

/-- A word whose least number is k: the word and its negative have just that in common. -/
theorem and_neg {x k : Nat} (hk : k < 64) (h1 : x.testBit k = true) (h0 : ∀ j, j < k → x.testBit j = false) (hx : x < 2 ^ 64) : x &&& (2 ^ 64 - x) = 2 ^ k := by
  have hm : x % 2 ^ (k + 1) = 2 ^ k := by
    apply Nat.eq_of_testBit_eq; intro i
    rw [Nat.testBit_mod_two_pow, Nat.testBit_two_pow]
    by_cases e : k = i
    · subst e; simp [h1]
    · by_cases hlt : i < k + 1
      · rw [h0 i (by omega)]; simp [e]
      · simp [hlt, e]
  have hd := Nat.div_add_mod x (2 ^ (k + 1))
  rw [hm] at hd
  generalize x / 2 ^ (k + 1) = m at hd
  have hp : 0 < 2 ^ k := Nat.two_pow_pos k
  have hx0 : 0 < x := by omega
  have e2 : 2 ^ 64 - x = 2 ^ 64 - ((x - 1) + 1) := by omega
  have hm1 : x - 1 = 2 ^ (k + 1) * m + (2 ^ k - 1) := by omega
  have hlt1 : 2 ^ k - 1 < 2 ^ (k + 1) := by rw [Nat.pow_succ]; omega
  have hlt2 : 2 ^ k < 2 ^ (k + 1) := by rw [Nat.pow_succ]; omega
  apply Nat.eq_of_testBit_eq; intro i
  rw [Nat.testBit_and, e2, Nat.testBit_two_pow_sub_succ (by omega), Nat.testBit_two_pow]
  by_cases hi : i < k
  · rw [h0 i hi]; simp; omega
  · by_cases e : k = i
    · subst e
      have : (x - 1).testBit k = false := by rw [hm1, Nat.testBit_two_pow_mul_add _ hlt1, if_pos (by omega), Nat.testBit_two_pow_sub_one]; simp
      rw [h1, this]; simp [hk]
    · have a1 : x.testBit i = m.testBit (i - (k + 1)) := by rw [← hd, Nat.testBit_two_pow_mul_add _ hlt2, if_neg (by omega)]
      have a2 : (x - 1).testBit i = m.testBit (i - (k + 1)) := by rw [hm1, Nat.testBit_two_pow_mul_add _ hlt1, if_neg (by omega)]
      rw [a1, a2]; simp [e]; intro h _; exact h
theorem and_neg_nums {x : Nat} {j : Fin 64} {l : List (Fin 64)} (hx : x < 2 ^ 64) (h : nums x = j :: l) : x &&& (2 ^ 64 - x) = 2 ^ j.val := by
  have hs := sorted_nums x
  refine and_neg j.isLt ((mem_nums x j).1 (by rw [h]; simp)) ?_ hx
  intro i hi
  have hi64 : i < 64 := by omega
  cases hb : x.testBit i with
  | false => rfl
  | true =>
    have hm : (⟨i, hi64⟩ : Fin 64) ∈ nums x := (mem_nums x _).2 hb
    rw [h] at hm hs
    rcases List.mem_cons.1 hm with e | hm
    · have : i = j.val := congrArg Fin.val e
      omega
    · have : j.val < i := (List.pairwise_cons.1 hs).1 _ hm
      omega
/-- The place that the library's table is asked at. -/
def dbAt (k : Nat) : Nat := 2 ^ k * 285870213051353865 % 18446744073709551616 / 288230376151711744
def dbTab : List Nat := [0, 1, 56, 2, 57, 49, 28, 3, 61, 58, 42, 50, 38, 29, 17, 4, 62, 47, 59, 36, 45, 43, 51, 22, 53, 39, 33, 30, 24, 18, 12, 5, 63, 55, 48, 27, 60, 41, 37, 16, 46, 35, 44, 21, 52, 32, 23, 11, 54, 26, 40, 15, 34, 20, 31, 10, 25, 14, 19, 9, 13, 8, 7, 6]
theorem db_ok : ∀ k : Fin 64, dbAt k.val < 64 ∧ dbTab[dbAt k.val]? = some k.val := by decide +kernel
end Go.Proofs.YtmoiedlchcceaaaDoor
namespace Go.Proofs.YtmoiedlchcceaaaDoor

/-- The set bits among the first n. -/
def cnt : Nat → Nat → Nat
  | 0, _ => 0
  | n + 1, x => x % 2 + cnt n (x / 2)
theorem cnt_range (n x : Nat) : ((List.range n).filter (fun i => x.testBit i)).length = cnt n x := by
  induction n generalizing x with
  | zero => rfl
  | succ n ih =>
    rw [List.range_succ_eq_map, List.filter_cons, List.filter_map, cnt, ← ih (x / 2)]
    have e : (fun i => x.testBit i) ∘ Nat.succ = fun i => (x / 2).testBit i := by
      funext i; simp [Nat.testBit_succ]
    rw [e]
    rcases Nat.mod_two_eq_zero_or_one x with h | h
    · rw [if_neg (by simp [Nat.testBit_zero, h])]; simp [h]
    · rw [if_pos (by simp [Nat.testBit_zero, h])]; simp [h]; omega
theorem len_nums (x : Nat) : (nums x).length = cnt 64 x := by
  rw [← cnt_range, nums]
  have e : List.range 64 = (List.finRange 64).map Fin.val := by decide +kernel
  rw [e, List.filter_map, List.length_map]; rfl
theorem cnt_le (n x : Nat) : cnt n x ≤ n := by
  induction n generalizing x with
  | zero => exact Nat.le_refl _
  | succ n ih => have := ih (x / 2); rw [cnt]; omega
theorem cnt_byte (n x : Nat) : cnt (n + 8) x = cnt 8 (x % 256) + cnt n (x / 256) := by
  have e : x / 2 / 2 / 2 / 2 / 2 / 2 / 2 / 2 = x / 256 := by omega
  simp only [cnt, e]
  omega
theorem and_byte (c x m M : Nat) (hc : c < 256) (hm : m < 256) : (c + 256 * x) &&& (m + 256 * M) = (c &&& m) + 256 * (x &&& M) := by
  have h1 : ((c + 256 * x) &&& (m + 256 * M)) % 2 ^ 8 = (c &&& m) := by
    rw [Nat.and_mod_two_pow]
    congr 1
    · show (c + 256 * x) % 256 = c; omega
    · show (m + 256 * M) % 256 = m; omega
  have h2 : ((c + 256 * x) &&& (m + 256 * M)) / 2 ^ 8 = (x &&& M) := by
    rw [Nat.and_div_two_pow]
    congr 1
    · show (c + 256 * x) / 256 = x; omega
    · show (m + 256 * M) / 256 = M; omega
  have := Nat.div_add_mod ((c + 256 * x) &&& (m + 256 * M)) (2 ^ 8)
  rw [h1, h2] at this
  omega
/-- A mask of n bytes, each m. -/
def mask (m : Nat) : Nat → Nat
  | 0 => 0
  | n + 1 => m + 256 * mask m n
def s1 (n x : Nat) : Nat := (x / 2 &&& mask 85 n) + (x &&& mask 85 n)
def s2 (n x : Nat) : Nat := (x / 4 &&& mask 51 n) + (x &&& mask 51 n)
def s3 (n x : Nat) : Nat := (x / 16 + x) &&& mask 15 n
def pack : Nat → Nat → Nat
  | 0, _ => 0
  | n + 1, x => cnt 8 (x % 256) + 256 * pack n (x / 256)

theorem fin1 : ∀ c : Fin 256, ∀ b : Fin 2, (c.val / 2 + 128 * b.val) &&& 85 = c.val / 2 &&& 85 := by decide +kernel
theorem fin2 : ∀ c : Fin 256, ∀ b : Fin 4, (c.val / 4 + 64 * b.val) &&& 51 = c.val / 4 &&& 51 := by decide +kernel
theorem fin3 : ∀ c : Fin 73, ∀ b : Fin 5, (c.val / 16 + c.val + 16 * b.val) &&& 15 = (c.val / 16 + c.val) &&& 15 := by decide +kernel
theorem finB : ∀ c : Fin 256, (c.val / 2 &&& 85) + (c.val &&& 85) < 256 := by decide +kernel
theorem finC : ∀ c : Fin 256, (((c.val / 2 &&& 85) + (c.val &&& 85)) / 4 &&& 51) + ((c.val / 2 &&& 85) + (c.val &&& 85) &&& 51) < 73 ∧
    ((((c.val / 2 &&& 85) + (c.val &&& 85)) / 4 &&& 51) + ((c.val / 2 &&& 85) + (c.val &&& 85) &&& 51)) % 16 < 5 := by decide +kernel
theorem finD : ∀ c : Fin 256, (let y := (c.val / 2 &&& 85) + (c.val &&& 85); let z := (y / 4 &&& 51) + (y &&& 51); (z / 16 + z) &&& 15) = cnt 8 c.val := by decide +kernel

theorem s1_byte (n c x : Nat) (hc : c < 256) : s1 (n + 1) (c + 256 * x) = ((c / 2 &&& 85) + (c &&& 85)) + 256 * s1 n x := by
  have e : (c + 256 * x) / 2 = (c / 2 + 128 * (x % 2)) + 256 * (x / 2) := by omega
  have f := fin1 ⟨c, hc⟩ ⟨x % 2, by omega⟩
  dsimp only at f
  unfold s1
  rw [e, mask, and_byte _ _ _ _ (by omega) (by omega), and_byte _ _ _ _ hc (by omega), f]
  omega
theorem s2_byte (n c x : Nat) (hc : c < 256) : s2 (n + 1) (c + 256 * x) = ((c / 4 &&& 51) + (c &&& 51)) + 256 * s2 n x := by
  have e : (c + 256 * x) / 4 = (c / 4 + 64 * (x % 4)) + 256 * (x / 4) := by omega
  have f := fin2 ⟨c, hc⟩ ⟨x % 4, by omega⟩
  dsimp only at f
  unfold s2
  rw [e, mask, and_byte _ _ _ _ (by omega) (by omega), and_byte _ _ _ _ hc (by omega), f]
  omega
theorem s3_byte (n c x : Nat) (hc : c < 73) (hx : x % 16 < 5) : s3 (n + 1) (c + 256 * x) = ((c / 16 + c) &&& 15) + 256 * s3 n x := by
  have e : (c + 256 * x) / 16 + (c + 256 * x) = (c / 16 + c + 16 * (x % 16)) + 256 * (x / 16 + x) := by omega
  unfold s3
  rw [e, mask, and_byte _ _ _ _ (by omega) (by omega), fin3 ⟨c, hc⟩ ⟨x % 16, hx⟩]
/-- The three steps over n bytes pack each byte's count into that byte. -/
theorem swar (n x : Nat) : s2 n (s1 n x) % 16 < 5 ∧ s3 n (s2 n (s1 n x)) = pack n x := by
  induction n generalizing x with
  | zero => exact ⟨by simp [s2, s1, mask], by simp [s3, pack, mask]⟩
  | succ n ih =>
    obtain ⟨h1, h2⟩ := ih (x / 256)
    have ex : x = x % 256 + 256 * (x / 256) := by omega
    have hc : x % 256 < 256 := by omega
    have b := finB ⟨x % 256, hc⟩
    obtain ⟨c1, c2⟩ := finC ⟨x % 256, hc⟩
    have d := finD ⟨x % 256, hc⟩
    simp only at b c1 c2 d
    rw [pack]
    conv => lhs; rw [ex]
    conv => rhs; lhs; rw [ex]
    rw [s1_byte _ _ _ hc, s2_byte _ _ _ b, s3_byte _ _ _ c1 h1, h2, d]
    exact ⟨by omega, rfl⟩
theorem cnt64 (x : Nat) : cnt 64 x = cnt 8 (x % 256) + (cnt 8 (x / 256 % 256) + (cnt 8 (x / 256 / 256 % 256) + (cnt 8 (x / 256 / 256 / 256 % 256) + (cnt 8 (x / 256 / 256 / 256 / 256 % 256) + (cnt 8 (x / 256 / 256 / 256 / 256 / 256 % 256) + (cnt 8 (x / 256 / 256 / 256 / 256 / 256 / 256 % 256) + cnt 8 (x / 256 / 256 / 256 / 256 / 256 / 256 / 256 % 256))))))) := by
  have a := cnt_byte 56 x
  have b := cnt_byte 48 (x / 256)
  have c := cnt_byte 40 (x / 256 / 256)
  have d := cnt_byte 32 (x / 256 / 256 / 256)
  have e := cnt_byte 24 (x / 256 / 256 / 256 / 256)
  have f := cnt_byte 16 (x / 256 / 256 / 256 / 256 / 256)
  have g := cnt_byte 8 (x / 256 / 256 / 256 / 256 / 256 / 256)
  have h := cnt_byte 0 (x / 256 / 256 / 256 / 256 / 256 / 256 / 256)
  have z : cnt 0 (x / 256 / 256 / 256 / 256 / 256 / 256 / 256 / 256) = 0 := by unfold cnt; rfl
  simp only [Nat.reduceAdd, Nat.zero_add] at a b c d e f g h
  omega
/-- The last steps add the bytes up. -/
theorem pack8 (x : Nat) : pack 8 x = cnt 8 (x % 256) + 256 * (cnt 8 (x / 256 % 256) + 256 * (cnt 8 (x / 256 / 256 % 256) + 256 * (cnt 8 (x / 256 / 256 / 256 % 256) + 256 * (cnt 8 (x / 256 / 256 / 256 / 256 % 256) + 256 * (cnt 8 (x / 256 / 256 / 256 / 256 / 256 % 256) + 256 * (cnt 8 (x / 256 / 256 / 256 / 256 / 256 / 256 % 256) + 256 * (cnt 8 (x / 256 / 256 / 256 / 256 / 256 / 256 / 256 % 256) + 256 * 0))))))) := by
  simp only [pack]
theorem add1 (y a q : Nat) (h : y = a + 256 * q) (ha : a ≤ 8) : y / 256 = q := by omega
theorem add2 (y q1 q2 q3 a0 a1 a2 : Nat) (h : y = a0 + 256 * q1) (h1 : q1 = a1 + 256 * q2) (h2 : q2 = a2 + 256 * q3) (l0 : a0 ≤ 8) (l1 : a1 ≤ 8) (l2 : a2 ≤ 8) :
    (y + q1) / 65536 = q2 + q3 ∧ y + q1 = (a0 + a1) + 256 * (a1 + a2) + 65536 * (q2 + q3) := by
  have e : y + q1 = (a0 + a1) + 256 * (a1 + a2) + 65536 * (q2 + q3) := by omega
  exact ⟨by rw [e]; omega, e⟩
theorem add3 (z p r t s0 s1 t0 t1 v0 v1 : Nat) (h : z = s0 + 256 * s1 + 65536 * p) (hp : p = t0 + 256 * t1 + 65536 * r) (hr : r = v0 + 256 * v1 + 65536 * t)
    (l0 : s0 ≤ 16) (l1 : s1 ≤ 16) (l2 : t0 ≤ 16) (l3 : t1 ≤ 16) (l4 : v0 ≤ 16) (l5 : v1 ≤ 16) : (z + p) / 4294967296 = r + t ∧ (z + p) % 256 = s0 + t0 := by
  have e : p + r = (t0 + v0) + 256 * (t1 + v1) + 65536 * (r + t) := by omega
  have e2 : z + p = (s0 + t0) + 256 * (s1 + t1) + 65536 * (p + r) := by omega
  generalize r + t = rt at *
  generalize p + r = pr at *
  rw [e2]
  exact ⟨by omega, by omega⟩
theorem addm (p q r a b : Nat) (h1 : p = a + 256 * q) (h2 : q = b + 256 * r) (la : a ≤ 8) (lb : b ≤ 8) : (p + q) % 256 = a + b := by
  have e : p + q = (a + b) + 256 * (q + r) := by omega
  rw [e]; omega
theorem fin4 (u r s a b c d : Nat) (hu : u % 256 = a) (hr : r % 256 = b) (hs : s % 256 = c) (hd : a + b + c = d) (l : d ≤ 64) : (u + (r + s)) % 128 = d := by omega
theorem addup (x y : Nat) (hy : y = pack 8 x) : y ≤ 578721382704613384 ∧ (y + y / 256 + (y + y / 256) / 65536 + (y + y / 256 + (y + y / 256) / 65536) / 4294967296) % 128 = cnt 64 x := by
  rw [pack8] at hy
  rw [cnt64]
  have l0 := cnt_le 8 (x % 256)
  have l1 := cnt_le 8 (x / 256 % 256)
  have l2 := cnt_le 8 (x / 256 / 256 % 256)
  have l3 := cnt_le 8 (x / 256 / 256 / 256 % 256)
  have l4 := cnt_le 8 (x / 256 / 256 / 256 / 256 % 256)
  have l5 := cnt_le 8 (x / 256 / 256 / 256 / 256 / 256 % 256)
  have l6 := cnt_le 8 (x / 256 / 256 / 256 / 256 / 256 / 256 % 256)
  have l7 := cnt_le 8 (x / 256 / 256 / 256 / 256 / 256 / 256 / 256 % 256)
  generalize cnt 8 (x % 256) = a0 at *
  generalize cnt 8 (x / 256 % 256) = a1 at *
  generalize cnt 8 (x / 256 / 256 % 256) = a2 at *
  generalize cnt 8 (x / 256 / 256 / 256 % 256) = a3 at *
  generalize cnt 8 (x / 256 / 256 / 256 / 256 % 256) = a4 at *
  generalize cnt 8 (x / 256 / 256 / 256 / 256 / 256 % 256) = a5 at *
  generalize cnt 8 (x / 256 / 256 / 256 / 256 / 256 / 256 % 256) = a6 at *
  generalize cnt 8 (x / 256 / 256 / 256 / 256 / 256 / 256 / 256 % 256) = a7 at *
  obtain ⟨q7, h7⟩ : ∃ q, q = a7 + 256 * 0 := ⟨_, rfl⟩
  rw [← h7] at hy
  obtain ⟨q6, h6⟩ : ∃ q, q = a6 + 256 * q7 := ⟨_, rfl⟩
  rw [← h6] at hy
  obtain ⟨q5, h5⟩ : ∃ q, q = a5 + 256 * q6 := ⟨_, rfl⟩
  rw [← h5] at hy
  obtain ⟨q4, h4⟩ : ∃ q, q = a4 + 256 * q5 := ⟨_, rfl⟩
  rw [← h4] at hy
  obtain ⟨q3, h3⟩ : ∃ q, q = a3 + 256 * q4 := ⟨_, rfl⟩
  rw [← h3] at hy
  obtain ⟨q2, h2⟩ : ∃ q, q = a2 + 256 * q3 := ⟨_, rfl⟩
  rw [← h2] at hy
  obtain ⟨q1, h1⟩ : ∃ q, q = a1 + 256 * q2 := ⟨_, rfl⟩
  rw [← h1] at hy
  have b7 : q7 ≤ 8 := by omega
  have b6 : q6 ≤ 2056 := by omega
  have b5 : q5 ≤ 526344 := by omega
  have b4 : q4 ≤ 134744072 := by omega
  have b3 : q3 ≤ 34494482440 := by omega
  have b2 : q2 ≤ 8830587504648 := by omega
  have b1 : q1 ≤ 2260630401189896 := by omega
  have e1 := add1 y a0 q1 hy l0
  obtain ⟨e2, f2⟩ := add2 y q1 q2 q3 a0 a1 a2 hy h1 h2 l0 l1 l2
  obtain ⟨_, f3⟩ := add2 q2 q3 q4 q5 a2 a3 a4 h2 h3 h4 l2 l3 l4
  obtain ⟨_, f4⟩ := add2 q4 q5 q6 q7 a4 a5 a6 h4 h5 h6 l4 l5 l6
  obtain ⟨g1, g2⟩ := add3 (y + q1) (q2 + q3) (q4 + q5) (q6 + q7) _ _ _ _ _ _ f2 f3 f4 (by omega) (by omega) (by omega) (by omega) (by omega) (by omega)
  have hle : y ≤ 578721382704613384 := by clear h1 h2 h3 h4 h5 h6 h7 e1 e2 f2 f3 f4 g1 g2; omega
  refine ⟨hle, ?_⟩
  rw [e1, e2, g1]
  generalize y + q1 + (q2 + q3) = u at *
  have k1 := addm q4 q5 q6 a4 a5 h4 h5 l4 l5
  have k2 := addm q6 q7 0 a6 a7 h6 h7 l6 l7
  exact fin4 _ _ _ _ _ _ _ g2 k1 k2 (by simp only [Nat.add_assoc]) (by clear hy h1 h2 h3 h4 h5 h6 h7 e1 e2 f2 f3 f4 g1 g2 k1 k2 b1 b2 b3 b4 b5 b6 b7 hle; omega)
end Go.Proofs.YtmoiedlchcceaaaDoor
namespace Go.Proofs.YtmoiedlchcceaaaDoor.M
/-- Each member of a row with what is left of it. -/
def picks {α : Type} : List α → List (α × List α)
  | [] => []
  | x :: l => (x, l) :: (picks l).map fun p => (p.1, x :: p.2)
def sumN {α : Type} (f : α → Nat) : List α → Nat
  | [] => 0
  | x :: l => f x + sumN f l
theorem sumN_map {α β : Type} (g : α → β) (f : β → Nat) : ∀ l : List α, sumN f (l.map g) = sumN (fun x => f (g x)) l
  | [] => rfl
  | x :: l => by rw [List.map_cons, sumN, sumN, sumN_map g f l]
theorem sumN_congr {α : Type} {f g : α → Nat} : ∀ {l : List α}, (∀ x ∈ l, f x = g x) → sumN f l = sumN g l
  | [], _ => rfl
  | x :: l, h => by rw [sumN, sumN, h x (List.mem_cons_self ..), sumN_congr fun y hy => h y (List.mem_cons_of_mem _ hy)]
theorem sumN_add {α : Type} (f g : α → Nat) : ∀ l : List α, sumN (fun x => f x + g x) l = sumN f l + sumN g l
  | [] => rfl
  | x :: l => by rw [sumN, sumN, sumN, sumN_add f g l]; omega
theorem sumN_zero {α : Type} {f : α → Nat} : ∀ {l : List α}, (∀ x ∈ l, f x = 0) → sumN f l = 0
  | [], _ => rfl
  | x :: l, h => by rw [sumN, h x (List.mem_cons_self ..), sumN_zero fun y hy => h y (List.mem_cons_of_mem _ hy)]
theorem sumN_app {α : Type} (f : α → Nat) : ∀ l m : List α, sumN f (l ++ m) = sumN f l + sumN f m
  | [], m => by simp [sumN]
  | x :: l, m => by rw [List.cons_append, sumN, sumN, sumN_app f l m]; omega
theorem sumN_swap {α β : Type} (f : α → β → Nat) (m : List β) : ∀ l : List α, sumN (fun x => sumN (fun y => f x y) m) l = sumN (fun y => sumN (fun x => f x y) l) m
  | [] => by rw [sumN]; exact (sumN_zero fun _ _ => rfl).symm
  | x :: l => by rw [sumN, sumN_swap f m l, ← sumN_add]; exact sumN_congr fun y _ => rfl
theorem sumN_filter {α : Type} (p : α → Bool) (f : α → Nat) : ∀ l : List α, sumN f (l.filter p) = sumN (fun x => if p x = true then f x else 0) l
  | [] => rfl
  | x :: l => by
    rw [List.filter_cons, sumN]
    by_cases h : p x = true
    · rw [if_pos h, if_pos h, sumN, sumN_filter p f l]
    · rw [if_neg h, if_neg h, sumN_filter p f l]; omega
theorem sumN_if {α : Type} (c : Bool) (f : α → Nat) (l : List α) : (if c = true then sumN f l else 0) = sumN (fun x => if c = true then f x else 0) l := by
  cases c
  · rw [if_neg (by decide)]; exact (sumN_zero fun _ _ => if_neg (by decide)).symm
  · rw [if_pos rfl]; exact sumN_congr fun _ _ => (if_pos rfl).symm
theorem picks_map {α β : Type} (f : α → β) : ∀ l : List α, picks (l.map f) = (picks l).map fun p => (f p.1, p.2.map f)
  | [] => rfl
  | x :: l => by
    rw [List.map_cons, picks, picks, picks_map f l, List.map_cons, List.map_map, List.map_map]
    rfl
/-- In how many ways these rows have places below U of their own: place by place. -/
def wy : Nat → List (Nat → Bool) → Nat
  | 0, l => if l.isEmpty = true then 1 else 0
  | U + 1, l => wy U l + sumN (fun p => if p.1 U = true then wy U p.2 else 0) (picks l)
def clr (u : Nat) (r : Nat → Bool) : Nat → Bool := fun v => r v && !(v == u)
theorem picks_mem {α : Type} : ∀ {l : List α} {p : α × List α}, p ∈ picks l → p.1 ∈ l ∧ ∀ x ∈ p.2, x ∈ l
  | [], p, h => by cases h
  | x :: l, p, h => by
    rcases List.mem_cons.1 h with rfl | h
    · exact ⟨List.mem_cons_self .., fun y hy => List.mem_cons_of_mem _ hy⟩
    · obtain ⟨q, hq, rfl⟩ := List.mem_map.1 h
      have := picks_mem hq
      refine ⟨List.mem_cons_of_mem _ this.1, fun y hy => ?_⟩
      rcases List.mem_cons.1 hy with rfl | hy
      · exact List.mem_cons_self ..
      · exact List.mem_cons_of_mem _ (this.2 y hy)
/-- Places at U and beyond are not looked at. -/
theorem wy_same {α : Type} (f g : α → Nat → Bool) : ∀ (U : Nat) (l : List α), (∀ x ∈ l, ∀ v, v < U → f x v = g x v) → wy U (l.map f) = wy U (l.map g)
  | 0, l, _ => by cases l <;> rfl
  | U + 1, l, h => by
    rw [wy, wy, wy_same f g U l fun x hx v hv => h x hx v (by omega), picks_map, picks_map, sumN_map, sumN_map]
    congr 1
    refine sumN_congr fun p hp => ?_
    have hm := picks_mem hp
    have q1 := h p.1 hm.1 U (by omega)
    have q2 := wy_same f g U p.2 fun x hx v hv => h x (hm.2 x hx) v (by omega)
    simp only [q1, q2]
theorem clr_ne {u v : Nat} (r : Nat → Bool) (h : v ≠ u) : clr u r v = r v := by unfold clr; rw [beq_false_of_ne h]; simp
theorem clr_eq (u : Nat) (r : Nat → Bool) : clr u r u = false := by unfold clr; simp
theorem wy_clr (U : Nat) (l : List (Nat → Bool)) : wy (U + 1) (l.map (clr U)) = wy U l := by
  rw [wy, picks_map, sumN_map, sumN_zero, Nat.add_zero]
  · have := wy_same (clr U) (fun x => x) U l fun x _ v hv => clr_ne x (by omega)
    rwa [List.map_id'] at this
  · intro p _
    simp only [clr_eq]
    rfl
theorem range_snoc (U : Nat) : List.range (U + 1) = List.range U ++ [U] := List.range_succ
/-- By the first row's place. -/
theorem wy_head : ∀ (U : Nat) (r : Nat → Bool) (l : List (Nat → Bool)), wy U (r :: l) = sumN (fun u => if r u = true then wy U (l.map (clr u)) else 0) (List.range U)
  | 0, r, l => rfl
  | U + 1, r, l => by
    have e1 : sumN (fun p => if p.1 U = true then wy U p.2 else 0) (picks (r :: l)) = (if r U = true then wy U l else 0) + sumN (fun u => if r u = true then sumN (fun p => if p.1 U = true then wy U (p.2.map (clr u)) else 0) (picks l) else 0) (List.range U) := by
      rw [picks, sumN, sumN_map]
      congr 1
      rw [sumN_congr (g := fun p => sumN (fun u => if r u = true then (if p.1 U = true then wy U (p.2.map (clr u)) else 0) else 0) (List.range U)) fun p _ => by
        dsimp only
        rw [wy_head U r p.2, sumN_if]
        refine sumN_congr fun u _ => ?_
        cases p.1 U <;> cases r u <;> rfl]
      rw [sumN_swap]
      exact sumN_congr fun u _ => (sumN_if _ _ _).symm
    rw [wy, e1, wy_head U r l, range_snoc, sumN_app]
    have e2 : sumN (fun u => if r u = true then wy (U + 1) (l.map (clr u)) else 0) [U] = if r U = true then wy U l else 0 := by
      rw [sumN, sumN, wy_clr]; rfl
    have e3 : sumN (fun u => if r u = true then wy (U + 1) (l.map (clr u)) else 0) (List.range U) = sumN (fun u => if r u = true then wy U (l.map (clr u)) else 0) (List.range U) + sumN (fun u => if r u = true then sumN (fun p => if p.1 U = true then wy U (p.2.map (clr u)) else 0) (picks l) else 0) (List.range U) := by
      rw [← sumN_add]
      refine sumN_congr fun u hu => ?_
      have hne : U ≠ u := by have := List.mem_range.1 hu; omega
      rw [wy, picks_map, sumN_map]
      have e4 : sumN (fun p : (Nat → Bool) × List (Nat → Bool) => if clr u p.1 U = true then wy U (p.2.map (clr u)) else 0) (picks l) = sumN (fun p => if p.1 U = true then wy U (p.2.map (clr u)) else 0) (picks l) := sumN_congr fun p _ => by rw [clr_ne _ hne]
      cases r u
      · rfl
      · simp only [if_true]
        exact congrArg _ e4
    rw [e2, e3]
    omega
theorem sumN_pos {α : Type} {f : α → Nat} : ∀ {l : List α}, 0 < sumN f l → ∃ x ∈ l, 0 < f x
  | [], h => absurd h (Nat.lt_irrefl 0)
  | x :: l, h => by
    rw [sumN] at h
    by_cases h0 : 0 < f x
    · exact ⟨x, List.mem_cons_self .., h0⟩
    · obtain ⟨y, hy, h1⟩ := sumN_pos (f := f) (l := l) (by omega)
      exact ⟨y, List.mem_cons_of_mem _ hy, h1⟩
/-- Places of their own. -/
def Fm (l : List (Nat → Bool)) (g : Nat → Nat) : Prop := (∀ (i : Nat) (r : Nat → Bool), l[i]? = some r → r (g i) = true) ∧ ∀ i j, i < l.length → j < l.length → g i = g j → i = j
theorem wy_full_n (n : Nat) : ∀ (l : List (Nat → Bool)) (U : Nat), l.length = n → 0 < wy U l → ∃ g, Fm l g := by
  induction n with
  | zero =>
    intro l U hl _
    rw [List.eq_nil_of_length_eq_zero hl]
    exact ⟨fun _ => 0, fun i r h => by simp at h, fun i j h => absurd h (Nat.not_lt_zero _)⟩
  | succ n ih =>
    intro l U hl h
    cases l with
    | nil => cases hl
    | cons r l =>
    rw [wy_head] at h
    obtain ⟨u, _, hu⟩ := sumN_pos h
    by_cases hr : r u = true
    · rw [if_pos hr] at hu
      obtain ⟨g, h1', h2⟩ := ih (l.map (clr u)) U (by simpa using hl) hu
      rw [List.length_map] at h2
      have h1 : ∀ i r, l[i]? = some r → r (g i) = true ∧ g i ≠ u := fun i r hr => by
        have := h1' i (clr u r) (by rw [List.getElem?_map, hr]; rfl)
        unfold clr at this
        simp at this
        exact this
      refine ⟨fun i => if i = 0 then u else g (i - 1), fun i x hx => ?_, fun i j hi hj e => ?_⟩
      · cases i with
        | zero => simp at hx; subst hx; exact hr
        | succ i =>
          rw [List.getElem?_cons_succ] at hx
          have := h1 i x hx
          simp only [Nat.add_one_ne_zero, if_false, Nat.add_sub_cancel]
          exact this.1
      · have hne : ∀ k, k < l.length → g k ≠ u := fun k hk => (h1 k _ (List.getElem?_eq_getElem hk)).2
        cases i with
        | zero =>
          cases j with
          | zero => rfl
          | succ j =>
            simp at e hj
            exact absurd e.symm (hne j hj)
        | succ i =>
          cases j with
          | zero =>
            simp at e hi
            exact absurd e (hne i hi)
          | succ j =>
            simp at e hi hj
            rw [h2 i j hi hj e]
    · rw [if_neg hr] at hu; exact absurd hu (Nat.lt_irrefl 0)
theorem wy_full {l : List (Nat → Bool)} {U : Nat} (h : 0 < wy U l) : ∃ g, Fm l g := wy_full_n l.length l U rfl h
/-- The rows of a set. -/
def rowsS (R : Nat → Nat) (s : Nat) : List (Nat → Bool) := (nums s).map fun r => (R r.val).testBit
theorem picks_nodup {α : Type} [DecidableEq α] : ∀ {l : List α}, l.Nodup → picks l = l.map fun x => (x, l.filter fun y => !decide (y = x))
  | [], _ => rfl
  | x :: l, h => by
    have h' := List.nodup_cons.1 h
    rw [picks, picks_nodup h'.2, List.map_cons, List.map_map]
    congr 1
    · rw [List.filter_cons, if_neg (by simp)]
      congr 1
      refine (List.filter_eq_self.2 fun y hy => ?_).symm
      simp only [Bool.not_eq_true', decide_eq_false_iff_not]
      exact fun e => h'.1 (e ▸ hy)
    · refine List.map_congr_left fun y hy => ?_
      show (y, x :: _) = _
      rw [List.filter_cons, if_pos]
      simp only [Bool.not_eq_true', decide_eq_false_iff_not]
      exact fun e => h'.1 (e ▸ hy)
theorem nodup_nums (s : Nat) : (nums s).Nodup := (sorted_nums s).imp fun h e => by subst e; exact absurd h (Nat.lt_irrefl _)
theorem nums_without (s t : Nat) (j : Fin 64) (h : ∀ k : Fin 64, t.testBit k.val = (s.testBit k.val && !decide (k = j))) : nums t = (nums s).filter fun y => !decide (y = j) := by
  unfold nums
  rw [List.filter_filter]
  exact List.filter_congr fun k _ => by rw [h k, Bool.and_comm]
/-- A set without one. -/
def clS (s j : Nat) : Nat := s &&& (18446744073709551615 - 2 ^ j)
/-- What is still to come for a set, of the takers that are left. -/
def remS (R : Nat → Nat) (u s : Nat) (T : List (Fin 64)) : Nat := sumN (fun j => wy u (rowsS R (clS s j.val))) T
theorem clS_bit (s : Nat) (j k : Fin 64) : (clS s j.val).testBit k.val = (s.testBit k.val && !decide (k = j)) := by
  have hp : 2 ^ j.val < 2 ^ 64 := Nat.pow_lt_pow_right (by decide) j.isLt
  unfold clS
  rw [show 18446744073709551615 - 2 ^ j.val = 2 ^ 64 - (2 ^ j.val + 1) by omega, Nat.testBit_and, Nat.testBit_two_pow_sub_succ hp, Nat.testBit_two_pow]
  have hk := k.isLt
  congr 1
  rw [decide_eq_true hk, Bool.true_and]
  congr 1
  exact decide_eq_decide.2 ⟨fun e => Fin.ext e.symm, fun e => (congrArg _ e).symm⟩
theorem clS_lt {s : Nat} {j : Fin 64} (h : s.testBit j.val = true) : clS s j.val < s := by
  refine Nat.lt_of_le_of_ne Nat.and_le_left fun e => ?_
  have := clS_bit s j j
  unfold clS at e this
  rw [e, h] at this
  simp at this
/-- One place more: what a set's ways come to. -/
theorem wy_step (R : Nat → Nat) (u s : Nat) : wy (u + 1) (rowsS R s) = wy u (rowsS R s) + remS R u s ((nums s).filter fun j => (R j.val).testBit u) := by
  rw [wy]
  congr 1
  unfold remS rowsS
  rw [picks_map, picks_nodup (nodup_nums s), sumN_map, sumN_map, sumN_filter]
  refine sumN_congr fun j _ => ?_
  have q := nums_without s (clS s j.val) j fun k => clS_bit s j k
  simp only [q]
end Go.Proofs.YtmoiedlchcceaaaDoor.M
