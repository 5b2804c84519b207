/- Numbers between braces: plain facts. -/
import Derived.Test.YtemaoijbjhonnaaDoorText
namespace Go.Proofs.YtemaoijbjhonnaaDoor
/-- A number's digits, read from the state n behind d digits. -/
def rdS : Nat → Nat → List UInt8 → Option Nat
  | n, d, [] => if d = 0 then none else some n
  | n, d, c :: cs => if 48 ≤ c.toNat ∧ c.toNat ≤ 57 then (if d = 3 ∨ (0 < d ∧ n = 0) then none else rdS (10 * n + (c.toNat - 48)) (d + 1) cs) else none
/-- What stands between the braces, read from a state. -/
def goS : Int → Nat → Nat → List Nat → List UInt8 → Option (List Nat)
  | last, n, d, acc, [] => if d = 0 ∨ (n : Int) ≤ last then none else some (acc ++ [n])
  | last, n, d, acc, c :: cs =>
    if 48 ≤ c.toNat ∧ c.toNat ≤ 57 then (if d = 3 ∨ (0 < d ∧ n = 0) then none else goS last (10 * n + (c.toNat - 48)) (d + 1) acc cs)
    else if c = 44 then (if d = 0 ∨ (n : Int) ≤ last then none else goS n 0 0 (acc ++ [n]) cs)
    else none
theorem goS_comma (last : Int) (acc : List Nat) (t : List UInt8) : ∀ (p : List UInt8) (n d : Nat), (∀ c ∈ p, c ≠ 44) →
    goS last n d acc (p ++ 44 :: t) = match rdS n d p with | none => none | some m => if (m : Int) ≤ last then none else goS m 0 0 (acc ++ [m]) t
  | [], n, d, _ => by
    show (if 48 ≤ (44 : UInt8).toNat ∧ (44 : UInt8).toNat ≤ 57 then _ else _) = _
    rw [if_neg (by decide), if_pos rfl]
    unfold rdS
    by_cases h : d = 0
    · simp [h]
    · simp [h]
  | c :: p, n, d, hp => by
    have hc := hp c (List.mem_cons_self ..)
    have ih := goS_comma last acc t p (10 * n + (c.toNat - 48)) (d + 1) (fun x hx => hp x (List.mem_cons_of_mem _ hx))
    show (if 48 ≤ c.toNat ∧ c.toNat ≤ 57 then _ else if c = 44 then _ else none) = _
    unfold rdS
    by_cases h1 : 48 ≤ c.toNat ∧ c.toNat ≤ 57
    · rw [if_pos h1, if_pos h1]
      by_cases h2 : d = 3 ∨ (0 < d ∧ n = 0)
      · rw [if_pos h2, if_pos h2]
      · rw [if_neg h2, if_neg h2]; exact ih
    · rw [if_neg h1, if_neg h1, if_neg hc]
theorem goS_end (last : Int) (acc : List Nat) : ∀ (p : List UInt8) (n d : Nat), (∀ c ∈ p, c ≠ 44) →
    goS last n d acc p = match rdS n d p with | none => none | some m => if (m : Int) ≤ last then none else some (acc ++ [m])
  | [], n, d, _ => by
    unfold rdS goS
    by_cases h : d = 0
    · simp [h]
    · simp [h]
  | c :: p, n, d, hp => by
    have hc := hp c (List.mem_cons_self ..)
    have ih := goS_end last acc p (10 * n + (c.toNat - 48)) (d + 1) (fun x hx => hp x (List.mem_cons_of_mem _ hx))
    unfold rdS goS
    by_cases h1 : 48 ≤ c.toNat ∧ c.toNat ≤ 57
    · rw [if_pos h1, if_pos h1]
      by_cases h2 : d = 3 ∨ (0 < d ∧ n = 0)
      · rw [if_pos h2, if_pos h2]
      · rw [if_neg h2, if_neg h2]; exact ih
    · rw [if_neg h1, if_neg h1, if_neg hc]
theorem rdS_lt : ∀ (p : List UInt8) (n d m : Nat), d ≤ 3 → n < 10 ^ d → rdS n d p = some m → m < 1000
  | [], n, d, m, hd, hn, h => by
    unfold rdS at h
    by_cases h0 : d = 0
    · rw [if_pos h0] at h; cases h
    · rw [if_neg h0] at h
      cases h
      have : 10 ^ d ≤ 10 ^ 3 := Nat.pow_le_pow_right (by decide) hd
      omega
  | c :: p, n, d, m, hd, hn, h => by
    unfold rdS at h
    by_cases h1 : 48 ≤ c.toNat ∧ c.toNat ≤ 57
    · rw [if_pos h1] at h
      by_cases h2 : d = 3 ∨ (0 < d ∧ n = 0)
      · rw [if_pos h2] at h; cases h
      · rw [if_neg h2] at h
        refine rdS_lt p _ _ m (by omega) ?_ h
        rw [Nat.pow_succ]; omega
    · rw [if_neg h1] at h; cases h
/-- The bytes between the braces; none: no such form. -/
def prs (T : List UInt8) : Option (List Nat) :=
  if T.head? = some 123 ∧ T.tail.getLast? = some 125 then (if T.tail.dropLast = [] then some [] else goS (-1) 0 0 [] T.tail.dropLast) else none
def orNs (L : List Nat) : Nat := L.foldl (fun x n => x ||| 2 ^ n) 0
theorem orNs_snoc (L : List Nat) (n : Nat) : orNs (L ++ [n]) = orNs L ||| 2 ^ n := by simp [orNs]
theorem foldl_bit (i : Nat) : ∀ (L : List Nat) (x : Nat), (L.foldl (fun x n => x ||| 2 ^ n) x).testBit i = (x.testBit i || decide (i ∈ L))
  | [], x => by simp
  | n :: L, x => by
    rw [List.foldl_cons, foldl_bit i L, Nat.testBit_or, Nat.testBit_two_pow, Bool.or_assoc]
    congr 1
    rw [Bool.eq_iff_iff]
    simp only [Bool.or_eq_true, decide_eq_true_eq, List.mem_cons]
    exact ⟨fun h => h.imp Eq.symm id, fun h => h.imp Eq.symm id⟩
theorem orNs_bit (L : List Nat) (i : Nat) : (orNs L).testBit i = decide (i ∈ L) := by unfold orNs; rw [foldl_bit]; simp
theorem orNs_lt {L : List Nat} {wd : Nat} (h : ∀ n ∈ L, n < wd) : orNs L < 2 ^ wd := by
  refine Nat.lt_pow_two_of_testBit _ fun i hi => ?_
  rw [orNs_bit]
  simp only [decide_eq_false_iff_not]
  intro hm
  have := h i hm
  omega
/-- The answer: word and error's number. -/
def resP (wd : Nat) (T : List UInt8) : Nat × Nat := match prs T with | none => (0, 3) | some L => if L.all (fun n => decide (n < wd)) then (orNs L, 0) else (0, 1)
/-- Numbers with commas between them. -/
def inn : List Nat → List UInt8
  | [] => []
  | [k] => dig k
  | k :: l => dig k ++ 44 :: inn l
theorem inn_cons (k j : Nat) (l : List Nat) : inn (k :: j :: l) = dig k ++ 44 :: inn (j :: l) := rfl
theorem inn_snoc (k : Nat) : ∀ (l : List Nat), l ≠ [] → inn (l ++ [k]) = inn l ++ [44] ++ dig k
  | [], h => absurd rfl h
  | [a], _ => by simp [inn]
  | a :: b :: l, _ => by
    have ih := inn_snoc k (b :: l) (by simp)
    rw [List.cons_append, List.cons_append, inn_cons, inn_cons, ← List.cons_append, ih]
    simp
theorem dig_ne (k : Nat) : dig k ≠ [] := by unfold dig; split <;> simp
theorem inn_ne : ∀ (l : List Nat), l ≠ [] → inn l ≠ []
  | [], h => absurd rfl h
  | [a], _ => dig_ne a
  | a :: b :: l, _ => by rw [inn_cons]; simp
theorem rd_dig : ∀ k : Fin 64, rdS 0 0 (dig k.val) = some k.val := by decide +kernel
theorem dig_no : ∀ k : Fin 64, ∀ c ∈ dig k.val, c ≠ 44 := by decide +kernel
theorem goS_inn : ∀ (l : List Nat) (last : Int) (acc : List Nat), l ≠ [] → (∀ k ∈ l, k < 64) → (∀ k ∈ l, last < (k : Int)) → l.Pairwise (· < ·) → goS last 0 0 acc (inn l) = some (acc ++ l)
  | [], _, _, h, _, _, _ => absurd rfl h
  | [k], last, acc, _, h64, hlast, _ => by
    have hk := h64 k (by simp)
    have hl := hlast k (by simp)
    show goS last 0 0 acc (dig k) = _
    rw [goS_end last acc (dig k) 0 0 (dig_no ⟨k, hk⟩), rd_dig ⟨k, hk⟩]
    simp only
    rw [if_neg (by omega)]
  | k :: j :: l, last, acc, _, h64, hlast, hp => by
    have hk := h64 k (by simp)
    have hl := hlast k (by simp)
    rw [inn_cons, goS_comma last acc _ (dig k) 0 0 (dig_no ⟨k, hk⟩), rd_dig ⟨k, hk⟩]
    simp only
    rw [if_neg (by omega), goS_inn (j :: l) k (acc ++ [k]) (by simp) (fun x hx => h64 x (List.mem_cons_of_mem _ hx)) (fun x hx => by have := (List.pairwise_cons.1 hp).1 x hx; omega) (List.pairwise_cons.1 hp).2]
    simp
theorem txt_step (p : List Nat) (hp : p ≠ []) (k : Fin 64) : txtStep (123 :: inn p) k = 123 :: inn (p ++ [k.val]) := by
  have h := List.length_pos_iff.2 (inn_ne p hp)
  rw [txtStep, if_pos (by rw [List.length_cons]; omega), inn_snoc _ _ hp]
  simp
theorem txt_fold : ∀ (l : List (Fin 64)) (p : List Nat), p ≠ [] → l.foldl txtStep (123 :: inn p) = 123 :: inn (p ++ l.map (·.val))
  | [], p, _ => by simp
  | k :: l, p, hp => by
    rw [List.foldl_cons, txt_step p hp k, txt_fold l (p ++ [k.val]) (by simp)]
    simp
theorem txt_inn (l : List (Fin 64)) : txt l = 123 :: inn (l.map (·.val)) := by
  cases l with
  | nil => rfl
  | cons k l =>
    show l.foldl txtStep (txtStep [123] k) = _
    rw [show txtStep [123] k = 123 :: inn [k.val] from rfl, txt_fold l [k.val] (by simp)]
    rfl
theorem nums_pair (x : Nat) : ((nums x).map (·.val)).Pairwise (· < ·) := by
  unfold nums
  rw [List.pairwise_map]
  refine List.Pairwise.filter _ ?_
  have h : (List.finRange 64).Pairwise (· < ·) := by decide +kernel
  exact h.imp fun h => h
theorem prs_txt (x : Nat) : prs (txt (nums x) ++ [125]) = some ((nums x).map (·.val)) := by
  rw [txt_inn]
  unfold prs
  have e : ((123 :: inn ((nums x).map (·.val)) ++ [125] : List UInt8)).tail = inn ((nums x).map (·.val)) ++ [125] := rfl
  rw [e, List.getLast?_append, List.dropLast_concat]
  rw [if_pos ⟨rfl, by simp⟩]
  by_cases h : (nums x).map (·.val) = []
  · rw [h]; rfl
  · rw [if_neg (inn_ne _ h), goS_inn _ _ _ h (fun k hk => by obtain ⟨j, _, rfl⟩ := List.mem_map.1 hk; exact j.isLt) (fun k hk => by omega) (nums_pair x)]
    rfl
theorem orNs_nums (x : Nat) (hx : x < 18446744073709551616) : orNs ((nums x).map (·.val)) = x := by
  refine Nat.eq_of_testBit_eq fun i => ?_
  rw [orNs_bit]
  by_cases hi : i < 64
  · cases hb : x.testBit i with
    | true =>
      simp only [decide_eq_true_eq, List.mem_map]
      exact ⟨⟨i, hi⟩, (mem_nums x ⟨i, hi⟩).2 hb, rfl⟩
    | false =>
      simp only [decide_eq_false_iff_not, List.mem_map]
      rintro ⟨j, hj, rfl⟩
      rw [(mem_nums x j).1 hj] at hb
      cases hb
  · rw [Nat.testBit_lt_two_pow (Nat.lt_of_lt_of_le (show x < 2 ^ 64 from hx) (Nat.pow_le_pow_right (by decide) (by omega)))]
    simp only [decide_eq_false_iff_not, List.mem_map]
    rintro ⟨j, _, rfl⟩
    exact hi j.isLt
theorem resP_txt (x : Nat) (hx : x < 18446744073709551616) : resP 64 (txt (nums x) ++ [125]) = (x, 0) := by
  unfold resP
  rw [prs_txt]
  simp only
  rw [if_pos (by simp), orNs_nums x hx]
end Go.Proofs.YtemaoijbjhonnaaDoor
