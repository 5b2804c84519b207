/- Patterns as rows: how many there are, rank, place, the next one: plain facts on lists; nothing of the program. -/
import Derived.Test.YtahfobbiaimoiaaGreatDoorRows
namespace Go.Proofs.YtahfobbiaimoiaaGreatDoor.L
def isLet (c : UInt8) : Bool := decide (97 ≤ c.toNat ∧ c.toNat ≤ 122)
def isDig (c : UInt8) : Bool := decide (48 ≤ c.toNat ∧ c.toNat ≤ 57)
def isIn (c : UInt8) : Bool := isLet c || (isDig c || decide (c = 45))
def isMk (c : UInt8) : Bool := decide (c ∈ [44, 58, 60, 62, 61, 40, 41])
def isBl (c : UInt8) : Bool := decide (c = 32 ∨ c = 9)
def isRm (c : UInt8) : Bool := decide (c = 35)
def isEnd (c : UInt8) : Bool := decide (c = 10)
def inLn (c : UInt8) : Bool := !isEnd c
/-- A token: its kind, text, number and place. -/
structure Tok where
  kind : Int
  text : List UInt8
  num : Int
  line : Int
  col : Int
  deriving DecidableEq
/-- Is the last line ended? -/
def endd (l : List Tok) : Bool := match l.getLast? with | none => true | some t => decide (t.kind = 4)
/-- The number that digits say. -/
def valu (l : List UInt8) : Nat := l.foldl (fun v c => v * 10 + (c.toNat - 48)) 0
/-- How many bytes are of the kind, from the first on. -/
def len (p : UInt8 → Bool) (l : List UInt8) : Nat := (l.takeWhile p).length
/-- The token with which a text begins: an error, or kind, bytes, number. -/
def cutT (t : List UInt8) : Except Int (Int × Nat × Int) :=
  match t with
  | [] => .error 3
  | c :: _ =>
    if isLet c then (if 24 < len isIn t then .error 4 else .ok (1, len isIn t, 0))
    else if isDig c then
      (if 9 < len isDig t ∨ (1 < len isDig t ∧ c = 48) then .error 3
       else if ((t.drop (len isDig t)).head?.any isIn) then .error 3
       else .ok (2, len isDig t, valu (t.take (len isDig t))))
    else if isMk c then .ok (3, 1, 0)
    else .error 3
theorem len_le (p : UInt8 → Bool) (l : List UInt8) : len p l ≤ l.length := by
  unfold len
  exact (List.takeWhile_sublist p).length_le
theorem len_cons_true {p : UInt8 → Bool} {c : UInt8} {l : List UInt8} (h : p c = true) : len p (c :: l) = len p l + 1 := by
  simp [len, h]
theorem len_cons_false {p : UInt8 → Bool} {c : UInt8} {l : List UInt8} (h : p c = false) : len p (c :: l) = 0 := by
  simp [len, h]
theorem isIn_let {c : UInt8} (h : isLet c = true) : isIn c = true := by simp [isIn, h]
theorem isIn_dig {c : UInt8} (h : isDig c = true) : isIn c = true := by simp [isIn, h]
theorem cut_pos {t : List UInt8} {k : Int} {n : Nat} {v : Int} (h : cutT t = .ok (k, n, v)) : 0 < n ∧ n ≤ t.length := by
  unfold cutT at h
  cases t with
  | nil => cases h
  | cons c r =>
    simp only at h
    split at h
    · rename_i hl
      split at h
      · cases h
      · cases h
        exact ⟨by rw [len_cons_true (isIn_let hl)]; omega, len_le _ _⟩
    · split at h
      · rename_i hd
        split at h
        · cases h
        · split at h
          · cases h
          · cases h
            exact ⟨by rw [len_cons_true hd]; omega, len_le _ _⟩
      · split at h
        · cases h; simp
        · cases h
/-- A scan's answer: tokens, or a fault. -/
abbrev Res := Except (Int × Int × Int) (List Tok)
/-- A line's end, where it has tokens. -/
def endL (toks : List Tok) (line col : Int) : List Tok := if endd toks then toks else toks ++ [⟨4, [], 0, line, col⟩]
/-- The scan from a place on. -/
def scanW (t : List UInt8) (line col : Nat) (toks : List Tok) : Res :=
  match t with
  | [] => .ok (endL toks line col)
  | c :: r =>
    if isBl c then scanW r line (col + 1) toks
    else if isRm c then scanW (r.drop (len inLn r)) line (col + 1 + len inLn r) toks
    else if isEnd c then scanW r (line + 1) 1 (endL toks line col)
    else match cutT (c :: r) with
      | .error e => .error (e, line, col)
      | .ok (k, n, v) => scanW (r.drop (n - 1)) line (col + n) (toks ++ [⟨k, (c :: r).take n, v, line, col⟩])
  termination_by t.length
  decreasing_by all_goals (simp_wf; try omega)
theorem scan_nil (line col : Nat) (toks : List Tok) : scanW [] line col toks = .ok (endL toks line col) := by rw [scanW]
theorem scan_bl {c : UInt8} (h : isBl c = true) (r : List UInt8) (line col : Nat) (toks : List Tok) : scanW (c :: r) line col toks = scanW r line (col + 1) toks := by rw [scanW]; simp [h]
theorem scan_rm {c : UInt8} (hb : isBl c = false) (h : isRm c = true) (r : List UInt8) (line col : Nat) (toks : List Tok) : scanW (c :: r) line col toks = scanW (r.drop (len inLn r)) line (col + 1 + len inLn r) toks := by rw [scanW]; simp [h, hb]
theorem scan_end {c : UInt8} (hb : isBl c = false) (hr : isRm c = false) (h : isEnd c = true) (r : List UInt8) (line col : Nat) (toks : List Tok) : scanW (c :: r) line col toks = scanW r (line + 1) 1 (endL toks line col) := by rw [scanW]; simp [h, hb, hr]
theorem scan_err {c : UInt8} (hb : isBl c = false) (hr : isRm c = false) (he : isEnd c = false) {r : List UInt8} {e : Int} (h : cutT (c :: r) = .error e) (line col : Nat) (toks : List Tok) : scanW (c :: r) line col toks = .error (e, line, col) := by
  rw [scanW]; simp [hb, hr, he, h]
theorem scan_cut {c : UInt8} (hb : isBl c = false) (hr : isRm c = false) (he : isEnd c = false) {r : List UInt8} {k : Int} {n : Nat} {v : Int} (h : cutT (c :: r) = .ok (k, n, v)) (line col : Nat) (toks : List Tok) : scanW (c :: r) line col toks = scanW ((c :: r).drop n) line (col + n) (toks ++ [⟨k, (c :: r).take n, v, line, col⟩]) := by
  have hp := (cut_pos h).1
  obtain ⟨m, rfl⟩ : ∃ m, n = m + 1 := ⟨n - 1, by omega⟩
  rw [scanW]; simp [hb, hr, he, h]
/-- The whole scan. -/
def scanT (T : List UInt8) : Res := if 65536 < T.length then .error (2, 0, 0) else scanW T 1 1 []
/-- A name? -/
def legalT (T : List UInt8) : Bool := match T with | [] => false | c :: _ => decide (T.length ≤ 24) && isLet c && T.all isIn
end Go.Proofs.YtahfobbiaimoiaaGreatDoor.L
namespace Go.Proofs.YtahfobbiaimoiaaGreatDoor.O

/-- The numbers of a word, rising. -/
def nums (x : Nat) : List (Fin 64) := (List.finRange 64).filter (fun i => x.testBit i.val)
/-- The first of a list; -1: none. -/
def lowI : List (Fin 64) → Int
  | [] => -1
  | j :: _ => j.val
/-- Those not below i. -/
def fromI (i : Int) (l : List (Fin 64)) : List (Fin 64) := l.filter (fun j => decide (i ≤ (j.val : Int)))
/-- Those below i. -/
def toI (i : Int) (l : List (Fin 64)) : List (Fin 64) := l.filter (fun j => decide ((j.val : Int) < i))

theorem mem_nums (x : Nat) (i : Fin 64) : i ∈ nums x ↔ x.testBit i.val = true := by simp [nums]
theorem sorted_fin : (List.finRange 64).Pairwise (· < ·) := by decide +kernel
theorem sorted_nums (x : Nat) : (nums x).Pairwise (· < ·) := sorted_fin.sublist List.filter_sublist
theorem nums_congr {x y : Nat} (h : ∀ i : Fin 64, x.testBit i.val = y.testBit i.val) : nums x = nums y := by
  unfold nums; exact List.filter_congr fun i _ => h i
theorem nums_from {x y : Nat} {i : Int} (h : ∀ j : Fin 64, y.testBit j.val = (x.testBit j.val && decide (i ≤ (j.val : Int)))) : nums y = fromI i (nums x) := by
  unfold nums fromI; rw [List.filter_filter]; exact List.filter_congr fun j _ => by rw [h j, Bool.and_comm]
theorem nums_to {x y : Nat} {i : Int} (h : ∀ j : Fin 64, y.testBit j.val = (x.testBit j.val && decide ((j.val : Int) < i))) : nums y = toI i (nums x) := by
  unfold nums toI; rw [List.filter_filter]; exact List.filter_congr fun j _ => by rw [h j, Bool.and_comm]
theorem nums_zero : nums 0 = [] := by simp [nums]
theorem nums_eq_nil {x : Nat} (hx : x < 2 ^ 64) (h : nums x = []) : x = 0 := by
  apply Nat.eq_of_testBit_eq
  intro i
  by_cases hi : i < 64
  · have : (⟨i, hi⟩ : Fin 64) ∉ nums x := by rw [h]; simp
    rw [mem_nums] at this
    simpa using this
  · rw [Nat.testBit_lt_two_pow (Nat.lt_of_lt_of_le hx (Nat.pow_le_pow_right (by decide) (by omega)))]; simp
theorem nums_inj {x y : Nat} (hx : x < 2 ^ 64) (hy : y < 2 ^ 64) (h : nums x = nums y) : x = y := by
  apply Nat.eq_of_testBit_eq
  intro i
  by_cases hi : i < 64
  · have e : (⟨i, hi⟩ : Fin 64) ∈ nums x ↔ (⟨i, hi⟩ : Fin 64) ∈ nums y := by rw [h]
    rw [mem_nums, mem_nums] at e
    exact Bool.eq_iff_iff.2 e
  · rw [Nat.testBit_lt_two_pow (Nat.lt_of_lt_of_le hx (Nat.pow_le_pow_right (by decide) (by omega))), Nat.testBit_lt_two_pow (Nat.lt_of_lt_of_le hy (Nat.pow_le_pow_right (by decide) (by omega)))]

/-- In a rising list: what is behind j is what is not below j + 1. -/
theorem from_snoc {l pre rest : List (Fin 64)} {j : Fin 64} (hs : l.Pairwise (· < ·)) (h : l = pre ++ j :: rest) : fromI ((j.val : Int) + 1) l = rest := by
  subst h
  unfold fromI
  rw [List.pairwise_append] at hs
  obtain ⟨_, h2, h3⟩ := hs
  rw [List.pairwise_cons] at h2
  rw [List.filter_append, List.filter_cons]
  have e1 : pre.filter (fun k => decide ((j.val : Int) + 1 ≤ (k.val : Int))) = [] := by
    rw [List.filter_eq_nil_iff]; intro k hk
    have := h3 k hk j (by simp)
    have : k.val < j.val := this
    simp; omega
  have e2 : rest.filter (fun k => decide ((j.val : Int) + 1 ≤ (k.val : Int))) = rest := by
    rw [List.filter_eq_self]; intro k hk
    have : j.val < k.val := h2.1 k hk
    simp; omega
  rw [e1, e2, if_neg (by simp; omega)]; rfl
theorem to_snoc {l pre rest : List (Fin 64)} {j : Fin 64} (hs : l.Pairwise (· < ·)) (h : l = pre ++ j :: rest) : toI (j.val : Int) l = pre := by
  subst h
  unfold toI
  rw [List.pairwise_append] at hs
  obtain ⟨_, h2, h3⟩ := hs
  rw [List.pairwise_cons] at h2
  rw [List.filter_append, List.filter_cons]
  have e1 : pre.filter (fun k => decide ((k.val : Int) < (j.val : Int))) = pre := by
    rw [List.filter_eq_self]; intro k hk
    have : k.val < j.val := h3 k hk j (by simp)
    simp; omega
  have e2 : rest.filter (fun k => decide ((k.val : Int) < (j.val : Int))) = [] := by
    rw [List.filter_eq_nil_iff]; intro k hk
    have : j.val < k.val := h2.1 k hk
    simp; omega
  rw [e1, e2, if_neg (by simp)]; simp
theorem from_low (l : List (Fin 64)) {i : Int} (hi : i ≤ 0) : fromI i l = l := by
  unfold fromI; rw [List.filter_eq_self]; intro k _; simp; omega

/-- A word whose least number is k: the word and its negative have just that in common. -/
theorem and_neg {x k : Nat} (hk : k < 64) (h1 : x.testBit k = true) (h0 : ∀ j, j < k → x.testBit j = false) (hx : x < 2 ^ 64) : x &&& (2 ^ 64 - x) = 2 ^ k := by
  have hm : x % 2 ^ (k + 1) = 2 ^ k := by
    apply Nat.eq_of_testBit_eq; intro i
    rw [Nat.testBit_mod_two_pow, Nat.testBit_two_pow]
    by_cases e : k = i
    · subst e; simp [h1]
    · by_cases hlt : i < k + 1
      · rw [h0 i (by omega)]; simp [e]
      · simp [hlt, e]
  have hd := Nat.div_add_mod x (2 ^ (k + 1))
  rw [hm] at hd
  generalize x / 2 ^ (k + 1) = m at hd
  have hp : 0 < 2 ^ k := Nat.two_pow_pos k
  have hx0 : 0 < x := by omega
  have e2 : 2 ^ 64 - x = 2 ^ 64 - ((x - 1) + 1) := by omega
  have hm1 : x - 1 = 2 ^ (k + 1) * m + (2 ^ k - 1) := by omega
  have hlt1 : 2 ^ k - 1 < 2 ^ (k + 1) := by rw [Nat.pow_succ]; omega
  have hlt2 : 2 ^ k < 2 ^ (k + 1) := by rw [Nat.pow_succ]; omega
  apply Nat.eq_of_testBit_eq; intro i
  rw [Nat.testBit_and, e2, Nat.testBit_two_pow_sub_succ (by omega), Nat.testBit_two_pow]
  by_cases hi : i < k
  · rw [h0 i hi]; simp; omega
  · by_cases e : k = i
    · subst e
      have : (x - 1).testBit k = false := by rw [hm1, Nat.testBit_two_pow_mul_add _ hlt1, if_pos (by omega), Nat.testBit_two_pow_sub_one]; simp
      rw [h1, this]; simp [hk]
    · have a1 : x.testBit i = m.testBit (i - (k + 1)) := by rw [← hd, Nat.testBit_two_pow_mul_add _ hlt2, if_neg (by omega)]
      have a2 : (x - 1).testBit i = m.testBit (i - (k + 1)) := by rw [hm1, Nat.testBit_two_pow_mul_add _ hlt1, if_neg (by omega)]
      rw [a1, a2]; simp [e]; intro h _; exact h
theorem and_neg_nums {x : Nat} {j : Fin 64} {l : List (Fin 64)} (hx : x < 2 ^ 64) (h : nums x = j :: l) : x &&& (2 ^ 64 - x) = 2 ^ j.val := by
  have hs := sorted_nums x
  refine and_neg j.isLt ((mem_nums x j).1 (by rw [h]; simp)) ?_ hx
  intro i hi
  have hi64 : i < 64 := by omega
  cases hb : x.testBit i with
  | false => rfl
  | true =>
    have hm : (⟨i, hi64⟩ : Fin 64) ∈ nums x := (mem_nums x _).2 hb
    rw [h] at hm hs
    rcases List.mem_cons.1 hm with e | hm
    · have : i = j.val := congrArg Fin.val e
      omega
    · have : j.val < i := (List.pairwise_cons.1 hs).1 _ hm
      omega
/-- The place that the library's table is asked at. -/
def dbAt (k : Nat) : Nat := 2 ^ k * 285870213051353865 % 18446744073709551616 / 288230376151711744
def dbTab : List Nat := [0, 1, 56, 2, 57, 49, 28, 3, 61, 58, 42, 50, 38, 29, 17, 4, 62, 47, 59, 36, 45, 43, 51, 22, 53, 39, 33, 30, 24, 18, 12, 5, 63, 55, 48, 27, 60, 41, 37, 16, 46, 35, 44, 21, 52, 32, 23, 11, 54, 26, 40, 15, 34, 20, 31, 10, 25, 14, 19, 9, 13, 8, 7, 6]
theorem db_ok : ∀ k : Fin 64, dbAt k.val < 64 ∧ dbTab[dbAt k.val]? = some k.val := by decide +kernel
end Go.Proofs.YtahfobbiaimoiaaGreatDoor.O
namespace Go.Proofs.YtahfobbiaimoiaaGreatDoor.O
/-- One turn: what leads to k leads to what k leads to. -/
def turn (k : Nat) (R : Nat → Nat → Bool) : Nat → Nat → Bool := fun a b => R a b || (R a k && R k b)
/-- The turns of all places below n. -/
def clo : Nat → (Nat → Nat → Bool) → (Nat → Nat → Bool)
  | 0, R => R
  | n + 1, R => turn n (clo n R)
theorem turn_col (k : Nat) (R : Nat → Nat → Bool) (a : Nat) : turn k R a k = R a k := by
  unfold turn; cases R a k <;> simp
theorem turn_row (k : Nat) (R : Nat → Nat → Bool) (b : Nat) : turn k R k b = R k b := by
  unfold turn; cases R k b <;> simp
theorem clo_trans (R : Nat → Nat → Bool) : ∀ (n m : Nat), m < n → ∀ a b, clo n R a m = true → clo n R m b = true → clo n R a b = true
  | 0, _, h => by omega
  | n + 1, m, hm => by
    intro a b h1 h2
    have ih := clo_trans R n
    show turn n (clo n R) a b = true
    have h1' : turn n (clo n R) a m = true := h1
    have h2' : turn n (clo n R) m b = true := h2
    clear h1 h2
    generalize clo n R = C at *
    by_cases e : m = n
    · subst e
      rw [turn_col] at h1'
      rw [turn_row] at h2'
      unfold turn
      simp [h1', h2']
    · have hl : m < n := by omega
      unfold turn at *
      simp only [Bool.or_eq_true, Bool.and_eq_true] at *
      rcases h1' with h1 | ⟨h1, h3⟩
      · rcases h2' with h2 | ⟨h2, h4⟩
        · exact .inl (ih m hl a b h1 h2)
        · exact .inr ⟨ih m hl a n h1 h2, h4⟩
      · rcases h2' with h2 | ⟨h2, h4⟩
        · exact .inr ⟨h1, ih m hl n b h3 h2⟩
        · exact .inr ⟨h1, h4⟩
theorem clo_in {R : Nat → Nat → Bool} {N : Nat} (h : ∀ a b, R a b = true → a < N ∧ b < N) : ∀ (n a b : Nat), clo n R a b = true → a < N ∧ b < N
  | 0, a, b, e => h a b e
  | n + 1, a, b, e => by
    have e' : turn n (clo n R) a b = true := e
    unfold turn at e'
    simp only [Bool.or_eq_true, Bool.and_eq_true] at e'
    rcases e' with e | ⟨e1, e2⟩
    · exact clo_in h n a b e
    · exact ⟨(clo_in h n _ _ e1).1, (clo_in h n _ _ e2).2⟩
/-- A strict order of n places, and its words. -/
structure Ord (n : Nat) (R : Nat → Nat → Bool) (Pf Sf : Nat → Nat) : Prop where
  n64 : n ≤ 64
  inn : ∀ a b, R a b = true → a < n ∧ b < n
  irr : ∀ a, R a a = false
  tr : ∀ a b c, R a b = true → R b c = true → R a c = true
  suc : ∀ a, a < n → ∀ b, (Sf a).testBit b = R a b
  pre : ∀ b, b < n → ∀ a, (Pf b).testBit a = R a b
theorem small_of_bits {x n : Nat} (h : ∀ i, x.testBit i = true → i < n) : x < 2 ^ n :=
  Nat.lt_pow_two_of_testBit x fun i hi => by
    cases e : x.testBit i with
    | false => rfl
    | true => have := h i e; omega
theorem small64 {x n : Nat} (hn : n ≤ 64) (h : ∀ i, x.testBit i = true → i < n) : x < 18446744073709551616 :=
  Nat.lt_of_lt_of_le (small_of_bits h) (show 2 ^ n ≤ 2 ^ 64 from Nat.pow_le_pow_right (by decide) hn)
section
variable {n : Nat} {R : Nat → Nat → Bool} {Pf Sf : Nat → Nat}
theorem Ord.pre_lt (h : Ord n R Pf Sf) {b : Nat} (hb : b < n) : Pf b < 18446744073709551616 := small64 h.n64 fun i hi => (h.inn i b (by rw [← h.pre b hb]; exact hi)).1
theorem Ord.suc_lt (h : Ord n R Pf Sf) {a : Nat} (ha : a < n) : Sf a < 18446744073709551616 := small64 h.n64 fun i hi => (h.inn a i (by rw [← h.suc a ha]; exact hi)).2
end
/-- a is all within b, by words. -/
theorem sub_bits {a b : Nat} (ha : a < 18446744073709551616) (hb : b < 18446744073709551616) : ((a &&& (18446744073709551615 - b)) == 0) = true ↔ ∀ i, a.testBit i = true → b.testBit i = true := by
  have hbit : ∀ i, i < 64 → (18446744073709551615 - b).testBit i = !b.testBit i := fun i hi => by
    have e : 18446744073709551615 - b = 2 ^ 64 - (b + 1) := by omega
    rw [e, Nat.testBit_two_pow_sub_succ (show b < 2 ^ 64 from hb)]
    simp [hi]
  rw [beq_iff_eq]
  constructor
  · intro h i hi
    have h64 : i < 64 := by
      rcases Nat.lt_or_ge i 64 with h | h
      · exact h
      · rw [Nat.testBit_lt_two_pow (Nat.lt_of_lt_of_le (show a < 2 ^ 64 from ha) (Nat.pow_le_pow_right (by decide) h))] at hi; cases hi
    have := congrArg (fun x => x.testBit i) h
    simp only [Nat.testBit_and, hi, hbit i h64, Bool.true_and, Nat.zero_testBit] at this
    simpa using this
  · intro h
    apply Nat.eq_of_testBit_eq
    intro i
    rw [Nat.testBit_and, Nat.zero_testBit]
    by_cases h64 : i < 64
    · rw [hbit i h64]
      cases e : a.testBit i with
      | false => rfl
      | true => rw [h i e]; rfl
    · rw [Nat.testBit_lt_two_pow (Nat.lt_of_lt_of_le (show a < 2 ^ 64 from ha) (Nat.pow_le_pow_right (by decide) (by omega)))]; rfl
/-- May a come next? -/
def rdy (n : Nat) (R : Nat → Nat → Bool) (d a : Nat) : Prop := a < n ∧ d.testBit a = false ∧ ∀ b, R b a = true → d.testBit b = true
/-- Is all that comes ahead in it? -/
def isDown (n : Nat) (R : Nat → Nat → Bool) (d : Nat) : Prop := (∀ a, d.testBit a = true → a < n) ∧ ∀ a b, d.testBit a = true → R b a = true → d.testBit b = true
theorem Ord.some_ready {n : Nat} {R : Nat → Nat → Bool} {Pf Sf : Nat → Nat} (h : Ord n R Pf Sf) {d : Nat} : ∀ (m a : Nat), Pf a ≤ m → a < n → d.testBit a = false → ∃ b, rdy n R d b := by
  intro m
  induction m with
  | zero =>
    intro a hm ha hd
    refine ⟨a, ha, hd, fun b hb => ?_⟩
    rw [← h.pre a ha, show Pf a = 0 by omega, Nat.zero_testBit] at hb
    cases hb
  | succ m ih =>
    intro a hm ha hd
    by_cases hall : ∀ b, R b a = true → d.testBit b = true
    · exact ⟨a, ha, hd, hall⟩
    · obtain ⟨b, hb⟩ := Classical.not_forall.1 hall
      obtain ⟨hb1, hb2⟩ := Classical.not_imp.1 hb
      have hbn := (h.inn b a hb1).1
      refine ih b ?_ hbn (by simpa using hb2)
      have hor : Pf b ||| Pf a = Pf a := by
        apply Nat.eq_of_testBit_eq
        intro i
        rw [Nat.testBit_or, h.pre b hbn, h.pre a ha]
        cases e : R i b with
        | false => rfl
        | true => rw [h.tr i b a e hb1]; rfl
      have hle : Pf b ≤ Pf a := by rw [← hor]; exact Nat.left_le_or
      have hne : Pf b ≠ Pf a := fun e => by
        have h1 := h.pre b hbn b
        rw [e, h.pre a ha, hb1, h.irr] at h1
        cases h1
      omega
/-- How many of the first n places are in d. -/
def cnt (n d : Nat) : Nat := (List.range n).countP fun i => d.testBit i
theorem cnt_full {n d : Nat} (h : cnt n d = n) : ∀ a, a < n → d.testBit a = true := fun a ha => by
  have h2 := (List.countP_eq_length (l := List.range n) (p := fun i => d.testBit i)).1 (by rw [List.length_range]; exact h)
  exact h2 a (List.mem_range.2 ha)
theorem cnt_some {n d : Nat} (h : cnt n d < n) : ∃ a, a < n ∧ d.testBit a = false := by
  apply Classical.byContradiction
  intro hc
  have : cnt n d = n := by
    have h2 := (List.countP_eq_length (l := List.range n) (p := fun i => d.testBit i)).2 (fun a ha => by
      cases e : d.testBit a with
      | true => rfl
      | false => exact absurd ⟨a, List.mem_range.1 ha, e⟩ hc)
    rwa [List.length_range] at h2
  omega
theorem cnt_zero (n : Nat) : cnt n 0 = 0 := by
  unfold cnt
  rw [List.countP_eq_zero]
  intro a _
  simp
theorem cnt_add : ∀ (n d a : Nat), d.testBit a = false → cnt n (d ||| 2 ^ a) = cnt n d + (if a < n then 1 else 0)
  | 0, d, a, _ => rfl
  | n + 1, d, a, h => by
    have ih := cnt_add n d a h
    unfold cnt at *
    rw [List.range_succ, List.countP_append, List.countP_append, ih, List.countP_singleton, List.countP_singleton, Nat.testBit_or, Nat.testBit_two_pow]
    by_cases e : a = n
    · subst e
      simp [h]
    · by_cases hl : a < n
      · have : a < n + 1 := by omega
        simp [e, hl, this]; omega
      · have : ¬ a < n + 1 := by omega
        simp [e, hl, this]
end Go.Proofs.YtahfobbiaimoiaaGreatDoor.O
namespace Go.Proofs.YtahfobbiaimoiaaGreatDoor

/-- In how many ways a row goes on by l numbers, where b blocks are there. -/
def ways : Nat → Nat → Nat
  | 0, _ => 1
  | l + 1, b => b * ways l b + ways l (b + 1)
/-- The blocks that are there behind a row. -/
def blks (b : Nat) (l : List Nat) : Nat := l.foldl (fun b x => max b (x + 1)) b
def Leg : Nat → List Nat → Prop
  | _, [] => True
  | b, x :: r => x ≤ b ∧ Leg (max b (x + 1)) r
/-- How many stand ahead. -/
def rk : Nat → List Nat → Nat
  | _, [] => 0
  | b, x :: r => x * ways r.length b + rk (max b (x + 1)) r
/-- The row of a rank. -/
def rowAt : Nat → Nat → Nat → List Nat
  | 0, _, _ => []
  | n + 1, b, r => min (r / ways n b) b :: rowAt n (max b (min (r / ways n b) b + 1)) (r - min (r / ways n b) b * ways n b)
/-- Each number is the greatest that it may be. -/
def Full : Nat → List Nat → Prop
  | _, [] => True
  | b, x :: r => x = b ∧ Full (b + 1) r

theorem ways_pos (l b : Nat) : 0 < ways l b := by
  induction l generalizing b with
  | zero => simp [ways]
  | succ l ih => have := ih (b + 1); rw [ways]; omega
theorem ways_up (l b : Nat) : ways l (b + 1) ≤ ways (l + 1) b := by rw [ways]; omega
theorem ways_le (l b : Nat) : ways l b ≤ ways (l + b) 0 := by
  induction b generalizing l with
  | zero => exact Nat.le_refl _
  | succ b ih => exact Nat.le_trans (ways_up l b) (by have := ih (l + 1); rwa [show l + 1 + b = l + (b + 1) by omega] at this)
theorem ways_more (l b : Nat) : ways l b ≤ ways l (b + 1) := by
  induction l generalizing b with
  | zero => simp [ways]
  | succ l ih =>
    rw [ways, ways]
    have h1 := ih b
    have h2 := ih (b + 1)
    have : b * ways l b ≤ (b + 1) * ways l (b + 1) := Nat.mul_le_mul (by omega) h1
    omega
theorem ways_long (l b : Nat) : ways l b ≤ ways (l + 1) b := Nat.le_trans (ways_more l b) (ways_up l b)
theorem ways_mono {l m : Nat} (h : l ≤ m) (b : Nat) : ways l b ≤ ways m b := by
  induction m with
  | zero =>
    have e : l = 0 := by omega
    subst e; exact Nat.le_refl _
  | succ m ih =>
    rcases Nat.lt_or_ge m l with h1 | h1
    · have e : l = m + 1 := by omega
      subst e; exact Nat.le_refl _
    · exact Nat.le_trans (ih h1) (ways_long m b)
theorem ways_small {l b : Nat} (h : l + b ≤ 25) : ways l b ≤ 4638590332229999353 :=
  Nat.le_trans (ways_le l b) (Nat.le_trans (ways_mono h 0) (by decide +kernel))
theorem mul_ways {x l b : Nat} (h : x ≤ b) : x * ways l b ≤ ways (l + 1) b := by
  have := Nat.mul_le_mul_right (ways l b) h
  rw [ways]; omega

theorem rk_lt {b : Nat} {a : List Nat} (h : Leg b a) : rk b a < ways a.length b := by
  induction a generalizing b with
  | nil => simp [rk, ways]
  | cons x r ih =>
    obtain ⟨h1, h2⟩ := h
    have := ih h2
    rw [rk, List.length_cons, ways]
    rcases Nat.lt_or_ge x b with hx | hx
    · rw [Nat.max_eq_left (by omega)] at this ⊢
      have h3 : (x + 1) * ways r.length b ≤ b * ways r.length b := Nat.mul_le_mul_right _ hx
      rw [Nat.add_mul, Nat.one_mul] at h3
      omega
    · obtain rfl : x = b := by omega
      rw [Nat.max_eq_right (by omega)] at this ⊢
      omega
theorem at_rk {b : Nat} {a : List Nat} (h : Leg b a) : rowAt a.length b (rk b a) = a := by
  induction a generalizing b with
  | nil => rfl
  | cons x r ih =>
    obtain ⟨h1, h2⟩ := h
    have hlt := rk_lt h2
    have hp := ways_pos r.length b
    have e : min (rk b (x :: r) / ways r.length b) b = x := by
      rw [rk]
      rcases Nat.lt_or_ge x b with hx | hx
      · rw [Nat.max_eq_left (by omega)] at hlt ⊢
        rw [Nat.mul_comm, Nat.mul_add_div hp, Nat.div_eq_of_lt hlt]
        omega
      · obtain rfl : x = b := by omega
        rw [Nat.mul_comm, Nat.mul_add_div hp]
        exact Nat.min_eq_right (Nat.le_add_right _ _)
    rw [List.length_cons, rowAt, e]
    congr 1
    rw [rk, Nat.add_sub_cancel_left]
    exact ih h2
theorem rk_full {b : Nat} {a : List Nat} (h : Full b a) : rk b a + 1 = ways a.length b := by
  induction a generalizing b with
  | nil => simp [rk, ways]
  | cons x r ih =>
    obtain ⟨rfl, h2⟩ := h
    have := ih h2
    rw [rk, List.length_cons, ways, Nat.max_eq_right (by omega)]
    omega
theorem rk_zeros (b n : Nat) (h : 1 ≤ b) : rk b (List.replicate n 0) = 0 := by
  induction n with
  | zero => rfl
  | succ n ih => rw [List.replicate_succ, rk, Nat.max_eq_left h, ih]; omega
theorem rk_app (b : Nat) (p t t' : List Nat) (h : t.length = t'.length) : rk b (p ++ t) + rk (blks b p) t' = rk b (p ++ t') + rk (blks b p) t := by
  induction p generalizing b with
  | nil => simp [blks]; omega
  | cons x p ih =>
    have := ih (max b (x + 1))
    rw [List.cons_append, List.cons_append, rk, rk, List.length_append, List.length_append, h]
    rw [show blks b (x :: p) = blks (max b (x + 1)) p from rfl]
    omega
/-- The next row: one more at the last place that can have more, zeros behind it. -/
theorem rk_next {p t : List Nat} {x : Nat} (hx : x < blks 0 p) (ht : Full (blks 0 p) t) : rk 0 (p ++ (x + 1) :: List.replicate t.length 0) = rk 0 (p ++ x :: t) + 1 := by
  have h := rk_app 0 p (x :: t) ((x + 1) :: List.replicate t.length 0) (by simp)
  have h1 := rk_full ht
  have e1 : rk (blks 0 p) (x :: t) = x * ways t.length (blks 0 p) + rk (blks 0 p) t := by rw [rk, Nat.max_eq_left (by omega)]
  have e2 : rk (blks 0 p) ((x + 1) :: List.replicate t.length 0) = (x + 1) * ways t.length (blks 0 p) := by
    rw [rk, List.length_replicate, rk_zeros _ _ (by omega)]; omega
  rw [e1, e2, Nat.add_mul, Nat.one_mul] at h
  omega
theorem blks_app (b : Nat) (p t : List Nat) : blks b (p ++ t) = blks (blks b p) t := by simp [blks]
theorem blks_le (b : Nat) (p : List Nat) : b ≤ blks b p := by
  induction p generalizing b with
  | nil => exact Nat.le_refl _
  | cons x p ih => exact Nat.le_trans (Nat.le_max_left b (x + 1)) (ih _)
theorem Leg.app {b : Nat} {p t : List Nat} : Leg b (p ++ t) ↔ Leg b p ∧ Leg (blks b p) t := by
  induction p generalizing b with
  | nil => simp [Leg, blks]
  | cons x p ih =>
    rw [List.cons_append, Leg, Leg, ih, show blks b (x :: p) = blks (max b (x + 1)) p from rfl]
    exact ⟨fun ⟨a, b, c⟩ => ⟨⟨a, b⟩, c⟩, fun ⟨⟨a, b⟩, c⟩ => ⟨a, b, c⟩⟩
theorem blks_leg {b : Nat} {p : List Nat} (h : Leg b p) : blks b p ≤ b + p.length := by
  induction p generalizing b with
  | nil => exact Nat.le_refl _
  | cons x p ih =>
    have := ih h.2
    have h1 := h.1
    rw [show blks b (x :: p) = blks (max b (x + 1)) p from rfl, List.length_cons]
    omega
/-- Every number is below the blocks that are there behind. -/
theorem lt_blks {b : Nat} {p : List Nat} {x : Nat} (h : x ∈ p) : x < blks b p := by
  induction p generalizing b with
  | nil => cases h
  | cons y p ih =>
    rcases List.mem_cons.1 h with rfl | h
    · exact Nat.lt_of_lt_of_le (by omega) (blks_le (max b (x + 1)) p)
    · exact ih h
theorem Leg.zeros (b n : Nat) : Leg b (List.replicate n 0) := by
  induction n generalizing b with
  | zero => trivial
  | succ n ih => exact ⟨by omega, ih _⟩
theorem Leg.next {p t : List Nat} {x : Nat} (h : Leg 0 (p ++ x :: t)) (hx : x < blks 0 p) (n : Nat) : Leg 0 (p ++ (x + 1) :: List.replicate n 0) :=
  Leg.app.2 ⟨(Leg.app.1 h).1, by omega, Leg.zeros _ _⟩
/-- A row that is full from some place on: what the scan from the end knows. -/
theorem Full.cons {b x : Nat} {t : List Nat} (hx : x = b) (h : Full (b + 1) t) : Full b (x :: t) := ⟨hx, h⟩
/-- b, b + 1 and so on. -/
def ups (b n : Nat) : List Nat := (List.range n).map (b + ·)
theorem full_ups {b : Nat} {t : List Nat} (h : Full b t) : t = ups b t.length := by
  induction t generalizing b with
  | nil => rfl
  | cons x t ih =>
    obtain ⟨rfl, h⟩ := h
    have := ih h
    unfold ups at this ⊢
    rw [List.length_cons, List.range_succ_eq_map, List.map_cons, List.map_map, Nat.add_zero]
    congr 1
    rw [this]
    simp
    intro k _
    omega
end Go.Proofs.YtahfobbiaimoiaaGreatDoor
