/- Texts as tokens: plain facts. -/
import Derived.Test.YtghodeggobgclaaRows
namespace Go.Proofs.Ytghodeggobgclaa
def isLet (c : UInt8) : Bool := decide (97 ≤ c.toNat ∧ c.toNat ≤ 122)
def isDig (c : UInt8) : Bool := decide (48 ≤ c.toNat ∧ c.toNat ≤ 57)
def isIn (c : UInt8) : Bool := isLet c || (isDig c || decide (c = 45))
def isMk (c : UInt8) : Bool := decide (c ∈ [44, 58, 60, 62, 61, 40, 41])
def isBl (c : UInt8) : Bool := decide (c = 32 ∨ c = 9)
def isRm (c : UInt8) : Bool := decide (c = 35)
def isEnd (c : UInt8) : Bool := decide (c = 10)
def inLn (c : UInt8) : Bool := !isEnd c
/-- A token: its kind, text, number and place. -/
structure Tok where
  kind : Int
  text : List UInt8
  num : Int
  line : Int
  col : Int
  deriving DecidableEq
/-- Is the last line ended? -/
def endd (l : List Tok) : Bool := match l.getLast? with | none => true | some t => decide (t.kind = 4)
/-- The number that digits say. -/
def valu (l : List UInt8) : Nat := l.foldl (fun v c => v * 10 + (c.toNat - 48)) 0
/-- How many bytes are of the kind, from the first on. -/
def len (p : UInt8 → Bool) (l : List UInt8) : Nat := (l.takeWhile p).length
/-- The token with which a text begins: an error, or kind, bytes, number. -/
def cutT (t : List UInt8) : Except Int (Int × Nat × Int) :=
  match t with
  | [] => .error 3
  | c :: _ =>
    if isLet c then (if 24 < len isIn t then .error 4 else .ok (1, len isIn t, 0))
    else if isDig c then
      (if 9 < len isDig t ∨ (1 < len isDig t ∧ c = 48) then .error 3
       else if ((t.drop (len isDig t)).head?.any isIn) then .error 3
       else .ok (2, len isDig t, valu (t.take (len isDig t))))
    else if isMk c then .ok (3, 1, 0)
    else .error 3
theorem len_le (p : UInt8 → Bool) (l : List UInt8) : len p l ≤ l.length := by
  unfold len
  exact (List.takeWhile_sublist p).length_le
theorem len_cons_true {p : UInt8 → Bool} {c : UInt8} {l : List UInt8} (h : p c = true) : len p (c :: l) = len p l + 1 := by
  simp [len, h]
theorem len_cons_false {p : UInt8 → Bool} {c : UInt8} {l : List UInt8} (h : p c = false) : len p (c :: l) = 0 := by
  simp [len, h]
theorem isIn_let {c : UInt8} (h : isLet c = true) : isIn c = true := by simp [isIn, h]
theorem isIn_dig {c : UInt8} (h : isDig c = true) : isIn c = true := by simp [isIn, h]
theorem cut_pos {t : List UInt8} {k : Int} {n : Nat} {v : Int} (h : cutT t = .ok (k, n, v)) : 0 < n ∧ n ≤ t.length := by
  unfold cutT at h
  cases t with
  | nil => cases h
  | cons c r =>
    simp only at h
    split at h
    · rename_i hl
      split at h
      · cases h
      · cases h
        exact ⟨by rw [len_cons_true (isIn_let hl)]; omega, len_le _ _⟩
    · split at h
      · rename_i hd
        split at h
        · cases h
        · split at h
          · cases h
          · cases h
            exact ⟨by rw [len_cons_true hd]; omega, len_le _ _⟩
      · split at h
        · cases h; simp
        · cases h
/-- A scan's answer: tokens, or a fault. -/
abbrev Res := Except (Int × Int × Int) (List Tok)
/-- A line's end, where it has tokens. -/
def endL (toks : List Tok) (line col : Int) : List Tok := if endd toks then toks else toks ++ [⟨4, [], 0, line, col⟩]
/-- The scan from a place on. -/
def scanW (t : List UInt8) (line col : Nat) (toks : List Tok) : Res :=
  match t with
  | [] => .ok (endL toks line col)
  | c :: r =>
    if isBl c then scanW r line (col + 1) toks
    else if isRm c then scanW (r.drop (len inLn r)) line (col + 1 + len inLn r) toks
    else if isEnd c then scanW r (line + 1) 1 (endL toks line col)
    else match cutT (c :: r) with
      | .error e => .error (e, line, col)
      | .ok (k, n, v) => scanW (r.drop (n - 1)) line (col + n) (toks ++ [⟨k, (c :: r).take n, v, line, col⟩])
  termination_by t.length
  decreasing_by all_goals (simp_wf; try omega)
theorem scan_nil (line col : Nat) (toks : List Tok) : scanW [] line col toks = .ok (endL toks line col) := by rw [scanW]
theorem scan_bl {c : UInt8} (h : isBl c = true) (r : List UInt8) (line col : Nat) (toks : List Tok) : scanW (c :: r) line col toks = scanW r line (col + 1) toks := by rw [scanW]; simp [h]
theorem scan_rm {c : UInt8} (hb : isBl c = false) (h : isRm c = true) (r : List UInt8) (line col : Nat) (toks : List Tok) : scanW (c :: r) line col toks = scanW (r.drop (len inLn r)) line (col + 1 + len inLn r) toks := by rw [scanW]; simp [h, hb]
theorem scan_end {c : UInt8} (hb : isBl c = false) (hr : isRm c = false) (h : isEnd c = true) (r : List UInt8) (line col : Nat) (toks : List Tok) : scanW (c :: r) line col toks = scanW r (line + 1) 1 (endL toks line col) := by rw [scanW]; simp [h, hb, hr]
theorem scan_err {c : UInt8} (hb : isBl c = false) (hr : isRm c = false) (he : isEnd c = false) {r : List UInt8} {e : Int} (h : cutT (c :: r) = .error e) (line col : Nat) (toks : List Tok) : scanW (c :: r) line col toks = .error (e, line, col) := by
  rw [scanW]; simp [hb, hr, he, h]
theorem scan_cut {c : UInt8} (hb : isBl c = false) (hr : isRm c = false) (he : isEnd c = false) {r : List UInt8} {k : Int} {n : Nat} {v : Int} (h : cutT (c :: r) = .ok (k, n, v)) (line col : Nat) (toks : List Tok) : scanW (c :: r) line col toks = scanW ((c :: r).drop n) line (col + n) (toks ++ [⟨k, (c :: r).take n, v, line, col⟩]) := by
  have hp := (cut_pos h).1
  obtain ⟨m, rfl⟩ : ∃ m, n = m + 1 := ⟨n - 1, by omega⟩
  rw [scanW]; simp [hb, hr, he, h]
/-- The whole scan. -/
def scanT (T : List UInt8) : Res := if 65536 < T.length then .error (2, 0, 0) else scanW T 1 1 []
/-- A name? -/
def legalT (T : List UInt8) : Bool := match T with | [] => false | c :: _ => decide (T.length ≤ 24) && isLet c && T.all isIn
end Go.Proofs.Ytghodeggobgclaa
