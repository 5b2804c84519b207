/- A journal's bytes: plain. -/
import Derived.Test.YtmhbidnpfefjpaaDkF
namespace Go.Proofs.Ytmhbidnpfefjpaa
open Go.RowKit
/-- The bytes of a number, the highest first. -/
def b4 (n : Nat) : List Nat := [n / 16777216 % 256, n / 65536 % 256, n / 256 % 256, n % 256]
def b8 (n : Nat) : List Nat := [n / 72057594037927936 % 256, n / 281474976710656 % 256, n / 1099511627776 % 256, n / 4294967296 % 256, n / 16777216 % 256, n / 65536 % 256, n / 256 % 256, n % 256]
def z16 : List Nat := [0, 0, 0, 0, 0, 0, 0, 0, 0, 0, 0, 0, 0, 0, 0, 0]
theorem z16_len : z16.length = 16 := rfl
def headB (b : Nat) : List Nat := 80 :: 74 :: 1 :: 0 :: (b4 b ++ [0, 0, 0, 0, 0, 0, 0, 0])
def titleB (n c : Nat) : List Nat := 80 :: 82 :: 0 :: 0 :: (b4 n ++ b8 c)
theorem headB_len (b : Nat) : (headB b).length = 16 := rfl
theorem titleB_len (n c : Nat) : (titleB n c).length = 16 := rfl
/-- Bytes laid from the last one on. -/
def putL (L : List Nat) (o k n : Nat) : Nat → List Nat
  | 0 => L
  | i + 1 => (putL L o k n i).set (o + (k - 1 - i)) (n / 2 ^ (8 * i) % 256)
theorem putL_len (L : List Nat) (o k n : Nat) : ∀ i, (putL L o k n i).length = L.length
  | 0 => rfl
  | i + 1 => by rw [putL, List.length_set, putL_len L o k n i]
theorem put_head (b : Nat) : putL (80 :: 74 :: 1 :: List.replicate 13 0) 4 4 b 4 = headB b := by
  simp [putL, headB, b4, List.set, List.replicate]
theorem put_title (n c : Nat) : putL (putL (80 :: 82 :: List.replicate 14 0) 4 4 n 4) 8 8 c 8 = titleB n c := by
  simp [putL, titleB, b4, b8, List.set, List.replicate]
/-- The number that bytes are. -/
def numB (l : List Nat) : Nat := l.foldl (fun n b => 256 * n + b) 0
theorem numB_snoc (l : List Nat) (b : Nat) : numB (l ++ [b]) = 256 * numB l + b := by simp [numB]
theorem numB_lt (l : List Nat) (h : ∀ b ∈ l, b < 256) : numB l < 256 ^ l.length := by
  have key : ∀ n, ∀ l : List Nat, l.length = n → (∀ b ∈ l, b < 256) → numB l < 256 ^ n := by
    intro n
    induction n with
    | zero => intro l hl _; rw [List.eq_nil_of_length_eq_zero hl]; decide
    | succ n ih =>
      intro l hl hb
      have hne : l ≠ [] := fun e => by rw [e] at hl; cases hl
      have e : l = l.dropLast ++ [l.getLast hne] := (List.dropLast_concat_getLast hne).symm
      have h1 := ih l.dropLast (by rw [List.length_dropLast]; omega) fun b hb' => hb b (List.dropLast_subset l hb')
      have h2 := hb _ (List.getLast_mem hne)
      rw [e, numB_snoc, Nat.pow_succ]
      omega
  exact key _ l rfl h
/-- What stands in the bytes four to eight of a block. -/
def n48 (P : List Nat) : Nat := numB ((P.drop 4).take 4)
theorem n48_lt {P : List Nat} (h : ∀ b ∈ P, b < 256) (hP : P.length = 16) : n48 P < 4294967296 := by
  have h1 := numB_lt ((P.drop 4).take 4) fun b hb => h b (List.mem_of_mem_drop (List.mem_of_mem_take hb))
  rw [List.length_take, List.length_drop, hP] at h1
  exact h1
theorem n48_head {b : Nat} (h : b < 4294967296) : n48 (headB b) = b := by
  simp [n48, headB, b4, numB]
  omega
theorem n48_title {n c : Nat} (h : n < 4294967296) : n48 (titleB n c) = n := by
  simp [n48, titleB, b4, numB]
  omega
theorem head_ne (b : Nat) : headB b ≠ z16 := by simp [headB, z16]
theorem title_ne (n c : Nat) : titleB n c ≠ z16 := by simp [titleB, z16]
/-- How many blocks so many bytes have. -/
def spn (m : Nat) : Nat := (m + 15) / 16
/-- A block of a record. -/
def pieceB (R : List Nat) (i : Nat) : List Nat := splice z16 0 ((R.drop (16 * i)).take 16)
theorem pieceB_len (R : List Nat) (i : Nat) : (pieceB R i).length = 16 := by
  unfold pieceB
  rw [splice_len (by rw [List.length_take, z16_len]; omega), z16_len]
/-- The record's bytes behind the title at q. -/
def recOf (L : List Nat) (q m : Nat) : List Nat := (L.drop (16 * (q + 1))).take m
def padOk (L : List Nat) (q m : Nat) : Bool := (List.range (spn m)).all fun i => decide (blkB L (q + 1 + i) = pieceB (recOf L q m) i)
/-- The record at q, the next one's number being c + 1. -/
def oneR (L : List Nat) (n q c : Nat) : Option (List Nat) :=
  if n48 (blkB L q) ≤ 131072 ∧ q + 1 + spn (n48 (blkB L q)) < n ∧ blkB L q = titleB (n48 (blkB L q)) (c + 1) ∧ padOk L q (n48 (blkB L q)) = true then some (recOf L q (n48 (blkB L q))) else none
/-- The records from q on, and the end. -/
def prs (L : List Nat) (n : Nat) : Nat → Nat → Nat → Option (List (List Nat) × Nat)
  | 0, _, _ => none
  | f + 1, q, c => if blkB L q = z16 then some ([], q) else match oneR L n q c with
    | none => none
    | some r => match prs L n f (q + 1 + spn r.length) (c + 1) with
      | none => none
      | some (l, p) => some (r :: l, p)
/-- What opening reads: the records, the end, how many openings. -/
def lookR (L : List Nat) (n : Nat) : Option (List (List Nat) × Nat × Nat) :=
  if blkB L 0 = z16 then (if blkB L 1 = z16 then some ([], 1, 0) else none)
  else if blkB L 0 = headB (n48 (blkB L 0)) then match prs L n n 1 0 with
    | none => none
    | some (l, p) => some (l, p, n48 (blkB L 0))
  else none
/-- Writes, while there is power. -/
def wrs (D : Dk) : List (Nat × List Nat) → Dk
  | [] => D
  | (b, P) :: t => if D.power = true then wrs (wrD D b P) t else D
def wrsOk (D : Dk) : List (Nat × List Nat) → Bool
  | [] => true
  | (b, P) :: t => D.power && wrsOk (wrD D b P) t
/-- A journal. -/
structure Jn where
  e : Nat
  c : Nat
  b : Nat
  dn : Bool
def pcW (p : Nat) (R : List Nat) (k : Nat) : List (Nat × List Nat) := (List.range k).map fun i => (p + 1 + i, pieceB R i)
/-- What Append writes. -/
def layW (p c : Nat) (R : List Nat) : List (Nat × List Nat) := pcW p R (spn R.length) ++ [(p + 1 + spn R.length, z16), (p, titleB R.length (c + 1))]
inductive ApK where
  | down | full | cut | done
/-- What becomes of an Append. -/
def apK (n : Nat) (D : Dk) (J : Jn) (R : List Nat) : ApK :=
  if J.dn = true ∨ D.power = false then .down else if n ≤ J.e + 1 + spn R.length then .full else if wrsOk D (layW J.e J.c R) = true then .done else .cut
def apE (n : Nat) (D : Dk) (J : Jn) (R : List Nat) : Int := match apK n D J R with | .down => 50 | .full => 51 | .cut => 50 | .done => 0
def apD (n : Nat) (D : Dk) (J : Jn) (R : List Nat) : Dk := match apK n D J R with | .down => D | .full => D | .cut => wrs D (layW J.e J.c R) | .done => wrs D (layW J.e J.c R)
def apJ (n : Nat) (D : Dk) (J : Jn) (R : List Nat) : Jn := match apK n D J R with | .down => { J with dn := true } | .full => J | .cut => { J with dn := true } | .done => { J with e := J.e + 1 + spn R.length, c := J.c + 1 }
def roomI (n e : Nat) : Int := if n < e + 2 then -1 else min (16 * ((n : Int) - e - 2)) 131072
end Go.Proofs.Ytmhbidnpfefjpaa
