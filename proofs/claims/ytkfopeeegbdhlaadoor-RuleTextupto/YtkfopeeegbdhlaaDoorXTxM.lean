/- A rule's line: plain facts. -/
import Derived.Test.YtkfopeeegbdhlaaDoorRMath
import Derived.Lib.ItoaNum
import Derived.Lib.Join
namespace Go.Proofs.YtkfopeeegbdhlaaDoor
/-- A kind's word. -/
def wdL (kind : Int) : List UInt8 := if kind = 1 then [97, 112, 97, 114, 116] else if kind = 2 then [115, 97, 109, 101] else if kind = 3 then [109, 111, 115, 116] else if kind = 4 then [102, 101, 119] else [109, 97, 110, 121]
/-- What stands ahead of the names. -/
def hdL (kind k : Int) : List UInt8 := wdL kind ++ (if k = 0 then [] else [32] ++ Lib.decDigits k.toNat ++ [32, 111, 102])
def nm (N : List ByteArray) (s : Int) : ByteArray := N[s.toNat]?.getD ⟨#[]⟩
def nmL (N : List ByteArray) (s : Int) : List UInt8 := (nm N s).data.toList
/-- The line. -/
def txtL (N : List ByteArray) (r : Rl) : List UInt8 := hdL r.kind r.k ++ [32] ++ Lib.join (r.steps.map (nmL N)) [44, 32]
/-- The document's line, up to c names. -/
def refL (N : List ByteArray) (r : Rl) (c : Nat) : List UInt8 := hdL r.kind r.k ++ (List.range c).flatMap fun i => (if 0 < i then [44] else []) ++ [32] ++ nmL N (r.steps[i]?.getD 0)
theorem refL_zero (N : List ByteArray) (r : Rl) : refL N r 0 = hdL r.kind r.k := by simp [refL]
theorem refL_succ (N : List ByteArray) (r : Rl) (c : Nat) : refL N r (c + 1) = refL N r c ++ (if 0 < c then [44] else []) ++ [32] ++ nmL N (r.steps[c]?.getD 0) := by
  unfold refL
  rw [List.range_succ, List.flatMap_append]
  simp [List.append_assoc]
theorem join_snoc (x : List UInt8) (l : List (List UInt8)) (y sep : List UInt8) : Lib.join (x :: l ++ [y]) sep = Lib.join (x :: l) sep ++ sep ++ y := by
  induction l generalizing x with
  | nil => simp [Lib.join, List.intercalate, List.intersperse]
  | cons a l ih =>
    have := ih a
    unfold Lib.join List.intercalate at this ⊢
    simp only [List.cons_append, List.intersperse_cons_cons, List.flatten_cons] at this ⊢
    rw [this]
    simp [List.append_assoc]
theorem ref_take (N : List ByteArray) (r : Rl) (c : Nat) (h : c < r.steps.length) : refL N r (c + 1) = hdL r.kind r.k ++ [32] ++ Lib.join ((r.steps.take (c + 1)).map (nmL N)) [44, 32] := by
  induction c with
  | zero =>
    rw [refL_succ, refL_zero]
    cases hs : r.steps with
    | nil => rw [hs] at h; simp at h
    | cons a l => simp [Lib.join, List.intercalate]
  | succ c ih =>
    rw [refL_succ, ih (by omega)]
    obtain ⟨x, hx⟩ : ∃ x, r.steps[c + 1]? = some x := ⟨_, List.getElem?_eq_getElem h⟩
    have e : r.steps.take (c + 1 + 1) = r.steps.take (c + 1) ++ [x] := by
      rw [List.take_add_one, hx]; rfl
    rw [e, List.map_append, hx]
    cases hs : r.steps with
    | nil => rw [hs] at h; simp at h
    | cons a l =>
      simp only [List.take_succ_cons, List.map_cons, List.map_nil]
      rw [join_snoc]
      simp [List.append_assoc]
theorem ref_txt (N : List ByteArray) (r : Rl) (h : 0 < r.steps.length) : refL N r r.steps.length = txtL N r := by
  obtain ⟨c, hc⟩ : ∃ c, r.steps.length = c + 1 := ⟨r.steps.length - 1, by omega⟩
  rw [hc, ref_take N r c (by omega), ← hc, List.take_length]
  rfl
theorem dec_len (u : Nat) : (Lib.decDigits u).length ≤ u + 1 := by
  induction u using Nat.strongRecOn with
  | _ u ih =>
    rw [Lib.decDigits]
    split
    · simp
    · have := ih (u / 10) (by omega)
      rw [List.length_append, List.length_singleton]
      omega
theorem wdL_len (kind : Int) : (wdL kind).length ≤ 5 := by
  unfold wdL
  repeat' split
  all_goals simp
theorem hdL_len (kind k : Int) (h : k ≤ 999999999) : (hdL kind k).length ≤ 1000000010 := by
  unfold hdL
  have h1 := wdL_len kind
  have h2 := dec_len k.toNat
  split
  · simp; omega
  · simp; omega
theorem refL_len (N : List ByteArray) (r : Rl) (hN : ∀ x ∈ N, x.size ≤ 1048576) (hk : r.k ≤ 999999999) (c : Nat) : (refL N r c).length ≤ 1000000010 + c * 1048580 := by
  have hx : ∀ s, (nmL N s).length ≤ 1048576 := fun s => by
    unfold nmL nm
    cases h : N[s.toNat]? with
    | none => exact Nat.zero_le _
    | some x =>
      have h1 := hN x (List.mem_of_getElem? h)
      have h2 : x.data.toList.length = x.size := Array.length_toList
      show x.data.toList.length ≤ _
      omega
  induction c with
  | zero => rw [refL_zero]; have := hdL_len r.kind r.k hk; omega
  | succ c ih =>
    rw [refL_succ]
    have := hx (r.steps[c]?.getD 0)
    have h2 : (if 0 < c then ([44] : List UInt8) else []).length ≤ 1 := by split <;> simp
    simp only [List.length_append, List.length_singleton]
    omega
theorem join_len (l : List (List UInt8)) (hl : ∀ x ∈ l, x.length ≤ 1048576) : (Lib.join l [44, 32]).length ≤ l.length * 1048580 := by
  unfold Lib.join List.intercalate
  induction l with
  | nil => simp
  | cons a l ih =>
    cases l with
    | nil =>
      have := hl a (by simp)
      simp [List.intersperse]
      omega
    | cons b l =>
      have h1 := hl a (by simp)
      have h2 := ih fun x hx => hl x (by simp only [List.mem_cons] at hx ⊢; exact .inr hx)
      simp only [List.intersperse_cons_cons, List.flatten_cons, List.length_append] at h2 ⊢
      simp only [List.length_cons, List.length_nil] at h2 ⊢
      omega
end Go.Proofs.YtkfopeeegbdhlaaDoor
