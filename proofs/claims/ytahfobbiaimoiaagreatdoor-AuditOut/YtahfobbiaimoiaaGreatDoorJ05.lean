/- Rows of words: plain facts on turns by words. -/
import Derived.Test.YtahfobbiaimoiaaGreatDoorJ01
import Derived.Test.YtahfobbiaimoiaaGreatDoorJ03
import Derived.OwnWalk
namespace Go.Proofs.YtahfobbiaimoiaaGreatDoor.O
open Go.RowKit
/-- The cells of n words. -/
def words (n : Nat) (F : Nat → Nat) : List Value := (List.range n).map fun i => Value.int .u64 (F i : Int)
theorem words_len (n : Nat) (F : Nat → Nat) : (words n F).length = n := by simp [words]
theorem words_at {n i : Nat} (F : Nat → Nat) (h : i < n) : (words n F)[i]? = some (.int .u64 (F i : Int)) := by simp [words, h]
theorem words_congr {n : Nat} {F G : Nat → Nat} (h : ∀ i, i < n → F i = G i) : words n F = words n G := by
  unfold words
  exact List.map_congr_left fun i hi => by rw [h i (List.mem_range.1 hi)]
theorem words_set {n a : Nat} {F G : Nat → Nat} {v : Nat} (ha : G a = v) (h : ∀ i, i < n → i ≠ a → F i = G i) : (words n F).set a (.int .u64 (v : Int)) = words n G := by
  apply List.ext_getElem?
  intro i
  rw [List.getElem?_set, words_len]
  by_cases e : a = i
  · subst e
    rw [if_pos rfl]
    by_cases hl : a < n
    · rw [if_pos hl, words_at G hl, ha]
    · rw [if_neg hl, List.getElem?_eq_none (by rw [words_len]; omega)]
  · rw [if_neg e]
    by_cases hl : i < n
    · rw [words_at F hl, words_at G hl, h i hl (Ne.symm e)]
    · rw [List.getElem?_eq_none (by rw [words_len]; omega), List.getElem?_eq_none (by rw [words_len]; omega)]
/-- One turn, by words. -/
def wturn (k : Nat) (F : Nat → Nat) : Nat → Nat := fun a => if (F a).testBit k = true then F a ||| F k else F a
/-- The turns of all places below m, by words. -/
def wclo : Nat → (Nat → Nat) → (Nat → Nat)
  | 0, F => F
  | m + 1, F => wturn m (wclo m F)
/-- A turn under way: the rows below a have had theirs. -/
def wmid (k a : Nat) (F : Nat → Nat) : Nat → Nat := fun i => if i < a then wturn k F i else F i
theorem wturn_self (k : Nat) (F : Nat → Nat) : wturn k F k = F k := by
  unfold wturn; split
  · exact Nat.or_self _
  · rfl
theorem wmid_zero (k : Nat) (F : Nat → Nat) (i : Nat) : wmid k 0 F i = F i := by simp [wmid]
theorem wmid_here (k a : Nat) (F : Nat → Nat) : wmid k a F a = F a := by simp [wmid]
theorem wmid_mid (k a : Nat) (F : Nat → Nat) : wmid k a F k = F k := by
  unfold wmid; split
  · exact wturn_self k F
  · rfl
theorem wmid_end {k n : Nat} (F : Nat → Nat) {i : Nat} (h : i < n) : wmid k n F i = wturn k F i := by simp [wmid, h]
theorem wmid_next {k a : Nat} (F : Nat → Nat) {i : Nat} (h : i ≠ a) : wmid k a F i = wmid k (a + 1) F i := by
  unfold wmid
  by_cases h1 : i < a
  · rw [if_pos h1, if_pos (by omega)]
  · rw [if_neg h1, if_neg (by omega)]
theorem wmid_done (k a : Nat) (F : Nat → Nat) : wmid k (a + 1) F a = wturn k F a := by simp [wmid]
theorem wclo_lt {n : Nat} {F : Nat → Nat} (h : ∀ i, i < n → F i < 18446744073709551616) : ∀ m, m ≤ n → ∀ i, i < n → wclo m F i < 18446744073709551616
  | 0, _, i, hi => h i hi
  | m + 1, hm, i, hi => by
    have ih := wclo_lt h m (by omega)
    show wturn m (wclo m F) i < _
    unfold wturn
    split
    · exact Nat.or_lt_two_pow (n := 64) (ih i hi) (ih m (by omega))
    · exact ih i hi
/-- The turns by words are the turns. -/
theorem wclo_bits {n : Nat} {R : Nat → Nat → Bool} {F : Nat → Nat} (h : ∀ a, a < n → ∀ b, (F a).testBit b = R a b) : ∀ m, m ≤ n → ∀ a, a < n → ∀ b, (wclo m F a).testBit b = clo m R a b
  | 0, _, a, ha, b => h a ha b
  | m + 1, hm, a, ha, b => by
    have ih := wclo_bits h m (by omega)
    show (wturn m (wclo m F) a).testBit b = turn m (clo m R) a b
    unfold wturn turn
    rw [ih a ha m]
    cases hc : clo m R a m with
    | true => rw [if_pos rfl, Nat.testBit_or, ih a ha b, ih m (by omega) b]; simp
    | false => rw [if_neg (by simp), ih a ha b]; simp
theorem grown_trans {A B C : World} {row : Option Nat} (h : A.grownBy B row) (k : B.grownBy C row) : A.grownBy C row :=
  ⟨k.os.trans h.os, k.tape.trans h.tape, k.output.trans h.output, Nat.le_trans h.size k.size, fun i hi hne => (k.block i (Nat.lt_of_lt_of_le hi h.size) hne).trans (h.block i hi hne)⟩
theorem grown_refl (A : World) (row : Option Nat) : A.grownBy A row := ⟨rfl, rfl, rfl, Nat.le_refl _, fun _ _ _ => rfl⟩
theorem grown_below {A B : World} (row : Option Nat) (h : Below A.heap.size A B) : A.grownBy B row := ⟨h.os, h.tape, h.output, h.size, fun k hk _ => h.block k hk⟩
theorem grown_drew (A : World) (row : Option Nat) : A.grownBy A.drew row := ⟨rfl, rfl, rfl, Nat.le_refl _, fun _ _ _ => rfl⟩
theorem grown_cell {A B : World} {r b i : Nat} {v : Value} (h : A.cell? ⟨b, i, none⟩ = some v) (hg : A.grownBy B (some r)) (hb : b < A.heap.size) (hne : b ≠ r) : B.cell? ⟨b, i, none⟩ = some v := by
  rw [World.cell?_of_block (w := A) (hg.block b hb (by simpa using hne))]; exact h
end Go.Proofs.YtahfobbiaimoiaaGreatDoor.O
