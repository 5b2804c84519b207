/- Rows of pairs, and what an order of them is. -/
import Derived.Test.YtjimiabfgmchiaaDoorOFollow
namespace Go.Proofs.YtjimiabfgmchiaaDoor
open Go.RowKit Go.Shelf
/-- A row of pairs, as it is read. -/
def PairsAt (W : World) (v : Value) (L : List (Int × Int)) : Prop :=
  ∃ oa cap, v = .slice oa L.length cap ∧ (L.length ≤ cap ∧ (oa = none → cap = 0)) ∧ ∀ (i : Nat) (p : Int × Int), L[i]? = some p → ∃ g o, oa = some ⟨g, o, none⟩ ∧ W.cell? ⟨g, o + i * 2, none⟩ = some (.int .i64 p.1) ∧ W.cell? ⟨g, o + i * 2 + 1, none⟩ = some (.int .i64 p.2)
theorem PairsAt.over {W W' : World} {v : Value} {L : List (Int × Int)} (h : PairsAt W v L) (hb : Below W.heap.size W W') : PairsAt W' v L := by
  obtain ⟨oa, cap, h1, h2, h3⟩ := h
  refine ⟨oa, cap, h1, h2, fun i p hp => ?_⟩
  obtain ⟨g, o, e, c1, c2⟩ := h3 i p hp
  exact ⟨g, o, e, cell_over c1 hb, cell_over c2 hb⟩
/-- Are both places? -/
def okP (n : Int) (p : Int × Int) : Prop := (0 ≤ p.1 ∧ p.1 < n) ∧ (0 ≤ p.2 ∧ p.2 < n)
/-- Can an order be asked for? -/
def goodP (n : Int) (L : List (Int × Int)) : Prop := (0 ≤ n ∧ n ≤ 64) ∧ ∀ p ∈ L, okP n p
/-- What the pairs say. -/
def relL (L : List (Int × Int)) (a b : Nat) : Bool := decide (((a : Int), (b : Int)) ∈ L)
/-- What rows of pairs say. -/
def ordL (n : Nat) (L : List (Int × Int)) : Nat → Nat → Bool := clo n (relL L)
def cycL (n : Nat) (L : List (Int × Int)) : Prop := ∃ a, a < n ∧ ordL n L a a = true
theorem relL_in {n : Nat} {L : List (Int × Int)} (h : ∀ p ∈ L, okP n p) (a b : Nat) (e : relL L a b = true) : a < n ∧ b < n := by
  have := h _ (of_decide_eq_true e)
  unfold okP at this
  simp only [] at this
  omega
theorem ordL_in {n : Nat} {L : List (Int × Int)} (h : ∀ p ∈ L, okP n p) (a b : Nat) (e : ordL n L a b = true) : a < n ∧ b < n := clo_in (relL_in h) n a b e
/-- What the first c pairs lay into the words. -/
def sucP (L : List (Int × Int)) (c a : Nat) : Nat := (L.take c).foldl (fun acc p => if p.1 = (a : Int) then acc ||| 2 ^ p.2.toNat else acc) 0
theorem sucP_zero (L : List (Int × Int)) (a : Nat) : sucP L 0 a = 0 := rfl
theorem take_snocP {α : Type} {l : List α} {c : Nat} {x : α} (h : l[c]? = some x) : l.take (c + 1) = l.take c ++ [x] := by
  rw [List.take_add_one, h]; rfl
theorem sucP_snoc {L : List (Int × Int)} {c : Nat} {p : Int × Int} (h : L[c]? = some p) (a : Nat) : sucP L (c + 1) a = if p.1 = (a : Int) then sucP L c a ||| 2 ^ p.2.toNat else sucP L c a := by
  unfold sucP
  rw [take_snocP h, List.foldl_append]
  rfl
theorem foldP_lt {n : Nat} (hn : n ≤ 64) (a : Nat) : ∀ (l : List (Int × Int)) (acc : Nat), (∀ p ∈ l, okP n p) → acc < 18446744073709551616 → l.foldl (fun acc p => if p.1 = (a : Int) then acc ||| 2 ^ p.2.toNat else acc) acc < 18446744073709551616
  | [], acc, _, h => h
  | p :: l, acc, hl, h => by
    refine foldP_lt hn a l _ (fun q hq => hl q (by simp [hq])) ?_
    have := hl p (by simp)
    unfold okP at this
    dsimp only
    split
    · exact Nat.or_lt_two_pow (n := 64) h (Nat.lt_of_lt_of_le (Nat.pow_lt_pow_right (by decide) (show p.2.toNat < 64 by omega)) (by decide))
    · exact h
theorem sucP_lt {n : Nat} {L : List (Int × Int)} (hn : n ≤ 64) (h : ∀ p ∈ L, okP n p) (c a : Nat) : sucP L c a < 18446744073709551616 :=
  foldP_lt hn a _ 0 (fun p hp => h p (List.mem_of_mem_take hp)) (by decide)
theorem foldP_bits (a b : Nat) : ∀ (l : List (Int × Int)) (acc : Nat), (∀ p ∈ l, 0 ≤ p.2) → (l.foldl (fun acc p => if p.1 = (a : Int) then acc ||| 2 ^ p.2.toNat else acc) acc).testBit b = (acc.testBit b || decide (((a : Int), (b : Int)) ∈ l))
  | [], acc, _ => by simp
  | p :: l, acc, hl => by
    rw [List.foldl_cons, foldP_bits a b l _ (fun q hq => hl q (by simp [hq]))]
    have hp := hl p (by simp)
    obtain ⟨x, y⟩ := p
    simp only [] at hp ⊢
    by_cases e : x = (a : Int)
    · rw [if_pos e, Nat.testBit_or, Nat.testBit_two_pow]
      by_cases e2 : y = (b : Int)
      · subst e e2; simp
      · have : ¬ y.toNat = b := by omega
        have h3 : ¬ (b : Int) = y := fun h => e2 h.symm
        simp [this, h3]
    · have h3 : ¬ (a : Int) = x := fun h => e h.symm
      rw [if_neg e]; simp [h3]
theorem sucP_bits {n : Nat} {L : List (Int × Int)} (h : ∀ p ∈ L, okP n p) (a b : Nat) : (sucP L L.length a).testBit b = relL L a b := by
  unfold sucP
  rw [List.take_length, foldP_bits a b L 0 (fun p hp => (h p hp).2.1), Nat.zero_testBit]
  simp [relL]
end Go.Proofs.YtjimiabfgmchiaaDoor
