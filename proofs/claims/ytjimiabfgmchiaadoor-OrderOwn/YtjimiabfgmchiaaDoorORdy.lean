/- ahead, Ready, Down: what they answer. -/
import Derived.Test.YtjimiabfgmchiaaDoorOFn
import Derived.Test.YtjimiabfgmchiaaDoorAllMem
namespace Go.Proofs.YtjimiabfgmchiaaDoor
open Go.RowKit Go.Shelf
attribute [local go_sem] Oper.semAt_some
/-- All of F over a row of numbers, or-ed. -/
def orAll (F : Nat → Nat) (l : List (Fin 64)) : Nat := l.foldl (fun acc k => acc ||| F k.val) 0
theorem orAll_snoc (F : Nat → Nat) (l : List (Fin 64)) (k : Fin 64) : orAll F (l ++ [k]) = orAll F l ||| F k.val := by simp [orAll]
theorem orAll_lt {F : Nat → Nat} : ∀ {l : List (Fin 64)}, (∀ k ∈ l, F k.val < 18446744073709551616) → orAll F l < 18446744073709551616 := by
  intro l
  unfold orAll
  suffices h : ∀ acc, acc < 18446744073709551616 → (∀ k ∈ l, F k.val < 18446744073709551616) → l.foldl (fun acc k => acc ||| F k.val) acc < 18446744073709551616 from h 0 (by decide)
  induction l with
  | nil => intro acc h _; exact h
  | cons a l ih => intro acc h h2; exact ih _ (Nat.or_lt_two_pow (n := 64) h (h2 a (by simp))) fun k hk => h2 k (by simp [hk])
theorem keepsO {W w1 : World} (h : Below W.heap.size W w1) : KeepsOthers W w1 :=
  ⟨h.size, fun k _ hk _ => (h.block k (Array.getElem?_eq_some_iff.1 hk).1).trans hk⟩
theorem bxb {W W' : World} {b n : Nat} {t : TypeId} {v : Value} (h : Boxed W b t v) (hb : Below n W W') (hn : b < n) : Boxed W' b t v := (hb.block b hn).trans h
section
variable {go gp gs n : Nat} {Pf Sf : Nat → Nat} {w : World}
end
end Go.Proofs.YtjimiabfgmchiaaDoor
