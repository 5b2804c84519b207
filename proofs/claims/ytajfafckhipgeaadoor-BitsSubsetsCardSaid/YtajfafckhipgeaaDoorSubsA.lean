/- The subsets of a set, rising by their words: plain lists; Subsets makes a function. -/
import Derived.Test.YtajfafckhipgeaaDoorNest
import Derived.Test.YtajfafckhipgeaaDoorTwo
namespace Go.Proofs.YtajfafckhipgeaaDoor
open Go.RowKit Go.Shelf
attribute [local go_sem] Oper.semAt_some
/-- A word of 64 bits. -/
def W64 : Type := { t : Nat // t < 18446744073709551616 }
def bitW (j : Fin 64) : W64 := ⟨2 ^ j.val, Nat.lt_of_lt_of_le (Nat.pow_lt_pow_right (by decide) j.isLt) (by decide)⟩
def orW (a b : W64) : W64 := ⟨a.1 ||| b.1, Nat.or_lt_two_pow (n := 64) a.2 b.2⟩
/-- A set, and with one number more. -/
def twoW (j : Fin 64) (t : W64) : List W64 := [t, orW t (bitW j)]
/-- The subsets of the numbers of a list. -/
def subsL : List (Fin 64) → List W64
  | [] => [⟨0, by decide⟩]
  | j :: r => (subsL r).flatMap (twoW j)
def encW (t : W64) : Array Value := #[.agg #[.int .u64 (t.1 : Int)]]
theorem flat_len (j : Fin 64) (l : List W64) : (l.flatMap (twoW j)).length = 2 * l.length := by
  induction l with
  | nil => rfl
  | cons a l ih => simp [twoW] at ih ⊢; omega
theorem flat_snoc (j : Fin 64) (l : List W64) (t : W64) : (l ++ [t]).flatMap (twoW j) = l.flatMap (twoW j) ++ [t] ++ [orW t (bitW j)] := by
  simp [twoW]
theorem flat_prefix (j : Fin 64) {l m : List W64} (h : l <+: m) : l.flatMap (twoW j) <+: m.flatMap (twoW j) := by
  obtain ⟨r, rfl⟩ := h
  exact ⟨r.flatMap (twoW j), by simp⟩
theorem subs_len : ∀ l : List (Fin 64), (subsL l).length = 2 ^ l.length
  | [] => rfl
  | j :: r => by
    show ((subsL r).flatMap (twoW j)).length = _
    rw [flat_len, subs_len r, List.length_cons, Nat.pow_succ, Nat.mul_comm]
theorem nums_rest {x : Nat} {j : Fin 64} {r : List (Fin 64)} (h : nums x = j :: r) : nums (x &&& (18446744073709551615 - 2 ^ j.val)) = r := by
  have hs := sorted_nums x
  have hb : (2 ^ j.val : Nat) < 2 ^ 64 := Nat.pow_lt_pow_right (by decide) j.isLt
  rw [← from_snoc (pre := []) hs h]
  refine nums_from fun k => ?_
  rw [show (18446744073709551615 : Nat) = 2 ^ 64 - 1 from rfl, minus_bits 64 x _ hb _ k.isLt, Nat.testBit_two_pow]
  by_cases hk : x.testBit k.val = true
  · have hm : k ∈ j :: r := by rw [← h]; exact (mem_nums x k).2 hk
    rw [h, List.pairwise_cons] at hs
    rcases List.mem_cons.1 hm with e | e
    · subst e; simp; omega
    · have : j.val < k.val := hs.1 k e
      rw [hk, decide_eq_false (show ¬ (j.val = k.val) by omega), decide_eq_true (show (j.val : Int) + 1 ≤ (k.val : Int) by omega)]; rfl
  · simp at hk; rw [hk]; simp
set_option maxHeartbeats 1000000 in
theorem subsets64 (x : Int) (w : World) :
    Calls Tryd.prog 31 #[.agg #[.int .u64 x]] w fun e w' => e = .returned (.func (.func 50) #[] #[.pointer (some ⟨w.heap.size, 0, none⟩)]) ∧ w' = w.alloc (.cells #[.int .u64 x] 26) := by
  go_enter Tryd.func31, Tryd.ntmps31
  go_wp2
  go_ret
  exact ⟨rfl, rfl⟩
/-- What stands between two rounds. -/
def Gs (l Bn x yb lb p B : Nat) (V : World) : Prop := B ≤ V.heap.size ∧ V.cell? ⟨Bn, 0, none⟩ = some (.int .u64 x) ∧ Tab V ∧ Boxed V yb 31 (.func (.yield l) #[] #[]) ∧ Boxed V lb 26 (.int .u64 p)
theorem Gs.below {l Bn x yb lb p B n : Nat} {V V' : World} (h : Gs l Bn x yb lb p B V) (hb : Below n V V') (h1 : Bn < n) (h2 : yb < n) (h4 : lb < n) (h3 : 3 ≤ n) : Gs l Bn x yb lb p B V' :=
  ⟨Nat.le_trans h.1 hb.size, (hb.cell (p := ⟨Bn, 0, none⟩) h1).trans h.2.1, h.2.2.1.below h3 hb, (hb.block _ h2).trans h.2.2.2.1, (hb.block _ h4).trans h.2.2.2.2⟩
theorem Gs.own {l Bn x yb lb p B : Nat} (h1 : Bn < B) (h2 : yb < B) (h4 : lb < B) (h3 : 3 ≤ B) : OwnFrom (β := Unit) B (fun _ V => Gs l Bn x yb lb p B V) := fun _ Y _ _ h hg hr =>
  h.below (n := B) ((Below.refl _ Y).grown hg h.1 fun k e => (hr k e).1) h1 h2 h4 h3
theorem Gs.round {l Bn x yb lb p B b0 : Nat} {V V' : World} (h : Gs l Bn x yb lb p B V) (hk : KpB Bn V V') (hq : Kept b0 V V') (h1 : b0 ≤ yb) (h2 : b0 ≤ lb) : Gs l Bn x yb lb p B V' :=
  ⟨Nat.le_trans h.1 hq.1, hk.1.trans h.2.1, hk.2 h.2.2.1, (hq.2 _ h1 h.2.2.2.1.lt).trans h.2.2.2.1, (hq.2 _ h2 h.2.2.2.2.lt).trans h.2.2.2.2⟩
end Go.Proofs.YtajfafckhipgeaaDoor
