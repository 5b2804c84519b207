/- The journal's small functions. -/
import Derived.Test.YtmhbidnpfefjpaaJnM
import Derived.Deep.CutBlock
import Derived.Deep.CutRange
import Derived.Deep.MidRow
import Derived.Deep.QuietTactic
import Derived.BigQuiet
import Derived.Deep.RegionHeld3
namespace Go.Proofs.Ytmhbidnpfefjpaa
open Go.RowKit
theorem arr_go (P Q : List Nat) (hP : P.length = 16) (hQ : Q.length = 16) (d : Nat) (w : World) : ∀ m k, k + m = 16 →
    (forIn (m := Sem) (List.range' k m) ((none : Option Bool), ()) (fun i _ => do
        let a ← part 5 (cellsB P).toArray (i * 1)
        let b ← part 5 (cellsB Q).toArray (i * 1)
        let r ← Op.equalIn (d + 1) 5 a b
        if (!r) = true then pure (ForInStep.done (some false, ())) else pure (ForInStep.yield (none, ())))).run Try.prog w = .ok (if P.drop k = Q.drop k then (none, ()) else (some false, ())) w := by
  intro m
  have a3 := Try.isAgg5
  have z3 := Try.sizeOf5
  have u3 := Try.underlying5
  induction m with
  | zero =>
    intro k hk
    rw [List.drop_eq_nil_of_le (by omega), List.drop_eq_nil_of_le (by omega)]
    simp
  | succ m ih =>
    intro k hk
    obtain ⟨p, hp⟩ : ∃ p, P[k]? = some p := ⟨_, List.getElem?_eq_getElem (by omega)⟩
    obtain ⟨q, hq⟩ : ∃ q, Q[k]? = some q := ⟨_, List.getElem?_eq_getElem (by omega)⟩
    have hp1 : (cellsB P).toArray[k]? = some (.int .u8 (p : Int)) := by simp [cellsB, hp]
    have hq1 : (cellsB Q).toArray[k]? = some (.int .u8 (q : Int)) := by simp [cellsB, hq]
    have hx : (part 5 (cellsB P).toArray (k * 1)).run Try.prog w = .ok (.int .u8 (p : Int)) w := by
      rw [Nat.mul_one]
      simp [part, a3, hp1]
    have hy : (part 5 (cellsB Q).toArray (k * 1)).run Try.prog w = .ok (.int .u8 (q : Int)) w := by
      rw [Nat.mul_one]
      simp [part, a3, hq1]
    have hd1 : P.drop k = p :: P.drop (k + 1) := by
      obtain ⟨h1, h2⟩ := List.getElem?_eq_some_iff.1 hp
      rw [← h2]; exact List.drop_eq_getElem_cons h1
    have hd2 : Q.drop k = q :: Q.drop (k + 1) := by
      obtain ⟨h1, h2⟩ := List.getElem?_eq_some_iff.1 hq
      rw [← h2]; exact List.drop_eq_getElem_cons h1
    rw [List.range'_succ, List.forIn_cons, hd1, hd2]
    simp only [Sem.run_bind, hx, hy, Result.andThen_ok, run_equalIn_int w d 5 .u8 .u8 _ _ u3]
    by_cases hpq : p = q
    · subst hpq
      simp only [beq_self_eq_true, Bool.not_true, Bool.false_eq_true, if_false, Sem.run_pure, Result.andThen_ok, List.cons.injEq, true_and]
      exact ih (k + 1) (by omega)
    · have : ((p : Int) == (q : Int)) = false := by simp; omega
      simp [this, hpq]
theorem arr_eq (P Q : List Nat) (hP : P.length = 16) (hQ : Q.length = 16) (w : World) : (Op.equalIn 10000 79 (.agg (cellsB P).toArray) (.agg (cellsB Q).toArray)).run Try.prog w = .ok (decide (P = Q)) w := by
  have z3 := Try.sizeOf5
  rw [show (10000 : Nat) = 9999 + 1 from rfl, Op.equalIn]
  simp only [Sem.run_bind, run_underlying Try.underlying79, Result.andThen_ok]
  simp only [Std.Legacy.Range.forIn_eq_forIn_range', Std.Legacy.Range.size, Nat.sub_zero, Nat.add_sub_cancel, Nat.div_one, z3, Result.andThen_ok]
  rw [arr_go P Q hP hQ 9998 w 16 0 rfl]
  simp only [List.drop_zero]
  by_cases h : P = Q <;> simp [h]
end Go.Proofs.Ytmhbidnpfefjpaa
