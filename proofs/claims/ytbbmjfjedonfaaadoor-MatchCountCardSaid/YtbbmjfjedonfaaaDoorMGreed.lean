/- Rows that enter one by one: which of them, and how many (plain). -/
import Derived.Test.YtbbmjfjedonfaaaDoorMFull
namespace Go.Proofs.YtbbmjfjedonfaaaDoor.M
/-- The rows that entered, of the first k. -/
def grE (R : Nat → Nat) : Nat → Nat → Prop
  | 0 => No
  | k + 1 => fun r => grE R k r ∨ (r = k ∧ Ind R (fun s => grE R k s ∨ s = k))
open Classical in
/-- How many. -/
noncomputable def grN (R : Nat → Nat) : Nat → Nat
  | 0 => 0
  | k + 1 => grN R k + if Ind R (fun s => grE R k s ∨ s = k) then 1 else 0
section
variable {R : Nat → Nat}
theorem grE_lt : ∀ {k r : Nat}, grE R k r → r < k
  | 0, _, h => False.elim h
  | k + 1, r, h => by
    rcases h with h | h
    · have := grE_lt h; omega
    · omega
theorem grE_yes {k : Nat} (h : Ind R (fun s => grE R k s ∨ s = k)) : (∀ r, (grE R k r ∨ r = k) ↔ grE R (k + 1) r) ∧ grN R (k + 1) = grN R k + 1 :=
  ⟨fun r => ⟨fun x => x.imp id (fun e => ⟨e, h⟩), fun x => x.imp id (fun e => e.1)⟩, by show grN R k + _ = _; rw [if_pos h]⟩
theorem grE_no {k : Nat} (h : ¬ Ind R (fun s => grE R k s ∨ s = k)) : (∀ r, grE R k r ↔ grE R (k + 1) r) ∧ grN R (k + 1) = grN R k :=
  ⟨fun r => ⟨.inl, fun x => x.elim id (fun e => absurd e.2 h)⟩, by show grN R k + _ = _; rw [if_neg h]; rfl⟩
theorem grN_le : ∀ k, grN R k ≤ k
  | 0 => Nat.le_refl _
  | k + 1 => by
    have := grN_le k
    by_cases h : Ind R (fun s => grE R k s ∨ s = k)
    · rw [(grE_yes h).2]; omega
    · rw [(grE_no h).2]; omega
theorem grE_ind : ∀ k, Ind R (grE R k)
  | 0 => ⟨fun _ => 0, fun _ h => False.elim h, fun _ _ h => False.elim h⟩
  | k + 1 => by
    by_cases h : Ind R (fun s => grE R k s ∨ s = k)
    · exact h.sub fun r hr => ((grE_yes h).1 r).2 hr
    · exact (grE_ind k).sub fun r hr => ((grE_no h).1 r).2 hr
theorem grN_full : ∀ k, grN R k = k → ∀ r, r < k → grE R k r
  | 0, _, _, h => absurd h (Nat.not_lt_zero _)
  | k + 1, hk, r, hr => by
    by_cases h : Ind R (fun s => grE R k s ∨ s = k)
    · have h2 := (grE_yes h).2
      refine ((grE_yes h).1 r).1 ?_
      by_cases e : r = k
      · exact .inr e
      · exact .inl (grN_full k (by omega) r (by omega))
    · have h2 := (grE_no h).2
      have := grN_le (R := R) k
      omega
theorem grN_of : ∀ k, Ind R (fun r => r < k) → grN R k = k
  | 0, _ => rfl
  | k + 1, h => by
    have h1 := grN_of k (h.sub fun r hr => Nat.lt_succ_of_lt hr)
    have h2 : Ind R (fun s => grE R k s ∨ s = k) := h.sub fun r hr => by
      rcases hr with hr | hr
      · have := grE_lt hr; omega
      · omega
    rw [(grE_yes h2).2, h1]
/-- All have entered just if there is a full matching. -/
theorem grN_iff (n : Nat) : grN R n = n ↔ Ind R (fun r => r < n) :=
  ⟨fun h => (grE_ind n).sub fun r hr => grN_full n h r hr, grN_of n⟩
end
end Go.Proofs.YtbbmjfjedonfaaaDoor.M
