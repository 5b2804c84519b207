/- The first full matching, row by row (plain). -/
import Derived.Test.YtbbmjfjedonfaaaDoorMGiven
namespace Go.Proofs.YtbbmjfjedonfaaaDoor.M
def consF (u : Nat) (h : Nat → Nat) : Nat → Nat
  | 0 => u
  | r + 1 => h r
theorem givL_len (M : List Nat) (u : Nat) : (givL M u).length = M.length - 1 := by simp [givL]
theorem mask_bit {z u : Nat} (hu : u < 64) (hz : z < 18446744073709551616) (v : Nat) : (z &&& (18446744073709551615 - 2 ^ u)).testBit v = true ↔ z.testBit v = true ∧ v ≠ u := by
  rcases Nat.lt_or_ge v 64 with e | e
  · have hp64 : 2 ^ u < 2 ^ 64 := Nat.pow_lt_pow_right (by decide) hu
    have := minus_bits 64 z (2 ^ u) hp64 v e
    rw [show (18446744073709551615 : Nat) = 2 ^ 64 - 1 by decide, this, Nat.testBit_two_pow]
    by_cases h : u = v
    · subst h; simp
    · have h' : ¬ v = u := fun e => h e.symm
      simp [h, h']
  · have h1 : z.testBit v = false := Nat.testBit_lt_two_pow (Nat.lt_of_lt_of_le hz (Nat.pow_le_pow_right (n := 2) (by decide) e))
    rw [Nat.testBit_and, h1]; simp
theorem fn_giv {M : List Nat} {u r : Nat} (hr : r < M.length - 1) : fn (givL M u) r = fn M (r + 1) &&& (18446744073709551615 - 2 ^ u) := by
  have h1 : M[r + 1]? = some (fn M (r + 1)) := fn_get (by omega)
  refine fn_at ?_
  simp only [givL, List.getElem?_map, List.getElem?_drop]
  rw [show 1 + r = r + 1 by omega, h1]; rfl
theorem giv_bit {M : List Nat} (hw : ∀ z ∈ M, z < 18446744073709551616) {u r : Nat} (hu : u < 64) (hr : r < M.length - 1) (v : Nat) : (fn (givL M u) r).testBit v = true ↔ (fn M (r + 1)).testBit v = true ∧ v ≠ u := by
  rw [fn_giv hr]; exact mask_bit hu (fn_lt hw _) v
theorem giv_full {M : List Nat} (hw : ∀ z ∈ M, z < 18446744073709551616) {u : Nat} (hu : u < 64) (hM : 0 < M.length) (hb : (fn M 0).testBit u = true) (h : Nat → Nat) : FullM (M.length - 1) (fn (givL M u)) h ↔ FullM M.length (fn M) (consF u h) := by
  constructor
  · intro hf
    refine ⟨fun r hr => ?_, fun r s hr hs e => ?_⟩
    · cases r with
      | zero => exact hb
      | succ r => exact ((giv_bit hw hu (by omega) _).1 (hf.bit r (by omega))).1
    · cases r with
      | zero =>
        cases s with
        | zero => rfl
        | succ s =>
          have := ((giv_bit hw hu (by omega) _).1 (hf.bit s (by omega))).2
          exact absurd e.symm this
      | succ r =>
        cases s with
        | zero =>
          have := ((giv_bit hw hu (by omega) _).1 (hf.bit r (by omega))).2
          exact absurd e this
        | succ s => rw [hf.inj r s (by omega) (by omega) e]
  · intro hf
    refine ⟨fun r hr => ?_, fun r s hr hs e => ?_⟩
    · refine (giv_bit hw hu hr _).2 ⟨hf.bit (r + 1) (by omega), fun e => ?_⟩
      have := hf.inj (r + 1) 0 (by omega) hM e
      omega
    · have := hf.inj (r + 1) (s + 1) (by omega) (by omega) e
      omega
theorem consF_tail (g : Nat → Nat) : consF (g 0) (fun r => g (r + 1)) = g := by
  funext r
  cases r <;> rfl
/-- There is a full matching. -/
def Has (M : List Nat) : Prop := ∃ g, FullM M.length (fn M) g
theorem has_giv {M : List Nat} (hw : ∀ z ∈ M, z < 18446744073709551616) {u : Nat} (hu : u < 64) (hM : 0 < M.length) (hb : (fn M 0).testBit u = true) : Has (givL M u) ↔ ∃ g, FullM M.length (fn M) g ∧ g 0 = u := by
  unfold Has
  rw [givL_len]
  constructor
  · rintro ⟨h, hf⟩
    exact ⟨consF u h, (giv_full hw hu hM hb h).1 hf, rfl⟩
  · rintro ⟨g, hf, rfl⟩
    exact ⟨fun r => g (r + 1), (giv_full hw hu hM hb _).2 (by rw [consF_tail]; exact hf)⟩
/-- The list that is told, row by row. -/
inductive LexL : List Nat → List Nat → Prop
  | nil : LexL [] []
  | cons {M : List Nat} {u : Nat} {l : List Nat} (hM : 0 < M.length) (hu : u < 64) (hb : (fn M 0).testBit u = true) (hlow : ∀ v, v < u → (fn M 0).testBit v = true → ¬ Has (givL M v)) (hl : LexL (givL M u) l) : LexL M (u :: l)
theorem LexL.lex {M l : List Nat} (h : LexL M l) : (∀ z ∈ M, z < 18446744073709551616) → l.length = M.length ∧ Lex M.length (fn M) (fn l) M.length := by
  induction h with
  | nil => exact fun _ => ⟨rfl, ⟨fun r hr => absurd hr (Nat.not_lt_zero _), fun r s hr => absurd hr (Nat.not_lt_zero _)⟩, fun j hj => absurd hj (Nat.not_lt_zero _)⟩
  | @cons M u l hM hu hb hlow hl ih =>
    intro hw
    obtain ⟨h1, h2⟩ := ih (givL_word hw)
    rw [givL_len] at h1 h2
    have hfn : fn (u :: l) = consF u (fn l) := by
      funext r
      cases r <;> rfl
    refine ⟨by simp only [List.length_cons]; omega, by rw [hfn]; exact (giv_full hw hu hM hb _).1 h2.full, fun j hj v hv g hg hag hgv => ?_⟩
    rw [hfn] at hv hag
    cases j with
    | zero =>
      have hbv : (fn M 0).testBit v = true := by rw [← hgv]; exact hg.bit 0 hM
      exact hlow v hv hbv ((has_giv hw (by have : v < u := hv; omega) hM hbv).2 ⟨g, hg, hgv⟩)
    | succ j =>
      have hg0 : g 0 = u := hag 0 (by omega)
      refine h2.least j (by omega) v hv (fun r => g (r + 1)) ((giv_full hw hu hM hb _).2 (by rw [← hg0, consF_tail]; exact hg)) (fun i hi => hag (i + 1) (by omega)) hgv
end Go.Proofs.YtbbmjfjedonfaaaDoor.M
