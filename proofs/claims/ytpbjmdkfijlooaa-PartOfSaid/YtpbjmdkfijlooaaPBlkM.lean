/- Plain facts on the places of a pattern's blocks. -/
import Derived.Test.YtpbjmdkfijlooaaPBlk
namespace Go.Proofs.Ytpbjmdkfijlooaa
theorem mem_plc {l : List Nat} {b i : Nat} : i ∈ plc l b ↔ l[i]? = some b := by
  unfold plc
  rw [List.mem_filter, List.mem_range, beq_iff_eq]
  refine ⟨fun h => h.2, fun h => ⟨?_, h⟩⟩
  exact (List.getElem?_eq_some_iff.1 h).1
theorem plc_lt (l : List Nat) (b : Nat) : (plc l b).Pairwise (· < ·) := List.Pairwise.filter _ List.pairwise_lt_range
theorem plc_step {l : List Nat} {b i j x y : Nat} (h : i < j) (hx : (plc l b)[i]? = some x) (hy : (plc l b)[j]? = some y) : x < y := by
  obtain ⟨hi, rfl⟩ := List.getElem?_eq_some_iff.1 hx
  obtain ⟨hj, rfl⟩ := List.getElem?_eq_some_iff.1 hy
  exact List.pairwise_iff_getElem.1 (plc_lt l b) i j hi hj h
theorem plc_first {l : List Nat} {b f i : Nat} (h : (plc l b)[0]? = some f) (hi : l[i]? = some b) : f ≤ i := by
  obtain ⟨k, hk⟩ := List.mem_iff_getElem?.1 (mem_plc.2 hi)
  by_cases e : k = 0
  · subst e; rw [h] at hk; exact Nat.le_of_eq (Option.some.inj hk)
  · exact Nat.le_of_lt (plc_step (by omega) h hk)
theorem plc_some {l : List Nat} (h : Leg 0 l) {b : Nat} (hb : b < blks 0 l) : 0 < (plc l b).length := by
  obtain ⟨i, hi⟩ := List.mem_iff_getElem?.1 (occurs h (Nat.zero_le _) hb)
  exact List.length_pos_of_mem (mem_plc.2 hi)
theorem plc_rise {l : List Nat} (h : Leg 0 l) {b f g : Nat} (hf : (plc l b)[0]? = some f) (hg : (plc l (b + 1))[0]? = some g) : f < g := by
  have hgl := mem_plc.1 (List.mem_of_getElem? hg)
  have hle := leg_at h hgl
  have hL : Leg 0 (l.take g) := by
    have h2 := h
    rw [← List.take_append_drop g l] at h2
    exact (Leg.app.1 h2).1
  obtain ⟨i, hi⟩ := List.mem_iff_getElem?.1 (occurs hL (Nat.zero_le _) (show b < blks 0 (l.take g) by omega))
  obtain ⟨hlt, _⟩ := List.getElem?_eq_some_iff.1 hi
  rw [List.length_take] at hlt
  rw [List.getElem?_take_of_lt (by omega)] at hi
  have := plc_first hf hi
  omega
/-- How many places the first blocks have. -/
def cnt (l : List Nat) : Nat → Nat
  | 0 => 0
  | c + 1 => cnt l c + (plc l c).length
theorem cnt_nil : ∀ c, cnt [] c = 0
  | 0 => rfl
  | c + 1 => by rw [cnt, cnt_nil c]; rfl
theorem cnt_snoc (l : List Nat) (x : Nat) : ∀ c, cnt (l ++ [x]) c = cnt l c + (if x < c then 1 else 0)
  | 0 => by simp [cnt]
  | c + 1 => by
    rw [cnt, cnt, cnt_snoc l x c, plc_snoc, List.length_append]
    by_cases h : x = c
    · subst h; simp; omega
    · rw [if_neg h]
      by_cases h2 : x < c
      · rw [if_pos h2, if_pos (by omega)]; simp; omega
      · rw [if_neg h2, if_neg (by omega)]; simp
theorem cnt_take (l : List Nat) (c : Nat) : ∀ k, k ≤ l.length → cnt (l.take k) c ≤ k ∧ ((∀ x ∈ l, x < c) → cnt (l.take k) c = k)
  | 0, _ => by rw [List.take_zero, cnt_nil]; exact ⟨Nat.le_refl _, fun _ => rfl⟩
  | k + 1, h => by
    obtain ⟨x, hx⟩ : ∃ x, l[k]? = some x := ⟨_, List.getElem?_eq_getElem (by omega)⟩
    obtain ⟨h1, h2⟩ := cnt_take l c k (by omega)
    rw [take_snoc hx, cnt_snoc]
    refine ⟨by split <;> omega, fun hc => ?_⟩
    rw [h2 hc, if_pos (hc x (List.mem_of_getElem? hx))]
theorem cnt_le (l : List Nat) (c : Nat) : cnt l c ≤ l.length := by
  have := (cnt_take l c l.length (Nat.le_refl _)).1
  rwa [List.take_length] at this
theorem cnt_all (l : List Nat) : cnt l (blks 0 l) = l.length := by
  have := (cnt_take l (blks 0 l) l.length (Nat.le_refl _)).2 (fun x hx => lt_blks hx)
  rwa [List.take_length] at this
theorem cnt_succ (l : List Nat) (c : Nat) : cnt l (c + 1) = cnt l c + (plc l c).length := rfl
end Go.Proofs.Ytpbjmdkfijlooaa
