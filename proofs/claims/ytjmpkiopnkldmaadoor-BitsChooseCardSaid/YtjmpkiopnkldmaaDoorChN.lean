/- The lists of subsets: what the walks ask of them. -/
import Derived.Test.YtjmpkiopnkldmaaDoorChM
namespace Go.Proofs.YtjmpkiopnkldmaaDoor
theorem nums_plc : ∀ x : Fin 256, (nums x.val).map (·.val) = plc x.val 8 0 := by decide +kernel
theorem nums_pop : ∀ x : Fin 256, (nums x.val).length = pop8 x.val := by decide +kernel
theorem low_and : ∀ t : Fin 256, t.val = 0 ∨ (0 ≤ lowI (nums t.val) ∧ 2 ^ (lowI (nums t.val)).toNat = Nat.land t.val (Nat.sub 256 t.val)) := by decide +kernel
theorem rest_low : ∀ s : Fin 256, s.val = 0 ∨ (0 ≤ lowI (nums s.val) ∧ lowI (nums s.val) < 8 ∧ s.val &&& (255 - 2 ^ (lowI (nums s.val)).toNat) = restX s.val ∧ pop8 (restX s.val) + 1 = pop8 s.val) := by decide +kernel
theorem pop_zero : pop8 0 = 0 := by decide
theorem aheadX_ahd {s t : Nat} (ht : t < 256) : aheadX s t = ahd s t := by
  unfold aheadX ahd
  by_cases h0 : t = 0
  · subst h0; rfl
  · rw [if_neg h0, show Nat.beq t 0 = false by cases t with | zero => exact absurd rfl h0 | succ t => rfl]
    rcases low_and ⟨t, ht⟩ with h | ⟨h1, h2⟩
    · exact absurd h h0
    · unfold belowX
      rw [if_neg (by simpa using h1), show (2 ^ (lowI (nums t)).toNat) = Nat.land t (Nat.sub 256 t) from h2]
      rfl
theorem restX_lt {s : Nat} (hs : s < 256) : restX s < 256 := Nat.lt_of_le_of_lt Nat.and_le_left hs
theorem plc_lt (a : Nat) : ∀ m i j, j ∈ plc a m i → j < i + m
  | 0, i, j, h => by cases h
  | m + 1, i, j, h => by
    have ih := plc_lt a m (i + 1) j
    unfold plc at h
    cases hb : Nat.beq (Nat.mod (Nat.div a (Nat.pow 2 i)) 2) 1 with
    | true =>
      rw [hb] at h
      rcases List.mem_cons.1 h with e | e
      · omega
      · have := ih e; omega
    | false =>
      rw [hb] at h
      have := ih h; omega
/-- What the iterator tells for one t. -/
def stepC (s t : Nat) : List Nat := (nums (aheadX s t)).map fun j => t ||| 2 ^ j.val
theorem chF_lt : ∀ (k s : Nat), ∀ t ∈ chF k s, t < 256
  | 0, s, t, h => by
    have : t = 0 := by simpa [chF] using h
    omega
  | k + 1, s, t, h => by
    unfold chF at h
    obtain ⟨u, hu, ht⟩ := List.mem_flatMap.1 h
    obtain ⟨j, hj, rfl⟩ := List.mem_map.1 ht
    have h1 := chF_lt k _ u hu
    have h2 := plc_lt _ _ _ _ hj
    exact Nat.or_lt_two_pow (n := 8) h1 (Nat.pow_lt_pow_right (by decide) (by omega))
theorem flat_congr {α β : Type} {f g : α → List β} : ∀ (l : List α), (∀ x ∈ l, f x = g x) → l.flatMap f = l.flatMap g
  | [], _ => rfl
  | a :: l, h => by
    rw [List.flatMap_cons, List.flatMap_cons, h a (by simp), flat_congr l fun x hx => h x (by simp [hx])]
theorem chF_step {k s : Nat} (hs : s < 256) : chF (k + 1) s = (chF k (restX s)).flatMap (stepC s) := by
  show (chF k (restX s)).flatMap _ = _
  refine flat_congr _ fun t ht => ?_
  have ht8 := chF_lt _ _ t ht
  have ha : aheadX s t < 256 := aheadX_lt hs
  have e := nums_plc ⟨aheadX s t, ha⟩
  unfold stepC
  show (plc (ahd s t) 8 0).map _ = _
  rw [← aheadX_ahd ht8, ← show (nums (aheadX s t)).map (·.val) = plc (aheadX s t) 8 0 from e, List.map_map]
  rfl
theorem pre_inner {k s t : Nat} (hs : s < 256) {pre : List Nat} {p2 : List (Fin 64)} {j : Fin 64} (h1 : pre ++ [t] <+: chF k (restX s)) (h2 : p2 ++ [j] <+: nums (aheadX s t)) :
    (pre.flatMap (stepC s) ++ p2.map (fun j => t ||| 2 ^ j.val)) ++ [t ||| 2 ^ j.val] <+: chF (k + 1) s := by
  obtain ⟨r1, h1⟩ := h1
  obtain ⟨r2, h2⟩ := h2
  rw [chF_step hs, ← h1]
  refine ⟨r2.map (fun j => t ||| 2 ^ j.val) ++ r1.flatMap (stepC s), ?_⟩
  rw [List.flatMap_append, List.flatMap_append, List.flatMap_cons, List.flatMap_nil, List.append_nil, show stepC s t = (p2 ++ [j] ++ r2).map (fun j => t ||| 2 ^ j.val) by rw [h2]; rfl]
  simp
theorem flat_pre {s : Nat} {l m : List Nat} (h : l <+: m) : l.flatMap (stepC s) <+: m.flatMap (stepC s) := by
  obtain ⟨r, rfl⟩ := h
  exact ⟨r.flatMap (stepC s), by simp⟩
theorem mem8 {x : Nat} (hx : x < 256) {j : Fin 64} (h : j ∈ nums x) : j.val < 8 := by
  rcases Nat.lt_or_ge j.val 8 with h1 | h1
  · exact h1
  · have := (mem_nums x j).1 h
    rw [Nat.testBit_lt_two_pow (Nat.lt_of_lt_of_le (show x < 2 ^ 8 from hx) (Nat.pow_le_pow_right (by decide) h1))] at this
    cases this
end Go.Proofs.YtjmpkiopnkldmaaDoor
