/- Levels: what is ready behind the levels below; heights. Plain facts. -/
import Derived.Test.YtjimiabfgmchiaaDoorOLawM
namespace Go.Proofs.YtjimiabfgmchiaaDoor
section
variable {n : Nat} {R : Nat → Nat → Bool} {Pf Sf : Nat → Nat}
/-- What the levels below so many hold. -/
def eK (n : Nat) (Pf : Nat → Nat) : Nat → Nat
  | 0 => 0
  | k + 1 => eK n Pf k ||| rdW n Pf (eK n Pf k)
theorem Ord.eK_down (h : Ord n R Pf Sf) : ∀ k, isDown n R (eK n Pf k)
  | 0 => down_zero
  | k + 1 => by
    have ih := h.eK_down k
    have hlt := down_lt h.n64 ih
    refine ⟨fun a ha => ?_, fun a b ha hb => ?_⟩
    · rw [eK, Nat.testBit_or, Bool.or_eq_true] at ha
      rcases ha with ha | ha
      · exact ih.1 a ha
      · exact ((h.rdW_bits hlt a).1 ha).1
    · rw [eK, Nat.testBit_or, Bool.or_eq_true] at ha ⊢
      left
      rcases ha with ha | ha
      · exact ih.2 a b ha hb
      · exact ((h.rdW_bits hlt a).1 ha).2.2 b hb
theorem Ord.eK_lt (h : Ord n R Pf Sf) (k : Nat) : eK n Pf k < 18446744073709551616 := down_lt h.n64 (h.eK_down k)
theorem Ord.eK_rdy (h : Ord n R Pf Sf) (k a : Nat) : (rdW n Pf (eK n Pf k)).testBit a = true ↔ rdy n R (eK n Pf k) a := h.rdW_bits (h.eK_lt k) a
theorem eK_mono {j k a : Nat} (hjk : j ≤ k) (ha : (eK n Pf j).testBit a = true) : (eK n Pf k).testBit a = true := by
  induction k with
  | zero => obtain rfl : j = 0 := by omega
            exact ha
  | succ k ih =>
    rcases Nat.lt_or_ge j (k + 1) with h1 | h1
    · rw [eK, Nat.testBit_or, ih (by omega)]; rfl
    · obtain rfl : j = k + 1 := by omega
      exact ha
theorem Ord.rdy_in (h : Ord n R Pf Sf) {k a : Nat} (ha : rdy n R (eK n Pf k) a) : (eK n Pf (k + 1)).testBit a = true := by
  rw [eK, Nat.testBit_or, (h.eK_rdy k a).2 ha, Bool.or_true]
theorem Ord.rdy_uniq (h : Ord n R Pf Sf) {j k a : Nat} (h1 : rdy n R (eK n Pf j) a) (h2 : rdy n R (eK n Pf k) a) : j = k := by
  rcases Nat.lt_trichotomy j k with h3 | h3 | h3
  · have := eK_mono (n := n) (Pf := Pf) (show j + 1 ≤ k from h3) (h.rdy_in h1)
    rw [h2.2.1] at this; cases this
  · exact h3
  · have := eK_mono (n := n) (Pf := Pf) (show k + 1 ≤ j from h3) (h.rdy_in h2)
    rw [h1.2.1] at this; cases this
theorem Ord.entered (h : Ord n R Pf Sf) {a : Nat} : ∀ k, (eK n Pf k).testBit a = true → ∃ j, j < k ∧ rdy n R (eK n Pf j) a
  | 0, ha => by rw [eK, Nat.zero_testBit] at ha; cases ha
  | k + 1, ha => by
    rw [eK, Nat.testBit_or, Bool.or_eq_true] at ha
    rcases ha with ha | ha
    · obtain ⟨j, hj, hr⟩ := h.entered k ha
      exact ⟨j, by omega, hr⟩
    · exact ⟨k, by omega, (h.eK_rdy k a).1 ha⟩
theorem cnt_mono {d e : Nat} (h : ∀ a, d.testBit a = true → e.testBit a = true) : cnt n d ≤ cnt n e := by
  unfold cnt
  exact List.countP_mono_left fun x _ hx => h x hx
theorem cnt_leV (n d : Nat) : cnt n d ≤ n := by
  unfold cnt
  refine Nat.le_trans List.countP_le_length ?_
  simp
theorem Ord.some_at (h : Ord n R Pf Sf) {k : Nat} (hc : cnt n (eK n Pf k) < n) : ∃ b, rdy n R (eK n Pf k) b := by
  obtain ⟨a, ha, hda⟩ := cnt_some hc
  exact h.some_ready (Pf a) a (Nat.le_refl _) ha hda
theorem Ord.eK_cnt (h : Ord n R Pf Sf) : ∀ k, k ≤ n → k ≤ cnt n (eK n Pf k)
  | 0, _ => Nat.zero_le _
  | k + 1, hk => by
    have ih := h.eK_cnt k (by omega)
    rcases Nat.lt_or_ge (cnt n (eK n Pf k)) n with hc | hc
    · obtain ⟨b, hb⟩ := h.some_at hc
      have h1 := cnt_add n (eK n Pf k) b hb.2.1
      rw [if_pos hb.1] at h1
      have h2 : cnt n (eK n Pf k ||| 2 ^ b) ≤ cnt n (eK n Pf (k + 1)) := cnt_mono fun a ha => by
        rw [Nat.testBit_or, Nat.testBit_two_pow, Bool.or_eq_true, decide_eq_true_eq] at ha
        rcases ha with ha | rfl
        · exact eK_mono (by omega) ha
        · exact h.rdy_in hb
      omega
    · have h2 : cnt n (eK n Pf k) ≤ cnt n (eK n Pf (k + 1)) := cnt_mono fun a ha => eK_mono (by omega) ha
      omega
theorem Ord.hgt_ex (h : Ord n R Pf Sf) {a : Nat} (ha : a < n) : ∃ k, k < n ∧ rdy n R (eK n Pf k) a := by
  have h1 := h.eK_cnt n (Nat.le_refl _)
  have h2 := cnt_leV n (eK n Pf n)
  exact h.entered n (cnt_full (show cnt n (eK n Pf n) = n by omega) a ha)
open Classical in
/-- Of each place, its level. -/
noncomputable def hgt (n : Nat) (R : Nat → Nat → Bool) (Pf : Nat → Nat) (a : Nat) : Nat := if h : ∃ k, rdy n R (eK n Pf k) a then Classical.choose h else 0
theorem Ord.hgt_iff (h : Ord n R Pf Sf) {a : Nat} (ha : a < n) (k : Nat) : hgt n R Pf a = k ↔ rdy n R (eK n Pf k) a := by
  obtain ⟨j, _, hj⟩ := h.hgt_ex ha
  have he : ∃ k, rdy n R (eK n Pf k) a := ⟨j, hj⟩
  have hs : rdy n R (eK n Pf (hgt n R Pf a)) a := by
    unfold hgt
    rw [dif_pos he]
    exact Classical.choose_spec he
  exact ⟨fun e => e ▸ hs, fun hk => h.rdy_uniq hs hk⟩
theorem Ord.hgt_lt (h : Ord n R Pf Sf) {a : Nat} (ha : a < n) : hgt n R Pf a < n := by
  obtain ⟨j, hj, hr⟩ := h.hgt_ex ha
  rw [(h.hgt_iff ha j).2 hr]; exact hj
theorem Ord.hgt_up (h : Ord n R Pf Sf) {x y : Nat} (hx : x < n) (hy : y < n) (hR : R x y = true) : hgt n R Pf x + 1 ≤ hgt n R Pf y := by
  have h1 := (h.hgt_iff hy _).1 rfl
  obtain ⟨j, hj, hr⟩ := h.entered _ (h1.2.2 x hR)
  rw [(h.hgt_iff hx j).2 hr]
  exact hj
theorem Ord.hgt_from (h : Ord n R Pf Sf) {y r : Nat} (hy : y < n) (hr : hgt n R Pf y = r + 1) : ∃ x, x < n ∧ R x y = true ∧ hgt n R Pf x = r := by
  have h1 := (h.hgt_iff hy _).1 hr
  have h2 : ¬ rdy n R (eK n Pf r) y := fun e => by have := h.rdy_uniq h1 e; omega
  have h3 : (eK n Pf r).testBit y = false := by
    cases e : (eK n Pf r).testBit y with
    | false => rfl
    | true => have := eK_mono (n := n) (Pf := Pf) (show r ≤ r + 1 by omega) e
              rw [h1.2.1] at this; cases this
  have h4 : ∃ b, R b y = true ∧ (eK n Pf r).testBit b = false := by
    apply Classical.byContradiction
    intro hne
    refine h2 ⟨hy, h3, fun b hb => ?_⟩
    cases e : (eK n Pf r).testBit b with
    | true => rfl
    | false => exact absurd ⟨b, hb, e⟩ hne
  obtain ⟨b, hb, hbf⟩ := h4
  have hb1 := h1.2.2 b hb
  rw [eK, Nat.testBit_or, hbf, Bool.false_or] at hb1
  have hrb := (h.eK_rdy r b).1 hb1
  exact ⟨b, hrb.1, hb, (h.hgt_iff hrb.1 r).2 hrb⟩
/-- The heights, as they are worked out. -/
def Hx (n : Nat) (R : Nat → Nat → Bool) (H k : Nat → Nat) (r x y : Nat) : Prop := (∀ a, a < n → k a ≤ H a) ∧ (∀ a, a < n → H a ≤ r → H a ≤ k a) ∧ ∀ x' y', (x' < x ∨ (x' = x ∧ y' < y)) → x' < n → y' < n → R x' y' = true → H x' = r → r + 1 ≤ k y'
def putH (k : Nat → Nat) (y v : Nat) : Nat → Nat := fun i => if i = y then v else k i
theorem Hx.start (H : Nat → Nat) : Hx n R H (fun _ => 0) 0 0 0 := ⟨fun _ _ => Nat.zero_le _, fun _ _ h => h, fun x' y' h => by omega⟩
theorem Hx.turn {H k : Nat → Nat} {r x y : Nat} (h : Hx n R H k r x y) (hup : ∀ x y, x < n → y < n → R x y = true → H x + 1 ≤ H y) (hx : x < n) (hy : y < n) (hR : R x y = true) (hk : k y < k x + 1) : Hx n R H (putH k y (k x + 1)) r x (y + 1) := by
  have hge : ∀ a, k a ≤ putH k y (k x + 1) a := fun a => by
    unfold putH
    by_cases e : a = y
    · subst e; rw [if_pos rfl]; omega
    · rw [if_neg e]; omega
  refine ⟨fun a ha => ?_, fun a ha hr => Nat.le_trans (h.2.1 a ha hr) (hge a), fun x' y' hp hx' hy' hR' hr => ?_⟩
  · unfold putH
    by_cases e : a = y
    · subst e
      rw [if_pos rfl]
      have h1 := h.1 x hx
      have h2 := hup x a hx ha hR
      omega
    · rw [if_neg e]; exact h.1 a ha
  · rcases hp with hp | ⟨rfl, hp⟩
    · exact Nat.le_trans (h.2.2 x' y' (.inl hp) hx' hy' hR' hr) (hge y')
    · rcases Nat.lt_or_ge y' y with h1 | h1
      · exact Nat.le_trans (h.2.2 x' y' (.inr ⟨rfl, h1⟩) hx' hy' hR' hr) (hge y')
      · obtain rfl : y' = y := by omega
        have h2 := h.2.1 x' hx' (by omega)
        unfold putH
        rw [if_pos rfl]
        omega
theorem Hx.keep {H k : Nat → Nat} {r x y : Nat} (h : Hx n R H k r x y) (hk : R x y = true → ¬ k y < k x + 1) : Hx n R H k r x (y + 1) := by
  refine ⟨h.1, h.2.1, fun x' y' hp hx' hy' hR' hr => ?_⟩
  rcases hp with hp | ⟨rfl, hp⟩
  · exact h.2.2 x' y' (.inl hp) hx' hy' hR' hr
  · rcases Nat.lt_or_ge y' y with h1 | h1
    · exact h.2.2 x' y' (.inr ⟨rfl, h1⟩) hx' hy' hR' hr
    · obtain rfl : y' = y := by omega
      have h2 := h.2.1 x' hx' (by omega)
      have := hk hR'
      omega
theorem Hx.row {H k : Nat → Nat} {r x : Nat} (h : Hx n R H k r x n) : Hx n R H k r (x + 1) 0 := ⟨h.1, h.2.1, fun x' y' hp hx' hy' hR' hr => h.2.2 x' y' (by omega) hx' hy' hR' hr⟩
theorem Hx.round {H k : Nat → Nat} {r : Nat} (h : Hx n R H k r n 0) (hfrom : ∀ y r, y < n → H y = r + 1 → ∃ x, x < n ∧ R x y = true ∧ H x = r) : Hx n R H k (r + 1) 0 0 := by
  refine ⟨h.1, fun a ha hr => ?_, fun x' y' hp => by omega⟩
  rcases Nat.lt_or_ge (H a) (r + 1) with h1 | h1
  · exact h.2.1 a ha (by omega)
  · have e : H a = r + 1 := by omega
    obtain ⟨x, hx, hR, hxr⟩ := hfrom a r ha e
    rw [e]
    exact h.2.2 x a (.inl hx) hx ha hR hxr
theorem Hx.done {H k : Nat → Nat} (h : Hx n R H k n 0 0) (hlt : ∀ a, a < n → H a < n) : ∀ a, a < n → k a = H a := fun a ha => by
  have h1 := h.1 a ha
  have h2 := h.2.1 a ha (by have := hlt a ha; omega)
  omega
/-- A level, rising. -/
def lvl (n : Nat) (Pf : Nat → Nat) (j : Nat) : List Nat := (List.range n).filter fun a => (rdW n Pf (eK n Pf j)).testBit a
def lvs (n : Nat) (Pf : Nat → Nat) (k : Nat) : List (List Nat) := (List.range k).map (lvl n Pf)
theorem lvs_len (k : Nat) : (lvs n Pf k).length = k := by simp [lvs]
theorem lvs_snoc (k : Nat) : lvs n Pf (k + 1) = lvs n Pf k ++ [lvl n Pf k] := by simp [lvs, List.range_succ]
theorem Ord.full_iff (h : Ord n R Pf Sf) (k : Nat) : eK n Pf k = 2 ^ n - 1 ↔ lvl n Pf k = [] := by
  constructor
  · intro e
    rw [lvl, List.filter_eq_nil_iff]
    intro a ha hb
    rw [List.mem_range] at ha
    have h1 := ((h.eK_rdy k a).1 hb).2.1
    rw [e, Nat.testBit_two_pow_sub_one] at h1
    simp [ha] at h1
  · intro e
    rw [lvl, List.filter_eq_nil_iff] at e
    have hc : cnt n (eK n Pf k) = n := by
      rcases Nat.lt_or_ge (cnt n (eK n Pf k)) n with hc | hc
      · obtain ⟨b, hb⟩ := h.some_at hc
        exact absurd ((h.eK_rdy k b).2 hb) (e b (List.mem_range.2 hb.1))
      · have := cnt_leV n (eK n Pf k); omega
    apply Nat.eq_of_testBit_eq
    intro i
    rw [Nat.testBit_two_pow_sub_one]
    by_cases hi : i < n
    · rw [cnt_full hc i hi]; simp [hi]
    · rw [decide_eq_false hi]
      cases e2 : (eK n Pf k).testBit i with
      | false => rfl
      | true => exact absurd ((h.eK_down k).1 i e2) hi
theorem Ord.lvl_hgt (h : Ord n R Pf Sf) (j i : Nat) (hi : i ≤ n) : (List.range i).filter (fun a => (rdW n Pf (eK n Pf j)).testBit a) = (List.range i).filter (fun a => decide (hgt n R Pf a = j)) := by
  apply List.filter_congr
  intro a ha
  rw [List.mem_range] at ha
  have h1 := h.hgt_iff (show a < n by omega) j
  rw [← h.eK_rdy] at h1
  by_cases e : hgt n R Pf a = j
  · rw [decide_eq_true e, h1.1 e]
  · rw [decide_eq_false e]
    cases e2 : (rdW n Pf (eK n Pf j)).testBit a with
    | false => rfl
    | true => exact absurd (h1.2 e2) e
/-- So many levels there are. -/
theorem Ord.levels_ex (h : Ord n R Pf Sf) : ∃ K, K ≤ n ∧ eK n Pf K = 2 ^ n - 1 ∧ ∀ j, j < K → eK n Pf j ≠ 2 ^ n - 1 := by
  have hfull : eK n Pf n = 2 ^ n - 1 := by
    rw [h.full_iff, lvl, List.filter_eq_nil_iff]
    intro a ha hb
    rw [List.mem_range] at ha
    have h1 := h.eK_cnt n (Nat.le_refl _)
    have h2 := cnt_leV n (eK n Pf n)
    have h3 := cnt_full (show cnt n (eK n Pf n) = n by omega) a ha
    have h4 := ((h.eK_rdy n a).1 hb).2.1
    rw [h3] at h4; cases h4
  have : ∀ m, eK n Pf m = 2 ^ n - 1 → ∃ K, K ≤ m ∧ eK n Pf K = 2 ^ n - 1 ∧ ∀ j, j < K → eK n Pf j ≠ 2 ^ n - 1 := by
    intro m
    induction m using Nat.strongRecOn with
    | ind m ih =>
      intro hm
      by_cases hj : ∃ j, j < m ∧ eK n Pf j = 2 ^ n - 1
      · obtain ⟨j, hj, he⟩ := hj
        obtain ⟨K, h1, h2, h3⟩ := ih j hj he
        exact ⟨K, by omega, h2, h3⟩
      · exact ⟨m, Nat.le_refl _, hm, fun j hjm he => hj ⟨j, hjm, he⟩⟩
  exact this n hfull
theorem filter_snoc (f : Nat → Bool) (i : Nat) : (List.range (i + 1)).filter f = (List.range i).filter f ++ if f i = true then [i] else [] := by
  rw [List.range_succ, List.filter_append]
  congr 1
  by_cases e : f i = true <;> simp [e]
end
end Go.Proofs.YtjimiabfgmchiaaDoor
