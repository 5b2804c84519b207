/- What Due takes out: plain facts. -/
import Derived.Test.YtmjdecgijnodhaaGDue
namespace Go.Proofs.Ytmjdecgijnodhaa
theorem Taken.sub {now : Int} {S S' : Ent → Prop} {L : List Ent} (h : Taken now S L S') : (∀ x, S' x → S x) ∧ (∀ x ∈ L, S x ∧ x.tm ≤ now ∧ ∀ y, S' y → y.id ≠ x.id) ∧ (∀ x, S x → S' x ∨ ∃ y ∈ L, y.id = x.id) := by
  induction h with
  | nil => exact ⟨fun _ h => h, fun x hx => (by cases hx), fun x hx => .inl hx⟩
  | @snoc L S1 x hT hmin hle ih =>
    obtain ⟨i1, i2, i3⟩ := ih
    refine ⟨fun y hy => i1 y hy.1, fun y hy => ?_, fun y hy => ?_⟩
    · rcases List.mem_append.1 hy with h1 | h1
      · obtain ⟨a1, a2, a3⟩ := i2 y h1
        exact ⟨a1, a2, fun z hz => a3 z hz.1⟩
      · rw [List.mem_singleton.1 h1]
        exact ⟨i1 x hmin.1, hle, fun z hz => hz.2⟩
    · rcases i3 y hy with h1 | ⟨z, hz, e⟩
      · by_cases e : y.id = x.id
        · exact .inr ⟨x, by simp, e.symm⟩
        · exact .inl ⟨h1, e⟩
      · exact .inr ⟨z, by simp [hz], e⟩
/-- The ids are all different. -/
theorem Taken.nodup {now : Int} {S S' : Ent → Prop} {L : List Ent} (h : Taken now S L S') : (L.map (·.id)).Nodup := by
  induction h with
  | nil => simp
  | @snoc L S1 x hT hmin hle ih =>
    rw [List.map_append, List.map_singleton]
    refine List.nodup_append.2 ⟨ih, by simp, fun a ha b hb => ?_⟩
    obtain ⟨y, hy, rfl⟩ := List.mem_map.1 ha
    rw [List.mem_singleton.1 hb]
    exact fun e => (hT.sub.2.1 y hy).2.2 x hmin.1 e.symm
/-- Each comes behind the one ahead of it. -/
theorem Taken.sorted {now : Int} {S S' : Ent → Prop} {L : List Ent} (h : Taken now S L S') : ∀ (k : Nat) (x y : Ent), L[k]? = some x → L[k + 1]? = some y → ¬ ltE y x := by
  induction h with
  | nil => intro k x y hx; simp at hx
  | @snoc L S1 z hT hmin hle ih =>
    intro k x y hx hy
    by_cases e : k + 1 < L.length
    · rw [List.getElem?_append_left (by omega)] at hx
      rw [List.getElem?_append_left e] at hy
      exact ih k x y hx hy
    · have hk := (List.getElem?_eq_some_iff.1 hy).1
      rw [List.length_append, List.length_singleton] at hk
      have hkl : k + 1 = L.length := by omega
      rw [List.getElem?_append_right (by omega), hkl, Nat.sub_self] at hy
      have hy2 : y = z := (Option.some.inj hy).symm
      subst hy2
      rw [List.getElem?_append_left (by omega)] at hx
      -- x is the last of L: it was the first when y was there
      clear ih hy
      cases hT with
      | nil => simp at hkl
      | @snoc L1 S2 x' hT1 hmin1 hle1 =>
        have hx2 : x = x' := by
          rw [List.length_append, List.length_singleton] at hkl
          rw [List.getElem?_append_right (by omega)] at hx
          have : k - L1.length = 0 := by omega
          rw [this] at hx
          exact (Option.some.inj hx).symm
        subst hx2
        exact hmin1.2 y hmin.1.1
theorem Taken.last {now : Int} {S S' : Ent → Prop} {L : List Ent} (h : Taken now S L S') {x : Ent} (hx : L.getLast? = some x) : ∀ y, S' y → ¬ ltE y x := by
  cases h with
  | nil => cases hx
  | @snoc L1 S1 z hT hmin hle =>
    rw [List.getLast?_append] at hx
    have : z = x := by simpa using hx
    subst this
    exact fun y hy => hmin.2 y hy.1
/-- How many are due. -/
def dueN (T : Nat → Int) (now : Int) (n : Nat) : Nat := ((List.range n).filter fun i => decide (T i ≤ now)).length
theorem dueN_succ (T : Nat → Int) (now : Int) (n : Nat) : dueN T now (n + 1) = dueN T now n + (if T n ≤ now then 1 else 0) := by
  unfold dueN
  rw [List.range_succ, List.filter_append, List.length_append]
  by_cases h : T n ≤ now <;> simp [h]
theorem dueN_le (T : Nat → Int) (now : Int) (n : Nat) : dueN T now n ≤ n := by
  have := List.length_filter_le (fun i => decide (T i ≤ now)) (List.range n)
  rwa [List.length_range] at this
theorem len_sub : ∀ (l m : List Int), l.Nodup → (∀ x ∈ l, x ∈ m) → l.length ≤ m.length
  | [], _, _, _ => Nat.zero_le _
  | a :: l, m, hn, hs => by
    obtain ⟨h1, h2⟩ := List.nodup_cons.1 hn
    have ha := hs a (by simp)
    have := len_sub l (m.erase a) h2 (fun x hx => by
      have hne : x ≠ a := fun e => h1 (e ▸ hx)
      exact (List.mem_erase_of_ne hne).2 (hs x (by simp [hx])))
    rw [List.length_erase_of_mem ha] at this
    have := List.length_pos_of_mem ha
    simp only [List.length_cons]
    omega
/-- The entries of the ids below n. -/
def SN (T : Nat → Int) (Wf : Nat → Nat) (n : Nat) (x : Ent) : Prop := ∃ i : Nat, i < n ∧ x = ⟨(i : Int), T i, ((Wf i : Nat) : Int) + 1⟩
theorem dueL (T : Nat → Int) (now : Int) (n : Nat) : ((List.range n).filter fun i => decide (T i ≤ now)).map (fun i : Nat => (i : Int)) |>.Nodup := by
  show List.Pairwise (· ≠ ·) _
  rw [List.pairwise_map]
  exact (List.Pairwise.filter (fun i => decide (T i ≤ now)) (show List.Pairwise (· ≠ ·) (List.range n) from List.nodup_range)).imp (fun h e => h (by omega))
section
variable {T : Nat → Int} {Wf : Nat → Nat} {n : Nat} {now : Int} {L : List Ent} {S' : Ent → Prop}
theorem taken_le (h : Taken now (SN T Wf n) L S') : L.length ≤ dueN T now n := by
  have := len_sub (L.map (·.id)) (((List.range n).filter fun i => decide (T i ≤ now)).map (fun i : Nat => (i : Int))) h.nodup (fun x hx => by
    obtain ⟨y, hy, rfl⟩ := List.mem_map.1 hx
    obtain ⟨⟨i, hi, e⟩, hle, _⟩ := h.sub.2.1 y hy
    rw [e] at hle ⊢
    exact List.mem_map.2 ⟨i, List.mem_filter.2 ⟨List.mem_range.2 hi, by simpa using hle⟩, rfl⟩)
  simpa [dueN] using this
theorem taken_all (h : Taken now (SN T Wf n) L S') (hno : ∀ x, S' x → now < x.tm) : dueN T now n ≤ L.length := by
  have := len_sub (((List.range n).filter fun i => decide (T i ≤ now)).map (fun i : Nat => (i : Int))) (L.map (·.id)) (dueL T now n) (fun x hx => by
    obtain ⟨i, hi, rfl⟩ := List.mem_map.1 hx
    obtain ⟨h1, h2⟩ := List.mem_filter.1 hi
    rcases h.sub.2.2 ⟨(i : Int), T i, ((Wf i : Nat) : Int) + 1⟩ ⟨i, List.mem_range.1 h1, rfl⟩ with h3 | ⟨y, hy, e⟩
    · have := hno _ h3
      have h4 : T i ≤ now := by simpa using h2
      exact absurd this (by show ¬ now < T i; omega)
    · exact List.mem_map.2 ⟨y, hy, e⟩)
  simpa [dueN] using this
/-- Where all that are due were taken, what is left is not due. -/
theorem taken_rest (h : Taken now (SN T Wf n) L S') (hl : dueN T now n ≤ L.length) : ∀ x, S' x → now < x.tm := fun x hx => by
  rcases Int.lt_or_le now x.tm with h1 | h1
  · exact h1
  · exfalso
    have hx0 := h.sub.1 x hx
    have := len_sub (x.id :: L.map (·.id)) (((List.range n).filter fun i => decide (T i ≤ now)).map (fun i : Nat => (i : Int))) (List.nodup_cons.2 ⟨fun hm => by
      obtain ⟨y, hy, e⟩ := List.mem_map.1 hm
      exact (h.sub.2.1 y hy).2.2 x hx e.symm, h.nodup⟩) (fun z hz => by
      rcases List.mem_cons.1 hz with rfl | hz
      · obtain ⟨i, hi, e⟩ := hx0
        rw [e] at h1 ⊢
        exact List.mem_map.2 ⟨i, List.mem_filter.2 ⟨List.mem_range.2 hi, by simpa using h1⟩, rfl⟩
      · obtain ⟨y, hy, rfl⟩ := List.mem_map.1 hz
        obtain ⟨⟨i, hi, e⟩, hle, _⟩ := h.sub.2.1 y hy
        rw [e] at hle ⊢
        exact List.mem_map.2 ⟨i, List.mem_filter.2 ⟨List.mem_range.2 hi, by simpa using hle⟩, rfl⟩)
    simp only [List.length_cons, List.length_map] at this
    unfold dueN at hl
    omega
end
end Go.Proofs.Ytmjdecgijnodhaa
