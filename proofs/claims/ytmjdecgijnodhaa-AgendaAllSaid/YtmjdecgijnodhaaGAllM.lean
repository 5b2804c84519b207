/- Plain facts: entries set in order of time, those of one time in the order in which they were set. -/
import Derived.Test.YtmjdecgijnodhaaGSortM
namespace Go.Proofs.Ytmjdecgijnodhaa
/-- Where an entry of time t is put among n entries of times ts. -/
def kpos (ts : List Int) (t : Int) : Nat → Nat
  | 0 => 0
  | n + 1 => if t < ts.getD n 0 then kpos ts t n else n + 1
theorem kpos_le (ts : List Int) (t : Int) : ∀ n, kpos ts t n ≤ n
  | 0 => Nat.le_refl _
  | n + 1 => by
    unfold kpos
    have := kpos_le ts t n
    split <;> omega
theorem kpos_hi (ts : List Int) (t : Int) : ∀ n j, kpos ts t n ≤ j → j < n → t < ts.getD j 0
  | 0, j, _, h => by omega
  | n + 1, j, h1, h2 => by
    unfold kpos at h1
    split at h1
    · by_cases e : j = n
      · subst e; assumption
      · exact kpos_hi ts t n j h1 (by omega)
    · omega
theorem kpos_lo (ts : List Int) (t : Int) : ∀ n k, kpos ts t n = k + 1 → ts.getD k 0 ≤ t
  | 0, k, h => by cases h
  | n + 1, k, h => by
    unfold kpos at h
    split at h
    · exact kpos_lo ts t n k h
    · obtain rfl : n = k := by omega
      omega
def insE (l : List Ent) (x : Ent) : List Ent := l.take (kpos (l.map (·.tm)) x.tm l.length) ++ x :: l.drop (kpos (l.map (·.tm)) x.tm l.length)
theorem insE_mem (l : List Ent) (x y : Ent) : y ∈ insE l x ↔ y = x ∨ y ∈ l := by
  unfold insE
  rw [List.mem_append, List.mem_cons]
  have h : y ∈ l ↔ y ∈ l.take (kpos (l.map (·.tm)) x.tm l.length) ∨ y ∈ l.drop (kpos (l.map (·.tm)) x.tm l.length) := by
    rw [← List.mem_append, List.take_append_drop]
  rw [h]
  exact ⟨fun h => h.elim (fun a => .inr (.inl a)) (fun a => a.elim .inl (fun b => .inr (.inr b))), fun h => h.elim (fun a => .inr (.inl a)) (fun a => a.elim .inl (fun b => .inr (.inr b)))⟩
theorem tm_at {l : List Ent} {i : Nat} {a : Ent} (h : l[i]? = some a) : (l.map (·.tm)).getD i 0 = a.tm := by
  rw [List.getD_eq_getElem?_getD, List.getElem?_map, h]; rfl
theorem insE_sorted {l : List Ent} {x : Ent} (h : l.Pairwise ltE) (hx : ∀ y ∈ l, y.turn < x.turn) : (insE l x).Pairwise ltE := by
  unfold insE
  generalize hk : kpos (l.map (·.tm)) x.tm l.length = k
  have hkl : k ≤ l.length := by rw [← hk]; exact kpos_le _ _ _
  have hp : (l.take k ++ l.drop k).Pairwise ltE := by rw [List.take_append_drop]; exact h
  obtain ⟨h1, h2, h3⟩ := List.pairwise_append.1 hp
  have hlo : ∀ a ∈ l.take k, ltE a x := fun a ha => by
    obtain ⟨i, hi⟩ := List.getElem?_of_mem ha
    have hik : i < k := by have := (List.getElem?_eq_some_iff.1 hi).1; rw [List.length_take] at this; omega
    rw [List.getElem?_take_of_lt hik] at hi
    obtain ⟨k', rfl⟩ : ∃ k', k = k' + 1 := ⟨k - 1, by omega⟩
    have hl := kpos_lo _ _ _ _ hk
    obtain ⟨b, hb⟩ : ∃ b, l[k']? = some b := ⟨_, List.getElem?_eq_getElem (by omega)⟩
    rw [tm_at hb] at hl
    have hturn := hx a (List.mem_of_getElem? hi)
    have hab : a.tm ≤ b.tm := by
      by_cases e : i = k'
      · subst e; rw [hi] at hb; cases hb; exact Int.le_refl _
      · obtain ⟨l1, e1⟩ := List.getElem?_eq_some_iff.1 hi
        obtain ⟨l2, e2⟩ := List.getElem?_eq_some_iff.1 hb
        have := List.pairwise_iff_getElem.1 h i k' l1 l2 (by omega)
        rw [e1, e2] at this
        unfold ltE at this
        omega
    unfold ltE
    omega
  have hhi : ∀ b ∈ l.drop k, ltE x b := fun b hb => by
    obtain ⟨i, hi⟩ := List.getElem?_of_mem hb
    rw [List.getElem?_drop] at hi
    have hl := (List.getElem?_eq_some_iff.1 hi).1
    have := kpos_hi (l.map (·.tm)) x.tm l.length (k + i) (by omega) hl
    rw [tm_at hi] at this
    exact .inl this
  refine List.pairwise_append.2 ⟨h1, List.pairwise_cons.2 ⟨hhi, h2⟩, fun a ha b hb => ?_⟩
  rcases List.mem_cons.1 hb with rfl | hb
  · exact hlo a ha
  · exact h3 a ha b hb
/-- The entries in order. -/
def allE (L : List Ent) : List Ent := L.foldl insE []
theorem allE_snoc (L : List Ent) (x : Ent) : allE (L ++ [x]) = insE (allE L) x := by simp [allE]
theorem fold_ok : ∀ (L acc : List Ent), acc.Pairwise ltE → (∀ a ∈ acc, ∀ b ∈ L, a.turn < b.turn) → (L.Pairwise fun a b => a.turn < b.turn) → (L.foldl insE acc).Pairwise ltE ∧ ∀ y, y ∈ L.foldl insE acc ↔ y ∈ acc ∨ y ∈ L
  | [], acc, h, _, _ => ⟨h, fun y => by simp⟩
  | x :: L, acc, h, hac, hL => by
    obtain ⟨hx, hL⟩ := List.pairwise_cons.1 hL
    have h2 := fold_ok L (insE acc x) (insE_sorted h fun y hy => hac y hy x (by simp)) (fun a ha b hb => by
      rcases (insE_mem acc x a).1 ha with rfl | ha
      · exact hx b hb
      · exact hac a ha b (by simp [hb])) hL
    refine ⟨h2.1, fun y => ?_⟩
    rw [List.foldl_cons, h2.2, insE_mem, List.mem_cons]
    exact ⟨fun h => h.elim (fun a => a.elim (fun b => .inr (.inl b)) .inl) (fun a => .inr (.inr a)), fun h => h.elim (fun a => .inl (.inr a)) (fun a => a.elim (fun b => .inl (.inl b)) .inr)⟩
theorem allE_ok (L : List Ent) (h : L.Pairwise fun a b => a.turn < b.turn) : (allE L).Pairwise ltE ∧ ∀ y, y ∈ allE L ↔ y ∈ L := by
  obtain ⟨h1, h2⟩ := fold_ok L [] .nil (fun a ha => by cases ha) h
  exact ⟨h1, fun y => by have := h2 y; unfold allE; simpa using this⟩
/-- The same over pairs of id and time, as the document's agenda has them. -/
def prE (x : Ent) : Int × Int := (x.id, x.tm)
def insP (l : List (Int × Int)) (x : Int × Int) : List (Int × Int) := l.take (kpos (l.map (·.2)) x.2 l.length) ++ x :: l.drop (kpos (l.map (·.2)) x.2 l.length)
def allP (L : List (Int × Int)) : List (Int × Int) := L.foldl insP []
theorem insP_map (l : List Ent) (x : Ent) : (insE l x).map prE = insP (l.map prE) (prE x) := by
  have e : (l.map prE).map (·.2) = l.map (·.tm) := by rw [List.map_map]; rfl
  unfold insE insP
  rw [e, List.length_map, List.map_append, List.map_cons, List.map_take, List.map_drop]
  rfl
theorem allP_fold : ∀ (L acc : List Ent), (L.foldl insE acc).map prE = (L.map prE).foldl insP (acc.map prE)
  | [], acc => rfl
  | x :: L, acc => by rw [List.foldl_cons, List.map_cons, List.foldl_cons, allP_fold L, insP_map]
theorem allP_map (L : List Ent) : (allE L).map prE = allP (L.map prE) := allP_fold L []
theorem allP_snoc (L : List (Int × Int)) (x : Int × Int) : allP (L ++ [x]) = insP (allP L) x := by simp [allP]
end Go.Proofs.Ytmjdecgijnodhaa
