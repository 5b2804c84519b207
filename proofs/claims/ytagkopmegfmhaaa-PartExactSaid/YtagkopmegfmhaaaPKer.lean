/- A pattern is known by which of its places are in one block: plain facts on rows; nothing of the program. -/
import Derived.Test.YtagkopmegfmhaaaPOf
namespace Go.Proofs.Ytagkopmegfmhaaa
open Go.RowKit
theorem distG_app (L l : List Int) : ∃ s, distG L l = L ++ s := by
  induction l generalizing L with
  | nil => exact ⟨[], by simp [distG]⟩
  | cons z l ih =>
    obtain ⟨s, hs⟩ := ih (if z ∈ L then L else L ++ [z])
    by_cases hz : z ∈ L
    · rw [if_pos hz] at hs
      exact ⟨s, by show distG (if z ∈ L then L else L ++ [z]) l = _; rw [if_pos hz]; exact hs⟩
    · rw [if_neg hz] at hs
      exact ⟨z :: s, by show distG (if z ∈ L then L else L ++ [z]) l = _; rw [if_neg hz, hs]; simp⟩
theorem mem_dist (L l : List Int) {z : Int} (h : z ∈ l) : z ∈ distG L l := by
  induction l generalizing L with
  | nil => cases h
  | cons y l ih =>
    rcases List.mem_cons.1 h with rfl | h
    · obtain ⟨s, hs⟩ := distG_app (if z ∈ L then L else L ++ [z]) l
      show z ∈ distG (if z ∈ L then L else L ++ [z]) l
      rw [hs]
      by_cases hz : z ∈ L <;> simp [hz]
    · exact ih _ h
theorem pat_map (L l : List Int) : patG L l = l.map fun z => (distG L l).idxOf z := by
  induction l generalizing L with
  | nil => rfl
  | cons z l ih =>
    rw [patG, ih, List.map_cons]
    show _ = (distG (if z ∈ L then L else L ++ [z]) l).idxOf z :: _
    congr 1
    obtain ⟨s, hs⟩ := distG_app (if z ∈ L then L else L ++ [z]) l
    rw [hs]
    by_cases hz : z ∈ L
    · rw [if_pos hz, List.idxOf_append, if_pos hz]
    · rw [if_neg hz, List.idxOf_append, if_pos (by simp), List.idxOf_append, if_neg hz, List.idxOf_eq_length hz]
      simp
/-- Two places of a pattern are in one block just if their labels are the same. -/
theorem pat_ker {l : List Int} {i j : Nat} {y z : Int} (hi : l[i]? = some y) (hj : l[j]? = some z) : (pat l)[i]? = (pat l)[j]? ↔ y = z := by
  unfold pat
  rw [pat_map, List.getElem?_map, List.getElem?_map, hi, hj]
  constructor
  · intro h
    have h : (distG [] l).idxOf y = (distG [] l).idxOf z := by simpa using h
    have hy := mem_dist [] l (List.mem_of_getElem? hi)
    have hz := mem_dist [] l (List.mem_of_getElem? hj)
    have e1 : (distG [] l)[(distG [] l).idxOf y]? = some y := by rw [List.getElem?_eq_getElem (List.idxOf_lt_length_of_mem hy), List.getElem_idxOf]
    have e2 : (distG [] l)[(distG [] l).idxOf z]? = some z := by rw [List.getElem?_eq_getElem (List.idxOf_lt_length_of_mem hz), List.getElem_idxOf]
    rw [h, e2] at e1
    exact (Option.some.inj e1).symm
  · rintro rfl; rfl
/-- In a pattern every block that is there has a place. -/
theorem occurs {b : Nat} {p : List Nat} (h : Leg b p) {x : Nat} (hb : b ≤ x) (hx : x < blks b p) : x ∈ p := by
  induction p generalizing b with
  | nil => simp [blks] at hx; omega
  | cons y p ih =>
    by_cases e : x = y
    · subst e; simp
    · refine List.mem_cons_of_mem _ (ih h.2 ?_ hx)
      have := h.1
      omega
/-- Patterns of one length that part the places alike are one. -/
theorem leg_uniq {a c : List Nat} (ha : Leg 0 a) (hc : Leg 0 c) (hl : a.length = c.length) (hk : ∀ i j, i < a.length → j < a.length → (a[i]? = a[j]? ↔ c[i]? = c[j]?)) : a = c := by
  have key : ∀ n, n ≤ a.length → a.take n = c.take n := by
    intro n
    induction n with
    | zero => intro _; rfl
    | succ n ih =>
      intro hn
      have ih := ih (by omega)
      obtain ⟨x, hx⟩ : ∃ x, a[n]? = some x := ⟨_, List.getElem?_eq_getElem (by omega)⟩
      obtain ⟨y, hy⟩ : ∃ y, c[n]? = some y := ⟨_, List.getElem?_eq_getElem (by omega)⟩
      have lx := leg_at ha hx
      have ly := leg_at hc hy
      rw [take_snoc hx, take_snoc hy, ih]
      have hla : Leg 0 (a.take n) := (Leg.app (p := a.take n) (t := a.drop n)).1 (by rw [List.take_append_drop]; exact ha) |>.1
      have seen : ∀ z, z < blks 0 (a.take n) → ∃ i, i < n ∧ a[i]? = some z ∧ c[i]? = some z := fun z hz => by
        obtain ⟨i, hi⟩ := List.getElem?_of_mem (occurs hla (Nat.zero_le _) hz)
        have hin : i < n := by have := (List.getElem?_eq_some_iff.1 hi).1; rw [List.length_take] at this; omega
        have h1 : a[i]? = some z := by rwa [List.getElem?_take_of_lt hin] at hi
        rw [ih, List.getElem?_take_of_lt hin] at hi
        exact ⟨i, hin, h1, hi⟩
      have e : x = y := by
        rcases Nat.lt_or_ge x (blks 0 (a.take n)) with h | h
        · obtain ⟨i, hi, h1, h2⟩ := seen x h
          have := (hk i n (by omega) (by omega)).1 (by rw [h1, hx])
          rw [h2, hy] at this
          exact Option.some.inj this
        · rcases Nat.lt_or_ge y (blks 0 (a.take n)) with h' | h'
          · obtain ⟨i, hi, h1, h2⟩ := seen y h'
            have := (hk i n (by omega) (by omega)).2 (by rw [h2, hy])
            rw [h1, hx] at this
            exact (Option.some.inj this).symm
          · rw [← ih] at ly; omega
      rw [e]
  have := key a.length (Nat.le_refl _)
  rwa [List.take_length, hl, List.take_length] at this
/-- Each block of a is within one of b. -/
def Finr (a b : List Nat) : Prop := ∀ i j, i < a.length → j < a.length → a[i]? = a[j]? → b[i]? = b[j]?
/-- Labels of the places of two rows. -/
def pairs (a b : List Nat) : List Int := List.zipWith (fun x y => ((x * 25 + y : Nat) : Int)) a b
theorem pairs_len {a b : List Nat} (h : a.length = b.length) : (pairs a b).length = a.length := by simp [pairs, h]
theorem pairs_at {a b : List Nat} {i x y : Nat} (hx : a[i]? = some x) (hy : b[i]? = some y) : (pairs a b)[i]? = some ((x * 25 + y : Nat) : Int) := by
  simp [pairs, List.getElem?_zipWith, hx, hy]
theorem leg_small {a : List Nat} (h : Leg 0 a) (hn : a.length ≤ 25) {i x : Nat} (hx : a[i]? = some x) : x < 25 := by
  have h1 := leg_at h hx
  have hla : Leg 0 (a.take i) := (Leg.app (p := a.take i) (t := a.drop i)).1 (by rw [List.take_append_drop]; exact h) |>.1
  have h2 := blks_leg hla
  have h3 := (List.getElem?_eq_some_iff.1 hx).1
  rw [List.length_take] at h2
  omega
/-- Places of the meet: in one block just if they are in one of both. -/
theorem meet_ker {a b : List Nat} (hb : Leg 0 b) (hl : a.length = b.length) (hn : b.length ≤ 25) {i j : Nat} (hi : i < a.length) (hj : j < a.length) :
    (pat (pairs a b))[i]? = (pat (pairs a b))[j]? ↔ (a[i]? = a[j]? ∧ b[i]? = b[j]?) := by
  obtain ⟨x, hx⟩ : ∃ x, a[i]? = some x := ⟨_, List.getElem?_eq_getElem hi⟩
  obtain ⟨x', hx'⟩ : ∃ x, a[j]? = some x := ⟨_, List.getElem?_eq_getElem hj⟩
  obtain ⟨y, hy⟩ : ∃ x, b[i]? = some x := ⟨_, List.getElem?_eq_getElem (by omega)⟩
  obtain ⟨y', hy'⟩ : ∃ x, b[j]? = some x := ⟨_, List.getElem?_eq_getElem (by omega)⟩
  have s1 := leg_small hb hn hy
  have s2 := leg_small hb hn hy'
  rw [pat_ker (pairs_at hx hy) (pairs_at hx' hy'), hx, hx', hy, hy']
  simp only [Option.some.injEq]
  constructor
  · intro h; omega
  · rintro ⟨rfl, rfl⟩; rfl
theorem pat_len (l : List Int) : (pat l).length = l.length := patG_len [] l
theorem leg_pat0 (l : List Int) : Leg 0 (pat l) := leg_pat [] l
theorem finer_iff {a b : List Nat} (ha : Leg 0 a) (hb : Leg 0 b) (hl : a.length = b.length) (hn : b.length ≤ 25) : pat (pairs a b) = a ↔ Finr a b := by
  constructor
  · intro h i j hi hj e
    have := (meet_ker hb hl hn hi hj).1 (by rw [h]; exact e)
    exact this.2
  · intro h
    refine leg_uniq (leg_pat0 _) ha (by rw [pat_len, pairs_len hl]) fun i j hi hj => ?_
    rw [pat_len, pairs_len hl] at hi hj
    rw [meet_ker hb hl hn hi hj]
    exact ⟨fun h => h.1, fun e => ⟨e, h i j hi hj e⟩⟩
end Go.Proofs.Ytagkopmegfmhaaa
