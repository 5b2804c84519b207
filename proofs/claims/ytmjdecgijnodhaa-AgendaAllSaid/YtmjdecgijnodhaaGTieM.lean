/- Both agendas told by one row of entries: plain facts. -/
import Derived.Test.YtmjdecgijnodhaaGDue
import Derived.Test.YtmjdecgijnodhaaGAllM
import Derived.Test.YtmjdecgijnodhaaGRefS
namespace Go.Proofs.Ytmjdecgijnodhaa
/-- Entries as they were set: their turns rise, their ids are apart. -/
structure Ti (M : List Ent) (sets : Nat) : Prop where
  rise : M.Pairwise fun a b => a.turn < b.turn
  ids : (M.map (·.id)).Nodup
  le : ∀ x ∈ M, x.turn ≤ (sets : Int)
def remE (M : List Ent) (id : Int) : List Ent := M.filter fun x => x.id != id
theorem mem_remE {M : List Ent} {id : Int} {x : Ent} : x ∈ remE M id ↔ x ∈ M ∧ x.id ≠ id := by simp [remE]
theorem remE_map (M : List Ent) (id : Int) : (remE M id).map prE = dropL (M.map prE) id := by
  unfold remE dropL
  rw [List.filter_map]
  rfl
theorem Ti.rem {M : List Ent} {sets : Nat} (h : Ti M sets) (id : Int) : Ti (remE M id) sets :=
  ⟨h.rise.filter _, h.ids.sublist (List.Sublist.map _ List.filter_sublist), fun x hx => h.le x (mem_remE.1 hx).1⟩
theorem Ti.set {M : List Ent} {sets : Nat} (h : Ti M sets) (id tm : Int) : Ti (remE M id ++ [⟨id, tm, (sets : Int) + 1⟩]) (sets + 1) := by
  have hr := h.rem id
  refine ⟨?_, ?_, fun x hx => ?_⟩
  · rw [List.pairwise_append]
    refine ⟨hr.rise, by simp, fun x hx y hy => ?_⟩
    rw [List.mem_singleton] at hy
    subst hy
    have := hr.le x hx
    show x.turn < (sets : Int) + 1
    omega
  · rw [List.map_append, List.nodup_append]
    refine ⟨hr.ids, by simp, fun x hx y hy e => ?_⟩
    obtain ⟨z, hz, rfl⟩ := List.mem_map.1 hx
    simp at hy
    exact (mem_remE.1 hz).2 (e.trans hy)
  · rcases List.mem_append.1 hx with hx | hx
    · have := hr.le x hx; omega
    · rw [List.mem_singleton] at hx; subst hx; show (sets : Int) + 1 ≤ _; omega
theorem Ti.nil : Ti [] 0 := ⟨.nil, by simp, fun x hx => by cases hx⟩
theorem Ti.inj {M : List Ent} {sets : Nat} (h : Ti M sets) {x y : Ent} (hx : x ∈ M) (hy : y ∈ M) (e : x.turn = y.turn) : x = y := by
  obtain ⟨i, hi⟩ := List.getElem?_of_mem hx
  obtain ⟨j, hj⟩ := List.getElem?_of_mem hy
  obtain ⟨l1, e1⟩ := List.getElem?_eq_some_iff.1 hi
  obtain ⟨l2, e2⟩ := List.getElem?_eq_some_iff.1 hj
  rcases Nat.lt_trichotomy i j with hlt | rfl | hlt
  · have := List.pairwise_iff_getElem.1 h.rise i j l1 l2 hlt
    rw [e1, e2] at this; omega
  · exact e1.symm.trans e2
  · have := List.pairwise_iff_getElem.1 h.rise j i l2 l1 hlt
    rw [e1, e2] at this; omega
theorem Ti.idinj {M : List Ent} {sets : Nat} (h : Ti M sets) {x y : Ent} (hx : x ∈ M) (hy : y ∈ M) (e : x.id = y.id) : x = y := by
  have key : ∀ (M : List Ent), (M.map (·.id)).Nodup → x ∈ M → y ∈ M → x = y := by
    intro M
    induction M with
    | nil => intro _ hx; cases hx
    | cons a M ih =>
      intro hn hx hy
      rw [List.map_cons, List.nodup_cons] at hn
      rcases List.mem_cons.1 hx with h1 | h1
      · rcases List.mem_cons.1 hy with h2 | h2
        · exact h1.trans h2.symm
        · exact absurd (List.mem_map.2 ⟨y, h2, by rw [← e, h1]⟩) hn.1
      · rcases List.mem_cons.1 hy with h2 | h2
        · exact absurd (List.mem_map.2 ⟨x, h1, by rw [e, h2]⟩) hn.1
        · exact ih hn.2 h1 h2
  exact key M h.ids hx hy
theorem len_rem (id : Int) : ∀ (M : List Ent), (M.map (·.id)).Nodup → M.length = (remE M id).length + (if ∃ x ∈ M, x.id = id then 1 else 0)
  | [], _ => by simp [remE]
  | a :: M, hn => by
    rw [List.map_cons, List.nodup_cons] at hn
    have ih := len_rem id M hn.2
    by_cases e : a.id = id
    · have h1 : ¬ ∃ x ∈ M, x.id = id := fun ⟨x, hx, ex⟩ => hn.1 (List.mem_map.2 ⟨x, hx, ex.trans e.symm⟩)
      rw [if_neg h1] at ih
      rw [if_pos ⟨a, by simp, e⟩]
      have h2 : remE (a :: M) id = remE M id := by simp [remE, e]
      rw [h2, List.length_cons, ih]
    · have h2 : remE (a :: M) id = a :: remE M id := by simp [remE, e]
      have h3 : (∃ x ∈ a :: M, x.id = id) ↔ ∃ x ∈ M, x.id = id := by simp [e]
      rw [h2, List.length_cons, List.length_cons]
      by_cases h4 : ∃ x ∈ M, x.id = id
      · rw [if_pos h4] at ih; rw [if_pos (h3.2 h4)]; omega
      · rw [if_neg h4] at ih; rw [if_neg (fun h => h4 (h3.1 h))]; omega
/-- What is taken, one after the other. -/
def remL (M L : List Ent) : List Ent := L.foldl (fun M x => remE M x.id) M
theorem remL_snoc (M L : List Ent) (x : Ent) : remL M (L ++ [x]) = remE (remL M L) x.id := by simp [remL]
theorem Ti.remL {M : List Ent} {sets : Nat} (h : Ti M sets) : ∀ L : List Ent, Ti (remL M L) sets := by
  intro L
  unfold Go.Proofs.Ytmjdecgijnodhaa.remL
  induction L generalizing M with
  | nil => exact h
  | cons x L ih => exact ih (h.rem x.id)
theorem mem_remL {M L : List Ent} {x : Ent} : x ∈ remL M L ↔ x ∈ M ∧ ∀ y ∈ L, x.id ≠ y.id := by
  unfold remL
  induction L generalizing M with
  | nil => simp
  | cons a L ih => rw [List.foldl_cons, ih, mem_remE]; simp [and_assoc]
theorem taken_rem {now : Int} {M : List Ent} {S : Ent → Prop} (hS : ∀ x, S x ↔ x ∈ M) {L : List Ent} {S' : Ent → Prop} (h : Taken now S L S') : ∀ y, S' y ↔ y ∈ remL M L := by
  induction h with
  | nil => exact hS
  | snoc _ _ _ ih => intro y; rw [remL_snoc, mem_remE, ← ih]
theorem min_head {l : List Ent} {x : Ent} {rest : List Ent} (hs : l.Pairwise ltE) (e : l = x :: rest) {S : Ent → Prop} (hm : ∀ y, S y ↔ y ∈ l) : MinS S x := by
  subst e
  rw [List.pairwise_cons] at hs
  refine ⟨(hm x).2 (by simp), fun y hy hlt => ?_⟩
  rcases List.mem_cons.1 ((hm y).1 hy) with rfl | hy
  · exact ltE.irrefl _ hlt
  · exact (hs.1 y hy).asymm hlt
theorem min_uniq {M : List Ent} {sets : Nat} (h : Ti M sets) {S : Ent → Prop} (hS : ∀ x, S x → x ∈ M) {x y : Ent} (hx : MinS S x) (hy : MinS S y) : x = y := by
  refine h.inj (hS x hx.1) (hS y hy.1) ?_
  have h1 := hx.2 y hy.1
  have h2 := hy.2 x hx.1
  unfold ltE at h1 h2
  omega
/-- What Due takes is how All begins. -/
theorem taken_all' {now : Int} {M : List Ent} {sets : Nat} (h : Ti M sets) {S : Ent → Prop} (hS : ∀ x, S x ↔ x ∈ M) {L : List Ent} {S' : Ent → Prop} (hT : Taken now S L S') : L.length ≤ (allE M).length ∧ L = (allE M).take L.length ∧ (∀ y, S' y ↔ y ∈ (allE M).drop L.length) ∧ ∀ x ∈ L, x.tm ≤ now := by
  obtain ⟨hsrt, hmem⟩ := allE_ok M h.rise
  induction hT with
  | nil => exact ⟨Nat.zero_le _, by simp, fun y => by rw [hS, List.length_nil, List.drop_zero, hmem], fun x hx => by cases hx⟩
  | @snoc L S1 x _ hm hle ih =>
    obtain ⟨h0, h1, h2, h3⟩ := ih
    have hin : ∀ y, S1 y → y ∈ M := fun y hy => (hmem y).1 (List.mem_of_mem_drop ((h2 y).1 hy))
    cases hd : (allE M).drop L.length with
    | nil => rw [hd] at h2; exact absurd ((h2 x).1 hm.1) (by simp)
    | cons z rest =>
      have hz : MinS S1 z := min_head (hsrt.sublist (List.drop_sublist _ _)) hd h2
      obtain rfl := min_uniq h hin hm hz
      have hlt : L.length < (allE M).length := by
        apply Decidable.byContradiction
        intro hc
        rw [List.drop_eq_nil_of_le (by omega)] at hd
        cases hd
      have hget : (allE M)[L.length]? = some x := by
        have : ((allE M).drop L.length)[0]? = some x := by rw [hd]; rfl
        rwa [List.getElem?_drop, Nat.add_zero] at this
      have hd2 : (allE M).drop (L.length + 1) = rest := by
        rw [← List.drop_drop, hd]; rfl
      refine ⟨by rw [List.length_append]; simp; omega, ?_, fun y => ?_, fun y hy => ?_⟩
      · rw [List.length_append]
        show L ++ [x] = (allE M).take (L.length + 1)
        rw [List.take_add_one, hget, ← h1]; rfl
      · rw [List.length_append]
        show (S1 y ∧ y.id ≠ x.id) ↔ y ∈ (allE M).drop (L.length + 1)
        rw [hd2, h2, hd, List.mem_cons]
        have hsr : (x :: rest).Pairwise ltE := by rw [← hd]; exact hsrt.sublist (List.drop_sublist _ _)
        rw [List.pairwise_cons] at hsr
        constructor
        · rintro ⟨e | hy, hne⟩
          · exact absurd (by rw [e]) hne
          · exact hy
        · intro hy
          refine ⟨.inr hy, fun e => ?_⟩
          have hyM : y ∈ M := (hmem y).1 (List.mem_of_mem_drop (by rw [hd]; exact List.mem_cons_of_mem _ hy : y ∈ (allE M).drop L.length))
          have := h.idinj hyM (hin x hm.1) e
          subst this
          exact ltE.irrefl _ (hsr.1 y hy)
      · rcases List.mem_append.1 hy with hy | hy
        · exact h3 y hy
        · rw [List.mem_singleton] at hy; subst hy; exact hle
/-- How many Due takes. -/
def dueK (A : List (Int × Int)) (now most : Int) : Nat := min most.toNat (A.takeWhile fun x => decide (x.2 ≤ now)).length
theorem tw_ge : ∀ (A : List (Int × Int)) (now : Int) (k : Nat), k ≤ A.length → (∀ x ∈ A.take k, x.2 ≤ now) → k ≤ (A.takeWhile fun x => decide (x.2 ≤ now)).length
  | _, _, 0, _, _ => Nat.zero_le _
  | [], _, k + 1, h, _ => by simp at h
  | a :: A, now, k + 1, h, hh => by
    have ha : a.2 ≤ now := hh a (by simp)
    rw [List.takeWhile_cons, if_pos (by simpa using ha), List.length_cons]
    have := tw_ge A now k (by simpa using h) fun x hx => hh x (by simp [hx])
    omega
theorem tw_le : ∀ (A : List (Int × Int)) (now : Int) (k : Nat) (x : Int × Int), A[k]? = some x → now < x.2 → (A.takeWhile fun x => decide (x.2 ≤ now)).length ≤ k
  | [], _, k, x, h, _ => by simp at h
  | a :: A, now, 0, x, h, hx => by
    simp at h
    subst h
    rw [List.takeWhile_cons, if_neg (by simp; omega)]; simp
  | a :: A, now, k + 1, x, h, hx => by
    rw [List.takeWhile_cons]
    split
    · have := tw_le A now k x (by simpa using h) hx
      simp; omega
    · simp
theorem tw_len (A : List (Int × Int)) (now : Int) : (A.takeWhile fun x => decide (x.2 ≤ now)).length ≤ A.length := by
  induction A with
  | nil => simp
  | cons a A ih => rw [List.takeWhile_cons]; split <;> simp; exact ih
theorem allE_len (M : List Ent) : (allE M).length = M.length := by
  have key : ∀ (L acc : List Ent), (L.foldl insE acc).length = acc.length + L.length := by
    intro L
    induction L with
    | nil => intro acc; simp
    | cons x L ih =>
      intro acc
      rw [List.foldl_cons, ih]
      have : (insE acc x).length = acc.length + 1 := by
        unfold insE
        have := kpos_le (acc.map (·.tm)) x.tm acc.length
        simp; omega
      rw [this, List.length_cons]; omega
  simpa [allE] using key M []
/-- The program's Due takes as many as the document's. -/
theorem due_len {now most : Int} {M : List Ent} {sets : Nat} (h : Ti M sets) {S : Ent → Prop} (hS : ∀ x, S x ↔ x ∈ M) {L : List Ent} {S' : Ent → Prop} {n' : Nat} (hT : Taken now S L S') (hn : M.length = L.length + n') (h1 : (L.length : Int) ≤ most ∨ L = []) (h2 : most ≤ (L.length : Int) ∨ n' = 0 ∨ ∃ x, MinS S' x ∧ now < x.tm) : L.length = dueK (allP (M.map prE)) now most ∧ L.map prE = (allP (M.map prE)).take L.length := by
  obtain ⟨a0, a1, a2, a3⟩ := taken_all' h hS hT
  have hP := allP_map M
  have hlen := allE_len M
  have hpre : L.map prE = (allP (M.map prE)).take L.length := by
    rw [← hP, ← List.map_take, ← a1]
  refine ⟨?_, hpre⟩
  have hl2 : (allP (M.map prE)).length = M.length := by rw [← hP, List.length_map, hlen]
  have hge := tw_ge (allP (M.map prE)) now L.length (by omega) fun x hx => by
    rw [← hpre] at hx
    obtain ⟨y, hy, rfl⟩ := List.mem_map.1 hx
    exact a3 y hy
  have htl := tw_len (allP (M.map prE)) now
  unfold dueK
  rcases h1 with h1 | h1
  · rcases h2 with h2 | h2 | ⟨x, hx, hlt⟩
    · omega
    · omega
    · have hle := tw_le (allP (M.map prE)) now L.length (prE x) (by
        cases hd : (allE M).drop L.length with
        | nil => rw [hd] at a2; exact absurd ((a2 x).1 hx.1) (by simp)
        | cons z rest =>
          obtain ⟨hsrt, hmem⟩ := allE_ok M h.rise
          have hz : MinS S' z := min_head (hsrt.sublist (List.drop_sublist _ _)) hd a2
          obtain rfl := min_uniq h (fun y hy => (hmem y).1 (List.mem_of_mem_drop ((a2 y).1 hy))) hx hz
          have : ((allE M).drop L.length)[0]? = some x := by rw [hd]; rfl
          rw [List.getElem?_drop, Nat.add_zero] at this
          rw [← hP, List.getElem?_map, this]; rfl) hlt
      omega
  · subst h1
    rw [List.length_nil] at *
    rcases h2 with h2 | h2 | ⟨x, hx, hlt⟩
    · have : most.toNat = 0 := by simp at h2; omega
      omega
    · have : M.length = 0 := by omega
      omega
    · have hle := tw_le (allP (M.map prE)) now 0 (prE x) (by
        cases hd : (allE M).drop 0 with
        | nil => rw [hd] at a2; exact absurd ((a2 x).1 hx.1) (by simp)
        | cons z rest =>
          obtain ⟨hsrt, hmem⟩ := allE_ok M h.rise
          have hz : MinS S' z := min_head (hsrt.sublist (List.drop_sublist _ _)) hd a2
          obtain rfl := min_uniq h (fun y hy => (hmem y).1 (List.mem_of_mem_drop ((a2 y).1 hy))) hx hz
          have : ((allE M).drop 0)[0]? = some x := by rw [hd]; rfl
          rw [List.getElem?_drop, Nat.add_zero] at this
          rw [← hP, List.getElem?_map, this]; rfl) hlt
      omega
end Go.Proofs.Ytmjdecgijnodhaa
