/- Rules hang on the pattern; labels that keep all rules: plain facts. -/
import Derived.Test.YtcdlodmoiobpbaaRFoeM
import Derived.Test.YtcdlodmoiobpbaaRCnt
namespace Go.Proofs.Ytcdlodmoiobpbaa
theorem unl_oneP {P : List Int} (h : unl P ≤ 1) : ∀ x ∈ P, ∀ y ∈ P, x = y := by
  induction P using snoc_ind with
  | h0 => intro x hx; cases hx
  | h1 l z ih =>
    rw [unl_snoc] at h
    by_cases e : l = []
    · subst e
      intro x hx y hy
      simp at hx hy
      rw [hx, hy]
    · by_cases hz : z ∈ l
      · have ih' := ih (by rw [if_pos hz] at h; omega)
        have hm : ∀ x, x ∈ l ++ [z] → x ∈ l := fun x hx => by
          rcases List.mem_append.1 hx with h | h
          · exact h
          · rw [List.mem_singleton] at h; rw [h]; exact hz
        intro x hx y hy
        exact ih' x (hm x hx) y (hm y hy)
      · rw [if_neg hz] at h
        have hpos : 1 ≤ unl l := by
          clear ih h hz
          induction l using snoc_ind with
          | h0 => exact absurd rfl e
          | h1 l x ih =>
            rw [unl_snoc]
            by_cases e : l = []
            · subst e; simp
            · have := ih e; omega
        omega
/-- What is known of a rule that holds, with all its labels there. -/
theorem holds_factsP {r : Rl} {B : List Int} (h : holds r B = true) (hB : B.length ≤ 40) : ∃ (T : List Nat), r.steps = ints T ∧ T.length ≤ 12 ∧ 1 ≤ T.length ∧ (∀ t ∈ T, t < B.length) ∧ (labs B r.steps).length = T.length ∧ (∀ i t : Nat, T[i]? = some t → ∃ y, B[t]? = some y ∧ (labs B r.steps)[i]? = some y) ∧ means r.kind r.k (labs B r.steps) 0 = true ∧ (r.kind = 1 ∨ r.kind = 2 ∨ r.kind = 3 ∨ r.kind = 4 ∨ r.kind = 5) := by
  unfold holds early at h
  rw [Bool.and_eq_true, Bool.and_eq_true] at h
  obtain ⟨⟨hc, _⟩, hm⟩ := h
  have hris : ris B.length 0 r.steps = true := by simp [chk] at hc; exact hc.1.2
  have hnum : numF r.kind r.k r.steps.length = true := by simp [chk] at hc; exact hc.2
  have h12 : (B.length : Int) ≤ 12 := by simp [chk] at hc; omega
  obtain ⟨T, hT⟩ := ris_nat hris (Int.le_refl _)
  have hlt : ∀ t ∈ T, t < B.length := fun t ht => by
    have := (ris_mem hris (t : Int) (by rw [hT]; unfold ints; exact List.mem_map.2 ⟨t, ht, rfl⟩)).2
    omega
  have hTl : r.steps.length = T.length := by rw [hT, ints_len]
  have hlen := ris_len hris (by omega)
  have hl : labs B r.steps = T.map fun t => B[t]?.getD 0 := by
    rw [hT]
    clear hT hTl hlen hris hnum hc hm
    unfold labs ints
    rw [List.filterMap_map]
    induction T with
    | nil => rfl
    | cons a l ih =>
      have ha := hlt a List.mem_cons_self
      rw [List.filterMap_cons, List.map_cons, ← ih fun t ht => hlt t (List.mem_cons_of_mem _ ht)]
      simp [ha]
  have hll : (labs B r.steps).length = T.length := by rw [hl, List.length_map]
  have hk := hnum
  refine ⟨T, hT, by omega, ?_, hlt, hll, fun i t ht => ?_, ?_, ?_⟩
  · unfold numF at hnum
    rw [hTl] at hnum
    split at hnum
    · simp at hnum; omega
    · split at hnum
      · simp at hnum; omega
      · split at hnum
        · simp at hnum; omega
        · cases hnum
  · have := hlt t (List.mem_of_getElem? ht)
    refine ⟨B[t], List.getElem?_eq_getElem this, ?_⟩
    rw [hl, List.getElem?_map, ht]
    simp [this]
  · rwa [hll, hTl, Nat.sub_self] at hm
  · unfold numF at hk
    by_cases h1 : r.kind = 1 ∨ r.kind = 2
    · omega
    · rw [if_neg h1] at hk
      by_cases h2 : r.kind = 3 ∨ r.kind = 4
      · omega
      · rw [if_neg h2] at hk
        by_cases h3 : r.kind = 5
        · omega
        · rw [if_neg h3] at hk; cases hk
/-- Labels that go one for one into others. -/
theorem unl_map {f : Int → Int} {P : List Int} (hf : ∀ x ∈ P, ∀ y ∈ P, f x = f y → x = y) : unl (P.map f) = unl P := by
  induction P using snoc_ind with
  | h0 => rfl
  | h1 l x ih =>
    have ih' := ih fun a ha b hb => hf a (List.mem_append_left _ ha) b (List.mem_append_left _ hb)
    rw [List.map_append, List.map_singleton, unl_snoc, unl_snoc, ih']
    congr 1
    have hx : x ∈ l ++ [x] := List.mem_append_right _ (List.mem_singleton.2 rfl)
    by_cases h : x ∈ l
    · rw [if_pos h, if_pos (List.mem_map.2 ⟨x, h, rfl⟩)]
    · rw [if_neg h, if_neg]
      intro h2
      obtain ⟨y, hy, e⟩ := List.mem_map.1 h2
      exact h (hf y (List.mem_append_left _ hy) x hx e ▸ hy)
theorem count_map_inj {f : Int → Int} {P : List Int} {x : Int} (hf : ∀ y ∈ P, f y = f x → y = x) : (P.map f).count (f x) = P.count x := by
  induction P with
  | nil => rfl
  | cons a l ih =>
    have ih' := ih fun y hy => hf y (List.mem_cons_of_mem _ hy)
    rw [List.map_cons, List.count_cons, List.count_cons, ih']
    congr 1
    by_cases h : a = x
    · rw [h]; simp
    · have : f a ≠ f x := fun e => h (hf a List.mem_cons_self e)
      simp [h, this]
theorem mst_map {f : Int → Int} {P : List Int} (hf : ∀ x ∈ P, ∀ y ∈ P, f x = f y → x = y) : mst (P.map f) = mst P := by
  induction P using snoc_ind with
  | h0 => rfl
  | h1 l x ih =>
    have ih' := ih fun a ha b hb => hf a (List.mem_append_left _ ha) b (List.mem_append_left _ hb)
    rw [List.map_append, List.map_singleton, mst_snoc, mst_snoc, ih', count_map_inj fun y hy e => hf y (List.mem_append_left _ hy) x (List.mem_append_right _ (List.mem_singleton.2 rfl)) e]
theorem labs_map (f : Int → Int) (B S : List Int) : labs (B.map f) S = (labs B S).map f := by
  unfold labs
  rw [List.map_filterMap]
  congr 1
  funext s
  simp
theorem pat_ints (B : List Int) : ints (pat B) = B.map fun z => (((distG [] B).idxOf z : Nat) : Int) := by
  unfold pat ints
  rw [pat_map, List.map_map]; rfl
theorem idx_get {D : List Int} {x : Int} (h : x ∈ D) : D[D.idxOf x]? = some x := by
  induction D with
  | nil => cases h
  | cons a l ih =>
    by_cases e : a = x
    · subst e; simp
    · have hx : x ∈ l := by
        rcases List.mem_cons.1 h with h | h
        · exact absurd h.symm e
        · exact h
      rw [List.idxOf_cons, show (a == x) = false by simpa using e]
      simpa using ih hx
theorem nodup_at {P : List Int} (h : P.Nodup) {i j : Nat} {x : Int} (hi : P[i]? = some x) (hj : P[j]? = some x) : i = j := by
  obtain ⟨h1, e1⟩ := List.getElem?_eq_some_iff.1 hi
  obtain ⟨h2, e2⟩ := List.getElem?_eq_some_iff.1 hj
  have hp := List.pairwise_iff_getElem.1 h
  rcases Nat.lt_trichotomy i j with hlt | he | hlt
  · exact absurd (e1.trans e2.symm) (hp i j h1 h2 hlt)
  · exact he
  · exact absurd (e2.trans e1.symm) (hp j i h2 h1 hlt)
/-- A rule holds of labels just if it holds of their pattern. -/
theorem holds_pat (r : Rl) (B : List Int) : holds r (ints (pat B)) = holds r B := by
  have hinj : ∀ x ∈ B, ∀ y ∈ B, (((distG [] B).idxOf x : Nat) : Int) = (((distG [] B).idxOf y : Nat) : Int) → x = y := fun x hx y hy e => by
    have h1 := idx_get (mem_dist [] B hx)
    have h2 := idx_get (mem_dist [] B hy)
    rw [show (distG [] B).idxOf x = (distG [] B).idxOf y by omega, h2] at h1
    exact (Option.some.inj h1).symm
  have hl : (ints (pat B)).length = B.length := by rw [ints_len, pat_len]
  have hP : labs (ints (pat B)) r.steps = (labs B r.steps).map fun z => (((distG [] B).idxOf z : Nat) : Int) := by rw [pat_ints, labs_map]
  have hm : ∀ y ∈ labs B r.steps, y ∈ B := fun y hy => by
    unfold labs at hy
    obtain ⟨s, _, hs⟩ := List.mem_filterMap.1 hy
    exact List.mem_of_getElem? hs
  have hi : ∀ x ∈ labs B r.steps, ∀ y ∈ labs B r.steps, (((distG [] B).idxOf x : Nat) : Int) = (((distG [] B).idxOf y : Nat) : Int) → x = y := fun x hx y hy => hinj x (hm x hx) y (hm y hy)
  unfold holds early
  rw [hl, hP, List.length_map]
  congr 1
  unfold means
  rw [mst_map (f := fun z => (((distG [] B).idxOf z : Nat) : Int)) hi, unl_map (f := fun z => (((distG [] B).idxOf z : Nat) : Int)) hi]
/-- Within a block all labels are alike. -/
def Alk (l : List Nat) (B : List Int) : Prop := ∀ a b, a < l.length → b < l.length → l[a]? = l[b]? → B[a]? = B[b]?
theorem alk_range (n : Nat) (B : List Int) : Alk (List.range n) B := fun a b ha hb h => by
  rw [List.length_range] at ha hb
  rw [List.getElem?_range ha, List.getElem?_range hb] at h
  rw [Option.some.inj h]
theorem alk_mrg {l : List Nat} {B : List Int} {i j : Nat} (h : Alk l B) (hi : i < l.length) (hj : j < l.length) (hB : B[i]? = B[j]?) : Alk (mrg l i j) B := fun a b ha hb he => by
  rw [mrg_len] at ha hb
  obtain ⟨x, hx⟩ : ∃ x, l[a]? = some x := ⟨_, List.getElem?_eq_getElem ha⟩
  obtain ⟨y, hy⟩ : ∃ x, l[b]? = some x := ⟨_, List.getElem?_eq_getElem hb⟩
  obtain ⟨f, hf⟩ : ∃ x, l[i]? = some x := ⟨_, List.getElem?_eq_getElem hi⟩
  obtain ⟨t, ht⟩ : ∃ x, l[j]? = some x := ⟨_, List.getElem?_eq_getElem hj⟩
  have e1 : l.getD i 0 = f := by rw [List.getD_eq_getElem?_getD, hf]; rfl
  have e2 : l.getD j 0 = t := by rw [List.getD_eq_getElem?_getD, ht]; rfl
  unfold mrg at he
  rw [e1, e2] at he
  have q1 : (ints (relab l f t))[a]? = some ((if x = f then t else x : Nat) : Int) := ints_at (by rw [relab_at, hx]; rfl)
  have q2 : (ints (relab l f t))[b]? = some ((if y = f then t else y : Nat) : Int) := ints_at (by rw [relab_at, hy]; rfl)
  have he2 := (pat_ker q1 q2).1 he
  have he3 : (if x = f then t else x) = (if y = f then t else y) := by omega
  by_cases h1 : x = f
  · have ba : B[a]? = B[j]? := (h a i ha hi (by rw [hx, hf, h1])).trans hB
    by_cases h2 : y = f
    · exact h a b ha hb (by rw [hx, hy, h1, h2])
    · rw [if_pos h1, if_neg h2] at he3
      exact ba.trans (h j b hj hb (by rw [ht, hy, he3]))
  · by_cases h2 : y = f
    · rw [if_neg h1, if_pos h2] at he3
      have bb : B[b]? = B[j]? := (h b i hb hi (by rw [hy, hf, h2])).trans hB
      exact (h a j ha hj (by rw [hx, ht, he3])).trans bb.symm
    · rw [if_neg h1, if_neg h2] at he3
      exact h a b ha hb (by rw [hx, hy, he3])
theorem alk_bnd {l T : List Nat} {B : List Int} (h : Alk l B) (hT : ∀ s ∈ T, s < l.length) (hB : ∀ s ∈ T, ∀ u ∈ T, B[s]? = B[u]?) (c : Nat) (hc : c ≤ T.length) : Alk (bndC l T c) B := by
  induction c with
  | zero => exact h
  | succ c ih =>
    have m0 : T.getD 0 0 ∈ T := by
      rw [List.getD_eq_getElem?_getD, List.getElem?_eq_getElem (by omega)]; exact List.getElem_mem _
    have mc : T.getD c 0 ∈ T := by
      rw [List.getD_eq_getElem?_getD, List.getElem?_eq_getElem (by omega)]; exact List.getElem_mem _
    exact alk_mrg (ih (by omega)) (by rw [bndC_len]; exact hT _ m0) (by rw [bndC_len]; exact hT _ mc) (hB _ m0 _ mc)
theorem kind_same {r : Rl} {B : List Int} (h : holds r B = true) (hB : B.length ≤ 40) (hk : r.kind = 2) : (∀ s ∈ r.steps.map Int.toNat, s < B.length) ∧ ∀ s ∈ r.steps.map Int.toNat, ∀ u ∈ r.steps.map Int.toNat, B[s]? = B[u]? := by
  obtain ⟨T, hT, _, _, hlt, _, hat, hm, _⟩ := holds_factsP h hB
  rw [hT, ints_toNat]
  refine ⟨hlt, fun s hs u hu => ?_⟩
  obtain ⟨i, hi⟩ := List.getElem?_of_mem hs
  obtain ⟨j, hj⟩ := List.getElem?_of_mem hu
  obtain ⟨y, y1, y2⟩ := hat i s hi
  obtain ⟨z, z1, z2⟩ := hat j u hj
  unfold means at hm
  rw [if_neg (by omega), if_pos hk, decide_eq_true_iff] at hm
  rw [y1, z1, unl_oneP hm y (List.mem_of_getElem? y2) z (List.mem_of_getElem? z2)]
theorem alk_tie {n : Nat} {R : List Rl} {B : List Int} (hn : B.length = n) (hB : B.length ≤ 40) (h : ∀ r ∈ R, holds r B = true) (c : Nat) : Alk (tieC n R c) B := by
  induction c with
  | zero => exact alk_range n B
  | succ c ih =>
    cases hr : R[c]? with
    | none => rw [tieC, hr]; exact ih
    | some r =>
      rw [tieC_some hr]
      by_cases hk : r.kind = 2
      · rw [if_pos hk]
        obtain ⟨h1, h2⟩ := kind_same (h r (List.mem_of_getElem? hr)) hB hk
        exact alk_bnd ih (fun s hs => by rw [tieC_len]; have := h1 s hs; omega) h2 _ (by rw [List.length_map]; exact Nat.le_refl _)
      · rw [if_neg hk]; exact ih
/-- Foes have unlike labels. -/
theorem foe_unlike {n : Nat} {R : List Rl} {B : List Int} (hn : B.length = n) (hB : B.length ≤ 40) (h : ∀ r ∈ R, holds r B = true) {a b : Nat} (ha : a < n) (hf : (foe n R a).testBit b = true) : b < n ∧ B[a]? ≠ B[b]? := by
  have hA : Alk (tie n R) B := alk_tie hn hB h _
  have hl : (tie n R).length = n := tieC_len _ _ _
  unfold foe at hf
  obtain ⟨d, r, _, hr, hk, k, hkl, hx, l, hll, hne, hbit⟩ := agC_bit.1 hf
  obtain ⟨hbn, hbt⟩ := (bwC_bit _ _ _ _).1 hbit
  refine ⟨hbn, ?_⟩
  obtain ⟨T, hT, _, _, hlt, hpl, hat, hm, _⟩ := holds_factsP (h r (List.mem_of_getElem? hr)) hB
  have hof : ofR (tie n R) r = T.map fun s => (tie n R).getD s 0 := by unfold ofR; rw [hT, ints_toNat]
  rw [hof] at hkl hx hll hbt
  rw [List.length_map] at hkl hll
  obtain ⟨s, hs⟩ : ∃ x, T[k]? = some x := ⟨_, List.getElem?_eq_getElem hkl⟩
  obtain ⟨u, hu⟩ : ∃ x, T[l]? = some x := ⟨_, List.getElem?_eq_getElem hll⟩
  have hsn : s < n := by have := hlt s (List.mem_of_getElem? hs); omega
  have hun : u < n := by have := hlt u (List.mem_of_getElem? hu); omega
  have gets : ∀ q, q < n → (tie n R)[q]? = some ((tie n R).getD q 0) := fun q hq => by
    rw [List.getD_eq_getElem?_getD, List.getElem?_eq_getElem (by omega)]; rfl
  have ek : (T.map fun s => (tie n R).getD s 0).getD k 0 = (tie n R).getD s 0 := by
    rw [List.getD_eq_getElem?_getD, List.getElem?_map, hs]; rfl
  have el : (T.map fun s => (tie n R).getD s 0).getD l 0 = (tie n R).getD u 0 := by
    rw [List.getD_eq_getElem?_getD, List.getElem?_map, hu]; rfl
  rw [ek] at hx
  rw [el] at hbt
  have e1 : B[a]? = B[s]? := hA a s (by omega) (by omega) (by rw [gets a ha, gets s hsn, hx])
  have e2 : B[b]? = B[u]? := hA b u (by omega) (by omega) (by rw [hbt, gets u hun])
  rw [e1, e2]
  obtain ⟨y, y1, y2⟩ := hat k s hs
  obtain ⟨z, z1, z2⟩ := hat l u hu
  unfold means at hm
  rw [if_pos hk, decide_eq_true_iff, mst_one] at hm
  rw [y1, z1]
  intro e
  cases e
  exact hne (nodup_at hm z2 y2)
theorem clash_not {n : Nat} {R : List Rl} {B : List Int} (hn : B.length = n) (hB : B.length ≤ 40) (h : ∀ r ∈ R, holds r B = true) : clash n R = false := by
  unfold clash
  rw [List.any_eq_false]
  intro s hs hb
  exact (foe_unlike hn hB h (List.mem_range.1 hs) hb).2 rfl
theorem broken_none {R : List Rl} {L : List Int} (h : (broken R L).length = 0) : ∀ r ∈ R, holds r L = true := fun r hr => by
  obtain ⟨i, hi⟩ := List.getElem?_of_mem hr
  have hlt := (List.getElem?_eq_some_iff.1 hi).1
  have h0 := List.eq_nil_of_length_eq_zero h
  unfold broken at h0
  rw [List.filter_eq_nil_iff] at h0
  have := h0 i (List.mem_range.2 hlt)
  rw [hi] at this
  simpa using this
theorem rgt_of {R : List Rl} {B : List Int} (hB : B.length ≤ 12) (h : ∀ r ∈ R, holds r B = true) : rgt (B.length : Int) R = true := by
  unfold rgt
  rw [decide_eq_true (by omega), decide_eq_true (by omega), Bool.true_and, Bool.true_and, List.all_eq_true]
  intro r hr
  have := h r hr
  unfold holds early at this
  rw [Bool.and_eq_true, Bool.and_eq_true] at this
  exact this.1.1
end Go.Proofs.Ytcdlodmoiobpbaa
