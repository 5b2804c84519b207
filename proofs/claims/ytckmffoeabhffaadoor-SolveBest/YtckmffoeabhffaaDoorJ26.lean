/- The problem whose steps stand in another order: it has a plan just if the first one has: plain. -/
import Derived.Test.YtckmffoeabhffaaDoorJ24
namespace Go.Proofs.YtckmffoeabhffaaDoor.S
theorem perm_nodup {l m : List Nat} (hl : l.Nodup) (hm : m.Nodup) (h : ∀ x, x ∈ l ↔ x ∈ m) : l.Perm m := by
  rw [List.perm_iff_count]
  intro a
  have h1 := List.nodup_iff_count.1 hl a
  have h2 := List.nodup_iff_count.1 hm a
  have h3 : 0 < l.count a ↔ 0 < m.count a := by rw [List.count_pos_iff, List.count_pos_iff]; exact h a
  omega
theorem unl_cons (x : Int) (P : List Int) : unl (x :: P) = unl P + if x ∈ P then 0 else 1 := by
  induction P using snoc_ind with
  | h0 => rfl
  | h1 l y ih =>
    rw [show x :: (l ++ [y]) = (x :: l) ++ [y] from rfl, unl_snoc, unl_snoc, ih]
    by_cases e : y = x
    · subst e
      by_cases h : y ∈ l <;> simp [h]
    · have e' : ¬ x = y := fun q => e q.symm
      by_cases h : x ∈ l <;> by_cases h2 : y ∈ l <;> simp [h, h2, e, e']
theorem unl_perm {P Q : List Int} (h : P.Perm Q) : unl P = unl Q := by
  induction h with
  | nil => rfl
  | cons x h ih => rw [unl_cons, unl_cons, ih]; simp only [h.mem_iff]
  | swap x y l =>
    rw [unl_cons, unl_cons, unl_cons, unl_cons]
    by_cases e : x = y
    · subst e; rfl
    · have e' : ¬ y = x := fun q => e q.symm
      by_cases h : x ∈ l <;> by_cases h2 : y ∈ l <;> simp [h, h2, e, e']
  | trans _ _ i1 i2 => exact i1.trans i2
theorem mst_perm {P Q : List Int} (h : P.Perm Q) : mst P = mst Q := by
  refine Nat.le_antisymm ?_ ?_
  · rw [mst_le]; intro x; rw [h.count_eq]; exact (mst_le Q _).1 (Nat.le_refl _) x
  · rw [mst_le]; intro x; rw [← h.count_eq]; exact (mst_le P _).1 (Nat.le_refl _) x
theorem means_perm {kind k : Int} {P Q : List Int} (h : P.Perm Q) (left : Nat) : means kind k P left = means kind k Q left := by
  unfold means
  rw [unl_perm h, mst_perm h]
def reP (P : Pb) (O : List Nat) : Pb := ⟨P.users, reW P O, reF P O, P.rules.map (reR O)⟩
/-- Steps in another order, as plain places. -/
theorem mov_eq (S : List Int) (O : List Nat) : movN S (ints O) = ints ((List.range O.length).filter fun i => decide (((O.getD i 0 : Nat) : Int) ∈ S)) := by
  unfold movN movJ ints
  rw [List.length_map]
  congr 1
  refine List.filter_congr fun i hi => ?_
  have hlt := List.mem_range.1 hi
  rw [List.getD_eq_getElem?_getD, List.getD_eq_getElem?_getD, List.getElem?_map, List.getElem?_eq_getElem hlt]
  rfl
theorem range_map {α : Type} (O : List Nat) (f : Nat → α) : (List.range O.length).map (fun i => f (O.getD i 0)) = O.map f := by
  refine List.ext_getElem? fun i => ?_
  rw [List.getElem?_map, List.getElem?_map]
  rcases Nat.lt_or_ge i O.length with h | h
  · rw [List.getElem?_range h, List.getElem?_eq_getElem h]
    simp [h]
  · rw [List.getElem?_eq_none (by simpa using h), List.getElem?_eq_none h]; rfl
theorem filt_map (O : List Nat) (p : Nat → Bool) : ∀ k, k ≤ O.length → (((List.range k).filter fun i => p (O.getD i 0)).map fun i => O.getD i 0) = (O.take k).filter p := by
  intro k
  induction k with
  | zero => intro _; simp
  | succ k ih =>
    intro hk
    rw [List.range_succ, List.filter_append, List.map_append, ih (by omega), take_step (by omega), List.filter_append]
    congr 1
    have e : O.getD k 0 = O[k] := by rw [List.getD_eq_getElem?_getD, List.getElem?_eq_getElem (by omega)]; rfl
    simp only [List.filter_cons, List.filter_nil, e]
    cases p O[k]
    · rfl
    · show [O.getD k 0] = [O[k]]
      rw [e]
/-- The steps of a rule, as they stand in the order. -/
theorem steps_perm {S : List Int} {O : List Nat} {n : Nat} (hS : ris (n : Int) 0 S = true) (hO : O.Perm (List.range n)) : (O.filter fun t : Nat => decide ((t : Int) ∈ S)).Perm (S.map Int.toNat) := by
  have h1 : (O.filter fun t : Nat => decide ((t : Int) ∈ S)).Perm ((List.range n).filter fun t : Nat => decide ((t : Int) ∈ S)) := hO.filter _
  refine h1.trans (perm_nodup (List.Pairwise.filter _ List.nodup_range) ?_ fun x => ?_)
  · have hp := ris_pw hS
    unfold List.Nodup
    rw [List.pairwise_map]
    refine hp.imp_of_mem fun ha hb hab e => ?_
    have h1 := ris_mem hS _ ha
    have h2 := ris_mem hS _ hb
    omega
  · rw [List.mem_filter, List.mem_range, decide_eq_true_eq, List.mem_map]
    constructor
    · rintro ⟨_, h⟩; exact ⟨_, h, by simp⟩
    · rintro ⟨s, hs, rfl⟩
      have h1 := ris_mem hS s hs
      rw [Int.toNat_of_nonneg h1.1]
      exact ⟨by omega, hs⟩
theorem mov_len {S : List Int} {O : List Nat} {n : Nat} (hS : ris (n : Int) 0 S = true) (hO : O.Perm (List.range n)) : (movN S (ints O)).length = S.length := by
  have h1 := (steps_perm hS hO).length_eq
  rw [List.length_map] at h1
  rw [mov_eq, ints_len, ← h1]
  have h2 := congrArg List.length (filt_map O (fun t : Nat => decide ((t : Int) ∈ S)) O.length (Nat.le_refl _))
  rw [List.length_map, List.take_length] at h2
  exact h2
theorem mov_ris {S : List Int} {O : List Nat} {n : Nat} (hn : O.length = n) : ris (n : Int) 0 (movN S (ints O)) = true := by
  rw [mov_eq, hn]
  have : ∀ (l : List Nat) (lo : Nat), l.Pairwise (· < ·) → (∀ x ∈ l, lo ≤ x ∧ x < n) → ris (n : Int) (lo : Int) (ints l) = true := by
    intro l
    induction l with
    | nil => intro lo _ _; rfl
    | cons a l ih =>
      intro lo hp hx
      obtain ⟨h1, h2⟩ := List.pairwise_cons.1 hp
      have ha := hx a List.mem_cons_self
      show (decide ((lo : Int) ≤ (a : Int)) && decide ((a : Int) < (n : Int)) && ris (n : Int) ((a : Int) + 1) (ints l)) = true
      rw [decide_eq_true (by omega), decide_eq_true (by omega), Bool.true_and, Bool.true_and]
      exact ih (a + 1) h2 fun x hxl => ⟨h1 x hxl, (hx x (List.mem_cons_of_mem _ hxl)).2⟩
  exact this _ 0 (List.Pairwise.filter _ List.pairwise_lt_range) fun x hx => ⟨Nat.zero_le _, List.mem_range.1 (List.mem_filter.1 hx).1⟩
theorem chk_re {r : Rl} {O : List Nat} {n : Nat} (hc : chk (n : Int) r = true) (hO : O.Perm (List.range n)) : chk (n : Int) (reR O r) = true := by
  have hn : O.length = n := by have := hO.length_eq; simpa using this
  have h1 := mov_ris (S := r.steps) hn
  have h2 := mov_len (chk_ris hc) hO
  unfold chk at hc ⊢
  simp only [Bool.and_eq_true] at hc ⊢
  refine ⟨⟨hc.1.1, h1⟩, ?_⟩
  show numF r.kind r.k (movN r.steps (ints O)).length = true
  rw [h2]; exact hc.2
theorem labs_all {L S : List Int} (h : ∀ s ∈ S, 0 ≤ s ∧ s.toNat < L.length) : labs L S = S.map fun s => L.getD s.toNat 0 := by
  unfold labs
  induction S with
  | nil => rfl
  | cons s S ih =>
    have h1 := h s List.mem_cons_self
    rw [List.filterMap_cons, List.getElem?_eq_getElem h1.2, List.map_cons, ih fun x hx => h x (List.mem_cons_of_mem _ hx)]
    simp [h1.2]
theorem labs_re {L S : List Int} {O : List Nat} {n : Nat} (hS : ris (n : Int) 0 S = true) (hO : O.Perm (List.range n)) (hL : L.length = n) : (labs (O.map fun t => L.getD t 0) (movN S (ints O))).Perm (labs L S) := by
  have hn : O.length = n := by have := hO.length_eq; simpa using this
  have h1 : labs L S = (S.map Int.toNat).map fun t => L.getD t 0 := by
    rw [labs_all fun s hs => by have := ris_mem hS s hs; omega, List.map_map]; rfl
  have h2 : labs (O.map fun t => L.getD t 0) (movN S (ints O)) = (O.filter fun t : Nat => decide ((t : Int) ∈ S)).map fun t => L.getD t 0 := by
    have h3 := filt_map O (fun t : Nat => decide ((t : Int) ∈ S)) O.length (Nat.le_refl _)
    rw [List.take_length] at h3
    rw [labs_all, mov_eq, ← h3]
    · unfold ints
      rw [List.map_map, List.map_map]
      refine List.map_congr_left fun i hi => ?_
      have hlt := List.mem_range.1 (List.mem_filter.1 hi).1
      simp [hlt]
    · intro s hs
      have := ris_mem (mov_ris (S := S) hn) s hs
      rw [List.length_map]
      omega
  rw [h1, h2]
  exact (steps_perm hS hO).map _
theorem holds_re {r : Rl} {L : List Int} {O : List Nat} {n : Nat} (hc : chk (n : Int) r = true) (hO : O.Perm (List.range n)) (hL : L.length = n) : holds (reR O r) (O.map fun t => L.getD t 0) = holds r L := by
  have hn : O.length = n := by have := hO.length_eq; simpa using this
  have hp := labs_re (L := L) (chk_ris hc) hO hL
  have hl : (O.map fun t => L.getD t 0).length = n := by rw [List.length_map]; exact hn
  unfold holds early
  rw [hl, hL, hc, chk_re hc hO]
  congr 1
  show means r.kind r.k (labs (O.map fun t => L.getD t 0) (movN r.steps (ints O))) ((movN r.steps (ints O)).length - (labs (O.map fun t => L.getD t 0) (movN r.steps (ints O))).length) = _
  rw [mov_len (chk_ris hc) hO, hp.length_eq]
  exact means_perm hp _
section
variable {P : Pb} {O : List Nat}
theorem re_len (hO : O.Perm (List.range P.who.length)) : O.length = P.who.length := by have := hO.length_eq; simpa using this
theorem re_mem (hO : O.Perm (List.range P.who.length)) {t : Nat} : t ∈ O ↔ t < P.who.length := by rw [hO.mem_iff, List.mem_range]
theorem chk_reP (hP : chkN P = 0) (hO : O.Perm (List.range P.who.length)) : chkN (reP P O) = 0 := by
  obtain ⟨h12, hU0, hU, hR, hfx, hwo, hru⟩ := chkN_zero hP
  have hfl := (fixB_of hfx hU).1
  have hlw : (reP P O).who.length = P.who.length := by show (reW P O).length = _; unfold reW; rw [List.length_map]; exact re_len hO
  have hlf : (reP P O).fixed.length = P.who.length := by show (reF P O).length = _; unfold reF; rw [List.length_map]; exact re_len hO
  refine chkN_ok ?_ ?_
  · rw [hlw]
    show ¬ (_ ∨ 64 < P.users ∨ 32 < (P.rules.map (reR O)).length)
    rw [List.length_map]
    omega
  · rintro (h | h | h | h)
    · have : P.users < 0 := h
      omega
    · refine absurd h ?_
      rw [Bool.not_eq_false]
      unfold fixB
      rw [hlw, hlf, decide_eq_true rfl, Bool.and_true, List.all_eq_true]
      intro x hx
      obtain ⟨t, ht, rfl⟩ := List.mem_map.1 (show x ∈ O.map _ from hx)
      have hlt : t < P.fixed.length := by rw [hfl]; exact (re_mem hO).1 ht
      unfold fixB at hfx
      rw [Bool.and_eq_true, List.all_eq_true] at hfx
      have := hfx.1 (P.fixed.getD t 0) (by rw [List.getD_eq_getElem?_getD, List.getElem?_eq_getElem hlt]; exact List.getElem_mem hlt)
      exact this
    · refine absurd h ?_
      rw [Bool.not_eq_false]
      unfold whoB
      rw [List.all_eq_true]
      intro x hx
      obtain ⟨t, ht, rfl⟩ := List.mem_map.1 (show x ∈ O.map _ from hx)
      have hlt := (re_mem hO).1 ht
      unfold whoB at hwo
      rw [List.all_eq_true] at hwo
      exact hwo (P.who.getD t 0) (by rw [List.getD_eq_getElem?_getD, List.getElem?_eq_getElem hlt]; exact List.getElem_mem hlt)
    · refine absurd h ?_
      rw [Bool.not_eq_false]
      unfold rulB
      rw [List.all_eq_true, hlw]
      intro r hr
      obtain ⟨r', hr', rfl⟩ := List.mem_map.1 (show r ∈ P.rules.map _ from hr)
      unfold rulB at hru
      rw [List.all_eq_true] at hru
      exact chk_re (hru r' hr') hO
theorem may_re (hP : chkN P = 0) (hO : O.Perm (List.range P.who.length)) {i t : Nat} (ht : O[i]? = some t) : mayP (reP P O) i = mayP P t := by
  obtain ⟨h12, hU0, hU, hR, hfx, hwo, hru⟩ := chkN_zero hP
  have hfl := (fixB_of hfx hU).1
  have hlt := (re_mem hO).1 (List.mem_of_getElem? ht)
  obtain ⟨x, hx⟩ : ∃ x, P.fixed[t]? = some x := ⟨_, List.getElem?_eq_getElem (by omega)⟩
  have e1 : (reP P O).fixed[i]? = some x := by
    show (O.map fun t => P.fixed.getD t 0)[i]? = some x
    rw [List.getElem?_map, ht]
    simp [hx]
  have e2 : (reP P O).who[i]? = some (P.who.getD t 0) := by
    show (O.map fun t => P.who.getD t 0)[i]? = _
    rw [List.getElem?_map, ht]; rfl
  unfold mayP
  simp only [List.getD_eq_getElem?_getD, e1, e2, hx, Option.getD_some]
theorem okU_re (hP : chkN P = 0) (hO : O.Perm (List.range P.who.length)) {i t : Nat} (ht : O[i]? = some t) (x : Int) : okU (reP P O) i x = okU P t x := by
  unfold okU
  rw [may_re hP hO ht]; rfl
theorem hol_re (hP : chkN P = 0) (hO : O.Perm (List.range P.who.length)) {L : List Int} (hL : L.length = P.who.length) : holP (reP P O) (O.map fun t => L.getD t 0) = true ↔ holP P L = true := by
  have hru := (chkN_zero hP).2.2.2.2.2.2
  unfold rulB at hru
  rw [List.all_eq_true] at hru
  have hlw : (reP P O).who.length = P.who.length := by show (reW P O).length = _; unfold reW; rw [List.length_map]; exact re_len hO
  constructor
  · intro h
    obtain ⟨_, h2, h3, h4⟩ := holP_of h
    refine holP_mk hP hL (fun t x hx => ?_) fun r hr => ?_
    · have hlt := (List.getElem?_eq_some_iff.1 hx).1
      obtain ⟨i, hi⟩ := List.getElem?_of_mem ((re_mem hO).2 (by omega : t < P.who.length))
      rw [← okU_re hP hO hi]
      exact h3 i x (by rw [List.getElem?_map, hi]; simp [hx])
    · rw [← holds_re (hru r hr) hO hL]
      exact h4 _ (List.mem_map.2 ⟨r, hr, rfl⟩)
  · intro h
    obtain ⟨_, h2, h3, h4⟩ := holP_of h
    refine holP_mk (chk_reP hP hO) (by rw [List.length_map, hlw]; exact re_len hO) (fun i x hx => ?_) fun r hr => ?_
    · rw [List.getElem?_map] at hx
      cases ht : O[i]? with
      | none => rw [ht] at hx; cases hx
      | some t =>
        rw [ht] at hx
        cases hx
        rw [okU_re hP hO ht]
        have hlt := (re_mem hO).1 (List.mem_of_getElem? ht)
        refine h3 t _ ?_
        show L[t]? = some (L.getD t 0)
        rw [List.getD_eq_getElem?_getD, List.getElem?_eq_getElem (by omega)]; rfl
    · obtain ⟨r', hr', rfl⟩ := List.mem_map.1 (show r ∈ P.rules.map _ from hr)
      rw [holds_re (hru r' hr') hO hL]
      exact h4 r' hr'
/-- Another order of the steps: there is a plan just if there was. -/
theorem can_re (hP : chkN P = 0) (hO : O.Perm (List.range P.who.length)) : (∃ L, holP (reP P O) L = true) ↔ ∃ L, holP P L = true := by
  have hlw : (reP P O).who.length = P.who.length := by show (reW P O).length = _; unfold reW; rw [List.length_map]; exact re_len hO
  constructor
  · rintro ⟨L', h⟩
    have hl := (holP_of h).2.1
    rw [hlw] at hl
    refine ⟨(List.range P.who.length).map fun t => L'.getD (O.idxOf t) 0, (hol_re hP hO (by simp)).1 ?_⟩
    have e : (O.map fun t => ((List.range P.who.length).map fun t => L'.getD (O.idxOf t) 0).getD t 0) = L' := by
      refine List.ext_getElem? fun i => ?_
      rw [List.getElem?_map]
      rcases Nat.lt_or_ge i O.length with h | h
      · have hn : O.Nodup := hO.nodup_iff.2 List.nodup_range
        have hlt := (re_mem hO).1 (List.getElem_mem h)
        have hi : O.idxOf O[i] = i := by
          have h1 := idx_at (List.getElem_mem h)
          have h2 := idx_first O O[i] i
          rcases Nat.lt_trichotomy (O.idxOf O[i]) i with q | q | q
          · have hp := List.pairwise_iff_getElem.1 hn
            obtain ⟨a, b⟩ := List.getElem?_eq_some_iff.1 h1
            exact absurd b (hp _ _ a h q)
          · exact q
          · exact absurd (List.getElem?_eq_getElem h) (h2 q)
        rw [List.getElem?_eq_getElem h]
        have h4 : i < L'.length := by rw [hl, ← re_len hO]; exact h
        simp [hlt, hi, h4]
      · rw [List.getElem?_eq_none h, List.getElem?_eq_none (by rw [hl, ← re_len hO]; exact h)]; rfl
    rw [e]; exact h
  · rintro ⟨L, h⟩
    exact ⟨_, (hol_re hP hO (holP_of h).2.1).2 h⟩
end
end Go.Proofs.YtckmffoeabhffaaDoor.S
