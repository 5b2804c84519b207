/- Rows and places of their own: what a way through a matching finds (plain). -/
namespace Go.Proofs.YtbbmjfjedonfaaaDoor.M
def upd {α : Type} (f : Nat → α) (a : Nat) (v : α) : Nat → α := fun x => if x = a then v else f x
theorem upd_same {α : Type} (f : Nat → α) (a : Nat) (v : α) : upd f a v a = v := if_pos rfl
theorem upd_ne {α : Type} (f : Nat → α) {a x : Nat} (v : α) (h : x ≠ a) : upd f a v x = f x := if_neg h
/-- How many places are not marked. -/
def unm (K : Nat → Bool) : Nat := ((List.range 64).filter fun u => !K u).length
theorem filter_le {p q : Nat → Bool} : ∀ (l : List Nat), (∀ u, p u = true → q u = true) → (l.filter p).length ≤ (l.filter q).length
  | [], _ => Nat.le_refl _
  | x :: l, h => by
    have ih := filter_le l h
    rw [List.filter_cons, List.filter_cons]
    by_cases hp : p x = true
    · rw [if_pos hp, if_pos (h x hp)]; simpa using ih
    · rw [if_neg hp]
      split
      · simp; omega
      · exact ih
theorem filter_lt {p q : Nat → Bool} : ∀ (l : List Nat), (∀ u, p u = true → q u = true) → ∀ x, x ∈ l → q x = true → p x = false → (l.filter p).length < (l.filter q).length
  | [], _, x, hx, _, _ => by cases hx
  | y :: l, h, x, hx, h1, h2 => by
    rw [List.filter_cons, List.filter_cons]
    rcases List.mem_cons.1 hx with e | hx
    · subst e
      have := filter_le l h
      rw [if_neg (by rw [h2]; decide), if_pos h1]
      simp; omega
    · have ih := filter_lt l h x hx h1 h2
      by_cases hp : p y = true
      · rw [if_pos hp, if_pos (h y hp)]; simpa using ih
      · rw [if_neg hp]
        split
        · simp; omega
        · exact ih
theorem unm_grow {K K' : Nat → Bool} (h : ∀ u, K u = true → K' u = true) : unm K' ≤ unm K :=
  filter_le _ fun u hu => by
    cases e : K u
    · rfl
    · rw [h u e] at hu; exact hu
theorem unm_lt {K : Nat → Bool} {u : Nat} (hu : u < 64) (hk : K u = false) : unm (upd K u true) < unm K :=
  filter_lt _ (fun x hx => by
    by_cases e : x = u
    · subst e; rw [upd_same] at hx; cases hx
    · rw [upd_ne _ _ e] at hx; exact hx) u (List.mem_range.2 hu) (by rw [hk]; rfl) (by rw [upd_same]; rfl)
theorem unm_le (K : Nat → Bool) : unm K ≤ 64 := Nat.le_trans (List.length_filter_le _ _) (by simp)
/-- Of a row without repetitions whose members lie in another one: it is no longer. -/
theorem pigeon : ∀ {l m : List Nat}, l.Nodup → (∀ x ∈ l, x ∈ m) → l.length ≤ m.length
  | [], _, _, _ => Nat.zero_le _
  | x :: l, m, hd, hs => by
    have hx := hs x (List.mem_cons_self ..)
    have hd' := List.nodup_cons.1 hd
    have := pigeon (l := l) (m := m.erase x) hd'.2 (fun y hy => by
      have hne : y ≠ x := fun e => hd'.1 (e ▸ hy)
      exact (List.mem_erase_of_ne hne).2 (hs y (List.mem_cons_of_mem _ hy)))
    rw [List.length_erase_of_mem hx] at this
    have : 0 < m.length := List.length_pos_of_mem hx
    simp only [List.length_cons]; omega
theorem nodup_map {f : Nat → Nat} : ∀ {l : List Nat}, l.Nodup → (∀ x ∈ l, ∀ y ∈ l, f x = f y → x = y) → (l.map f).Nodup
  | [], _, _ => List.nodup_nil
  | x :: l, hd, h => by
    have hd' := List.nodup_cons.1 hd
    rw [List.map_cons, List.nodup_cons]
    refine ⟨fun hm => ?_, nodup_map hd'.2 fun a ha b hb => h a (List.mem_cons_of_mem _ ha) b (List.mem_cons_of_mem _ hb)⟩
    obtain ⟨y, hy, e⟩ := List.mem_map.1 hm
    have := h y (List.mem_cons_of_mem _ hy) x (List.mem_cons_self ..) e
    exact hd'.1 (this ▸ hy)
/-- No way led on: whose places were met, and all of a row's below c are marked. -/
structure NoW (R : Nat → Nat) (O : Nat → Nat → Prop) (K K' : Nat → Bool) (i c : Nat) : Prop where
  grow : ∀ u, K u = true → K' u = true
  new : ∀ u, u < 64 → K' u = true → K u = false → ∃ r, O u r ∧ ∀ v, (R r).testBit v = true → K' v = true
  all : ∀ v, v < c → (R i).testBit v = true → K' v = true
section
variable {R : Nat → Nat} {O O' : Nat → Nat → Prop} {K K1 K2 : Nat → Bool} {i c u r : Nat}
theorem NoW.start (K : Nat → Bool) : NoW R O K K i 0 := ⟨fun _ h => h, fun u _ h1 h2 => (by rw [h1] at h2; cases h2), fun _ h => absurd h (Nat.not_lt_zero _)⟩
theorem NoW.gap (h : NoW R O K K1 i c) {d : Nat} (hg : ∀ v, c ≤ v → v < d → (R i).testBit v = false) : NoW R O K K1 i d :=
  ⟨h.grow, h.new, fun v hv hb => by
    rcases Nat.lt_or_ge v c with e | e
    · exact h.all v e hb
    · rw [hg v e hv] at hb; cases hb⟩
theorem NoW.skip (h : NoW R O K K1 i c) (hg : ∀ v, c ≤ v → v < u → (R i).testBit v = false) (hk : K1 u = true) : NoW R O K K1 i (u + 1) :=
  ⟨h.grow, h.new, fun v hv hb => by
    rcases Nat.lt_or_ge v u with e | e
    · exact (h.gap hg).all v e hb
    · have : v = u := by omega
      subst this; exact hk⟩
theorem NoW.step (h : NoW R O K K1 i c) (hg : ∀ v, c ≤ v → v < u → (R i).testBit v = false) (hR : ∀ r v, (R r).testBit v = true → v < 64) (ho : O u r) (hw : NoW R O' (upd K1 u true) K2 r 64) (hO : ∀ v s, O' v s → O v s) : NoW R O K K2 i (u + 1) := by
  have g1 : ∀ v, K1 v = true → K2 v = true := fun v hv => hw.grow v (by
    by_cases e : v = u
    · subst e; exact upd_same ..
    · rw [upd_ne _ _ e]; exact hv)
  refine ⟨fun v hv => g1 v (h.grow v hv), fun v hv h2 hk => ?_, fun v hv hb => ?_⟩
  · by_cases h1 : K1 v = true
    · obtain ⟨s, hs, hc⟩ := h.new v hv h1 hk
      exact ⟨s, hs, fun x hx => g1 x (hc x hx)⟩
    · by_cases e : v = u
      · subst e
        exact ⟨r, ho, fun x hx => hw.all x (hR r x hx) hx⟩
      · obtain ⟨s, hs, hc⟩ := hw.new v hv h2 (by rw [upd_ne _ _ e]; simpa using h1)
        exact ⟨s, hO v s hs, hc⟩
  · rcases Nat.lt_or_ge v u with e | e
    · exact g1 v ((h.gap hg).all v e hb)
    · have : v = u := by omega
      subst this
      exact hw.grow v (upd_same ..)
/-- Where no way led on, these rows have no places of their own but the marked ones. -/
theorem NoW.no {K' : Nat → Bool} (h : NoW R O K K' i 64) (hR : ∀ r v, (R r).testBit v = true → v < 64) (hO : ∀ u v r, O u r → O v r → u = v) (hi : ∀ u, ¬ O u i) (f : Nat → Nat)
    (hf : ∀ r, (r = i ∨ ∃ u, K u = false ∧ O u r) → (R r).testBit (f r) = true ∧ K (f r) = false)
    (hj : ∀ r s, (r = i ∨ ∃ u, K u = false ∧ O u r) → (s = i ∨ ∃ u, K u = false ∧ O u s) → f r = f s → r = s) : False := by
  have hch : ∀ u, ∃ r, (u < 64 ∧ K' u = true ∧ K u = false) → O u r ∧ ∀ v, (R r).testBit v = true → K' v = true := fun u => by
    by_cases e : u < 64 ∧ K' u = true ∧ K u = false
    · obtain ⟨r, hr⟩ := h.new u e.1 e.2.1 e.2.2
      exact ⟨r, fun _ => hr⟩
    · exact ⟨0, fun x => absurd x e⟩
  obtain ⟨g, hg⟩ := Classical.axiomOfChoice hch
  have hZ : ∀ u, u ∈ (List.range 64).filter (fun u => K' u && !K u) ↔ u < 64 ∧ K' u = true ∧ K u = false := fun u => by simp
  have hnd : ((List.range 64).filter (fun u => K' u && !K u)).Nodup := List.Pairwise.filter _ List.nodup_range
  generalize (List.range 64).filter (fun u => K' u && !K u) = Z at hZ hnd
  have hS : ∀ r, r ∈ i :: Z.map g → (r = i ∨ ∃ u, K u = false ∧ O u r) ∧ ∀ v, (R r).testBit v = true → K' v = true := fun r hr => by
    rcases List.mem_cons.1 hr with e | hr
    · subst e
      exact ⟨.inl rfl, fun v hv => h.all v (hR _ v hv) hv⟩
    · obtain ⟨u, hu, e⟩ := List.mem_map.1 hr
      subst e
      have hu' := (hZ u).1 hu
      exact ⟨.inr ⟨u, hu'.2.2, (hg u hu').1⟩, (hg u hu').2⟩
  have hSn : (i :: Z.map g).Nodup := by
    rw [List.nodup_cons]
    refine ⟨fun hm => ?_, nodup_map hnd fun x hx y hy e => ?_⟩
    · obtain ⟨u, hu, e⟩ := List.mem_map.1 hm
      have := (hg u ((hZ u).1 hu)).1
      rw [e] at this
      exact hi u this
    · have h1 := (hg x ((hZ x).1 hx)).1
      have h2 := (hg y ((hZ y).1 hy)).1
      rw [e] at h1
      exact hO x y _ h1 h2
  have hm : ((i :: Z.map g).map f).Nodup := nodup_map hSn fun x hx y hy e => hj x y (hS x hx).1 (hS y hy).1 e
  have := pigeon hm (m := Z) fun v hv => by
    obtain ⟨r, hr, e⟩ := List.mem_map.1 hv
    subst e
    have h1 := hS r hr
    have h2 := hf r h1.1
    exact (hZ _).2 ⟨hR r _ h2.1, h1.2 _ h2.1, h2.2⟩
  simp only [List.map_cons, List.length_cons, List.length_map] at this
  omega
end
/-- The rows of E have the places that the tables say, but for places that are given up. -/
structure Wst (n : Nat) (R : Nat → Nat) (ow : Nat → Option Nat) (pl : Nat → Nat) (E D : Nat → Prop) : Prop where
  own : ∀ u r, ¬ D u → ow u = some r → u < 64 ∧ r < n ∧ E r ∧ pl r = u ∧ (R r).testBit u = true
  has : ∀ r, E r → ¬ D (pl r) ∧ ow (pl r) = some r
/-- Whose place it is. -/
def Ow (ow : Nat → Option Nat) (D : Nat → Prop) (u r : Nat) : Prop := ¬ D u ∧ ow u = some r
section
variable {n : Nat} {R : Nat → Nat} {ow ow1 : Nat → Option Nat} {pl pl1 : Nat → Nat} {E D : Nat → Prop} {i u r : Nat}
theorem Wst.ext {E' : Nat → Prop} (h : Wst n R ow pl E D) (he : ∀ r, E r ↔ E' r) : Wst n R ow pl E' D :=
  ⟨fun u r hd ho => by obtain ⟨a, b, c, d⟩ := h.own u r hd ho; exact ⟨a, b, (he r).1 c, d⟩, fun r hr => h.has r ((he r).2 hr)⟩
theorem Wst.one (h : Wst n R ow pl E D) {u v r : Nat} (h1 : Ow ow D u r) (h2 : Ow ow D v r) : u = v := by
  have a := (h.own u r h1.1 h1.2).2.2.2.1
  have b := (h.own v r h2.1 h2.2).2.2.2.1
  omega
/-- A place that nobody has is taken. -/
theorem Wst.take (h : Wst n R ow pl E D) (hi : i < n) (hiE : ¬ E i) (hu : u < 64) (hD : ¬ D u) (hb : (R i).testBit u = true) (hno : ow u = none) : Wst n R (upd ow u (some i)) (upd pl i u) (fun r => E r ∨ r = i) D := by
  refine ⟨fun v r hd ho => ?_, fun r hr => ?_⟩
  · by_cases e : v = u
    · subst e
      rw [upd_same] at ho
      cases ho
      exact ⟨hu, hi, .inr rfl, upd_same .., hb⟩
    · rw [upd_ne _ _ e] at ho
      obtain ⟨a, b, c, d, f⟩ := h.own v r hd ho
      have : r ≠ i := fun e => hiE (e ▸ c)
      exact ⟨a, b, .inl c, by rw [upd_ne _ _ this]; exact d, f⟩
  · by_cases e : r = i
    · subst e
      rw [upd_same]
      exact ⟨hD, upd_same ..⟩
    · have hr' := hr.resolve_right e
      obtain ⟨a, b⟩ := h.has r hr'
      rw [upd_ne _ _ e]
      refine ⟨a, ?_⟩
      by_cases e2 : pl r = u
      · rw [e2, hno] at b; cases b
      · rw [upd_ne _ _ e2]; exact b
/-- What a row's going on to another place is asked of. -/
theorem Wst.leave (h : Wst n R ow pl E D) (hD : ¬ D u) (ho : ow u = some r) : Wst n R ow pl (fun s => E s ∧ s ≠ r) (fun v => D v ∨ v = u) := by
  have hr := h.own u r hD ho
  refine ⟨fun v s hd hs => ?_, fun s hs => ?_⟩
  · obtain ⟨a, b, c, d, f⟩ := h.own v s (fun x => hd (.inl x)) hs
    refine ⟨a, b, ⟨c, fun e => ?_⟩, d, f⟩
    subst e
    exact hd (.inr (by omega))
  · obtain ⟨a, b⟩ := h.has s hs.1
    refine ⟨fun x => ?_, b⟩
    rcases x with x | x
    · exact a x
    · rw [x, ho] at b
      cases b
      exact hs.2 rfl
/-- The row that had the place has another one: this one is taken. -/
theorem Wst.moved (h1 : Wst n R ow1 pl1 (fun s => (E s ∧ s ≠ r) ∨ s = r) (fun v => D v ∨ v = u)) (hEr : E r) (hi : i < n) (hiE : ¬ E i) (hu : u < 64) (hD : ¬ D u) (hb : (R i).testBit u = true) : Wst n R (upd ow1 u (some i)) (upd pl1 i u) (fun s => E s ∨ s = i) D := by
  have hE : ∀ s, ((E s ∧ s ≠ r) ∨ s = r) ↔ E s := fun s => ⟨fun x => by
    rcases x with x | x
    · exact x.1
    · exact x ▸ hEr, fun x => by
    by_cases e : s = r
    · exact .inr e
    · exact .inl ⟨x, e⟩⟩
  have h1 := h1.ext hE
  refine ⟨fun v s hd hs => ?_, fun s hs => ?_⟩
  · by_cases e : v = u
    · subst e
      rw [upd_same] at hs
      cases hs
      exact ⟨hu, hi, .inr rfl, upd_same .., hb⟩
    · rw [upd_ne _ _ e] at hs
      obtain ⟨a, b, c, d, f⟩ := h1.own v s (fun x => x.elim hd e) hs
      have : s ≠ i := fun e => hiE (e ▸ c)
      exact ⟨a, b, .inl c, by rw [upd_ne _ _ this]; exact d, f⟩
  · by_cases e : s = i
    · subst e
      rw [upd_same]
      exact ⟨hD, upd_same ..⟩
    · have hs' := hs.resolve_right e
      obtain ⟨a, b⟩ := h1.has s hs'
      rw [upd_ne _ _ e]
      refine ⟨fun x => a (.inl x), ?_⟩
      rw [upd_ne _ _ (fun x => a (.inr x))]; exact b
end
/-- What a way has found: the row has a place, and none that was marked is another one's now. -/
structure Way (n : Nat) (R : Nat → Nat) (ow : Nat → Option Nat) (K : Nat → Bool) (E D : Nat → Prop) (i : Nat) (ow' : Nat → Option Nat) (pl' : Nat → Nat) (K' : Nat → Bool) : Prop where
  st : Wst n R ow' pl' (fun r => E r ∨ r = i) D
  keep : ∀ u, K u = true → ow' u = ow u
  grow : ∀ u, K u = true → K' u = true
/-- All rows have places of their own. -/
structure FullM (n : Nat) (R : Nat → Nat) (f : Nat → Nat) : Prop where
  bit : ∀ r, r < n → (R r).testBit (f r) = true
  inj : ∀ r s, r < n → s < n → f r = f s → r = s
/-- These rows can have places of their own. -/
def Ind (R : Nat → Nat) (E : Nat → Prop) : Prop := ∃ f : Nat → Nat, (∀ r, E r → (R r).testBit (f r) = true) ∧ ∀ r s, E r → E s → f r = f s → r = s
end Go.Proofs.YtbbmjfjedonfaaaDoor.M
