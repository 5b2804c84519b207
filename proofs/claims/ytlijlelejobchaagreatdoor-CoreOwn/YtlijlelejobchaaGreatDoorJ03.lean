/- Rows that enter one by one: which of them, and how many (plain). -/
namespace Go.Proofs.YtlijlelejobchaaGreatDoor.M
def upd {α : Type} (f : Nat → α) (a : Nat) (v : α) : Nat → α := fun x => if x = a then v else f x
theorem upd_same {α : Type} (f : Nat → α) (a : Nat) (v : α) : upd f a v a = v := if_pos rfl
theorem upd_ne {α : Type} (f : Nat → α) {a x : Nat} (v : α) (h : x ≠ a) : upd f a v x = f x := if_neg h
/-- How many places are not marked. -/
def unm (K : Nat → Bool) : Nat := ((List.range 64).filter fun u => !K u).length
theorem filter_le {p q : Nat → Bool} : ∀ (l : List Nat), (∀ u, p u = true → q u = true) → (l.filter p).length ≤ (l.filter q).length
  | [], _ => Nat.le_refl _
  | x :: l, h => by
    have ih := filter_le l h
    rw [List.filter_cons, List.filter_cons]
    by_cases hp : p x = true
    · rw [if_pos hp, if_pos (h x hp)]; simpa using ih
    · rw [if_neg hp]
      split
      · simp; omega
      · exact ih
theorem filter_lt {p q : Nat → Bool} : ∀ (l : List Nat), (∀ u, p u = true → q u = true) → ∀ x, x ∈ l → q x = true → p x = false → (l.filter p).length < (l.filter q).length
  | [], _, x, hx, _, _ => by cases hx
  | y :: l, h, x, hx, h1, h2 => by
    rw [List.filter_cons, List.filter_cons]
    rcases List.mem_cons.1 hx with e | hx
    · subst e
      have := filter_le l h
      rw [if_neg (by rw [h2]; decide), if_pos h1]
      simp; omega
    · have ih := filter_lt l h x hx h1 h2
      by_cases hp : p y = true
      · rw [if_pos hp, if_pos (h y hp)]; simpa using ih
      · rw [if_neg hp]
        split
        · simp; omega
        · exact ih
theorem unm_grow {K K' : Nat → Bool} (h : ∀ u, K u = true → K' u = true) : unm K' ≤ unm K :=
  filter_le _ fun u hu => by
    cases e : K u
    · rfl
    · rw [h u e] at hu; exact hu
theorem unm_lt {K : Nat → Bool} {u : Nat} (hu : u < 64) (hk : K u = false) : unm (upd K u true) < unm K :=
  filter_lt _ (fun x hx => by
    by_cases e : x = u
    · subst e; rw [upd_same] at hx; cases hx
    · rw [upd_ne _ _ e] at hx; exact hx) u (List.mem_range.2 hu) (by rw [hk]; rfl) (by rw [upd_same]; rfl)
theorem unm_le (K : Nat → Bool) : unm K ≤ 64 := Nat.le_trans (List.length_filter_le _ _) (by simp)
/-- Of a row without repetitions whose members lie in another one: it is no longer. -/
theorem pigeon : ∀ {l m : List Nat}, l.Nodup → (∀ x ∈ l, x ∈ m) → l.length ≤ m.length
  | [], _, _, _ => Nat.zero_le _
  | x :: l, m, hd, hs => by
    have hx := hs x (List.mem_cons_self ..)
    have hd' := List.nodup_cons.1 hd
    have := pigeon (l := l) (m := m.erase x) hd'.2 (fun y hy => by
      have hne : y ≠ x := fun e => hd'.1 (e ▸ hy)
      exact (List.mem_erase_of_ne hne).2 (hs y (List.mem_cons_of_mem _ hy)))
    rw [List.length_erase_of_mem hx] at this
    have : 0 < m.length := List.length_pos_of_mem hx
    simp only [List.length_cons]; omega
theorem nodup_map {f : Nat → Nat} : ∀ {l : List Nat}, l.Nodup → (∀ x ∈ l, ∀ y ∈ l, f x = f y → x = y) → (l.map f).Nodup
  | [], _, _ => List.nodup_nil
  | x :: l, hd, h => by
    have hd' := List.nodup_cons.1 hd
    rw [List.map_cons, List.nodup_cons]
    refine ⟨fun hm => ?_, nodup_map hd'.2 fun a ha b hb => h a (List.mem_cons_of_mem _ ha) b (List.mem_cons_of_mem _ hb)⟩
    obtain ⟨y, hy, e⟩ := List.mem_map.1 hm
    have := h y (List.mem_cons_of_mem _ hy) x (List.mem_cons_self ..) e
    exact hd'.1 (this ▸ hy)
/-- No way led on: whose places were met, and all of a row's below c are marked. -/
structure NoW (R : Nat → Nat) (O : Nat → Nat → Prop) (K K' : Nat → Bool) (i c : Nat) : Prop where
  grow : ∀ u, K u = true → K' u = true
  new : ∀ u, u < 64 → K' u = true → K u = false → ∃ r, O u r ∧ ∀ v, (R r).testBit v = true → K' v = true
  all : ∀ v, v < c → (R i).testBit v = true → K' v = true
section
variable {R : Nat → Nat} {O O' : Nat → Nat → Prop} {K K1 K2 : Nat → Bool} {i c u r : Nat}
theorem NoW.start (K : Nat → Bool) : NoW R O K K i 0 := ⟨fun _ h => h, fun u _ h1 h2 => (by rw [h1] at h2; cases h2), fun _ h => absurd h (Nat.not_lt_zero _)⟩
theorem NoW.gap (h : NoW R O K K1 i c) {d : Nat} (hg : ∀ v, c ≤ v → v < d → (R i).testBit v = false) : NoW R O K K1 i d :=
  ⟨h.grow, h.new, fun v hv hb => by
    rcases Nat.lt_or_ge v c with e | e
    · exact h.all v e hb
    · rw [hg v e hv] at hb; cases hb⟩
theorem NoW.skip (h : NoW R O K K1 i c) (hg : ∀ v, c ≤ v → v < u → (R i).testBit v = false) (hk : K1 u = true) : NoW R O K K1 i (u + 1) :=
  ⟨h.grow, h.new, fun v hv hb => by
    rcases Nat.lt_or_ge v u with e | e
    · exact (h.gap hg).all v e hb
    · have : v = u := by omega
      subst this; exact hk⟩
theorem NoW.step (h : NoW R O K K1 i c) (hg : ∀ v, c ≤ v → v < u → (R i).testBit v = false) (hR : ∀ r v, (R r).testBit v = true → v < 64) (ho : O u r) (hw : NoW R O' (upd K1 u true) K2 r 64) (hO : ∀ v s, O' v s → O v s) : NoW R O K K2 i (u + 1) := by
  have g1 : ∀ v, K1 v = true → K2 v = true := fun v hv => hw.grow v (by
    by_cases e : v = u
    · subst e; exact upd_same ..
    · rw [upd_ne _ _ e]; exact hv)
  refine ⟨fun v hv => g1 v (h.grow v hv), fun v hv h2 hk => ?_, fun v hv hb => ?_⟩
  · by_cases h1 : K1 v = true
    · obtain ⟨s, hs, hc⟩ := h.new v hv h1 hk
      exact ⟨s, hs, fun x hx => g1 x (hc x hx)⟩
    · by_cases e : v = u
      · subst e
        exact ⟨r, ho, fun x hx => hw.all x (hR r x hx) hx⟩
      · obtain ⟨s, hs, hc⟩ := hw.new v hv h2 (by rw [upd_ne _ _ e]; simpa using h1)
        exact ⟨s, hO v s hs, hc⟩
  · rcases Nat.lt_or_ge v u with e | e
    · exact g1 v ((h.gap hg).all v e hb)
    · have : v = u := by omega
      subst this
      exact hw.grow v (upd_same ..)
/-- Where no way led on, these rows have no places of their own but the marked ones. -/
theorem NoW.no {K' : Nat → Bool} (h : NoW R O K K' i 64) (hR : ∀ r v, (R r).testBit v = true → v < 64) (hO : ∀ u v r, O u r → O v r → u = v) (hi : ∀ u, ¬ O u i) (f : Nat → Nat)
    (hf : ∀ r, (r = i ∨ ∃ u, K u = false ∧ O u r) → (R r).testBit (f r) = true ∧ K (f r) = false)
    (hj : ∀ r s, (r = i ∨ ∃ u, K u = false ∧ O u r) → (s = i ∨ ∃ u, K u = false ∧ O u s) → f r = f s → r = s) : False := by
  have hch : ∀ u, ∃ r, (u < 64 ∧ K' u = true ∧ K u = false) → O u r ∧ ∀ v, (R r).testBit v = true → K' v = true := fun u => by
    by_cases e : u < 64 ∧ K' u = true ∧ K u = false
    · obtain ⟨r, hr⟩ := h.new u e.1 e.2.1 e.2.2
      exact ⟨r, fun _ => hr⟩
    · exact ⟨0, fun x => absurd x e⟩
  obtain ⟨g, hg⟩ := Classical.axiomOfChoice hch
  have hZ : ∀ u, u ∈ (List.range 64).filter (fun u => K' u && !K u) ↔ u < 64 ∧ K' u = true ∧ K u = false := fun u => by simp
  have hnd : ((List.range 64).filter (fun u => K' u && !K u)).Nodup := List.Pairwise.filter _ List.nodup_range
  generalize (List.range 64).filter (fun u => K' u && !K u) = Z at hZ hnd
  have hS : ∀ r, r ∈ i :: Z.map g → (r = i ∨ ∃ u, K u = false ∧ O u r) ∧ ∀ v, (R r).testBit v = true → K' v = true := fun r hr => by
    rcases List.mem_cons.1 hr with e | hr
    · subst e
      exact ⟨.inl rfl, fun v hv => h.all v (hR _ v hv) hv⟩
    · obtain ⟨u, hu, e⟩ := List.mem_map.1 hr
      subst e
      have hu' := (hZ u).1 hu
      exact ⟨.inr ⟨u, hu'.2.2, (hg u hu').1⟩, (hg u hu').2⟩
  have hSn : (i :: Z.map g).Nodup := by
    rw [List.nodup_cons]
    refine ⟨fun hm => ?_, nodup_map hnd fun x hx y hy e => ?_⟩
    · obtain ⟨u, hu, e⟩ := List.mem_map.1 hm
      have := (hg u ((hZ u).1 hu)).1
      rw [e] at this
      exact hi u this
    · have h1 := (hg x ((hZ x).1 hx)).1
      have h2 := (hg y ((hZ y).1 hy)).1
      rw [e] at h1
      exact hO x y _ h1 h2
  have hm : ((i :: Z.map g).map f).Nodup := nodup_map hSn fun x hx y hy e => hj x y (hS x hx).1 (hS y hy).1 e
  have := pigeon hm (m := Z) fun v hv => by
    obtain ⟨r, hr, e⟩ := List.mem_map.1 hv
    subst e
    have h1 := hS r hr
    have h2 := hf r h1.1
    exact (hZ _).2 ⟨hR r _ h2.1, h1.2 _ h2.1, h2.2⟩
  simp only [List.map_cons, List.length_cons, List.length_map] at this
  omega
end
/-- The rows of E have the places that the tables say, but for places that are given up. -/
structure Wst (n : Nat) (R : Nat → Nat) (ow : Nat → Option Nat) (pl : Nat → Nat) (E D : Nat → Prop) : Prop where
  own : ∀ u r, ¬ D u → ow u = some r → u < 64 ∧ r < n ∧ E r ∧ pl r = u ∧ (R r).testBit u = true
  has : ∀ r, E r → ¬ D (pl r) ∧ ow (pl r) = some r
/-- Whose place it is. -/
def Ow (ow : Nat → Option Nat) (D : Nat → Prop) (u r : Nat) : Prop := ¬ D u ∧ ow u = some r
section
variable {n : Nat} {R : Nat → Nat} {ow ow1 : Nat → Option Nat} {pl pl1 : Nat → Nat} {E D : Nat → Prop} {i u r : Nat}
theorem Wst.ext {E' : Nat → Prop} (h : Wst n R ow pl E D) (he : ∀ r, E r ↔ E' r) : Wst n R ow pl E' D :=
  ⟨fun u r hd ho => by obtain ⟨a, b, c, d⟩ := h.own u r hd ho; exact ⟨a, b, (he r).1 c, d⟩, fun r hr => h.has r ((he r).2 hr)⟩
theorem Wst.one (h : Wst n R ow pl E D) {u v r : Nat} (h1 : Ow ow D u r) (h2 : Ow ow D v r) : u = v := by
  have a := (h.own u r h1.1 h1.2).2.2.2.1
  have b := (h.own v r h2.1 h2.2).2.2.2.1
  omega
/-- A place that nobody has is taken. -/
theorem Wst.take (h : Wst n R ow pl E D) (hi : i < n) (hiE : ¬ E i) (hu : u < 64) (hD : ¬ D u) (hb : (R i).testBit u = true) (hno : ow u = none) : Wst n R (upd ow u (some i)) (upd pl i u) (fun r => E r ∨ r = i) D := by
  refine ⟨fun v r hd ho => ?_, fun r hr => ?_⟩
  · by_cases e : v = u
    · subst e
      rw [upd_same] at ho
      cases ho
      exact ⟨hu, hi, .inr rfl, upd_same .., hb⟩
    · rw [upd_ne _ _ e] at ho
      obtain ⟨a, b, c, d, f⟩ := h.own v r hd ho
      have : r ≠ i := fun e => hiE (e ▸ c)
      exact ⟨a, b, .inl c, by rw [upd_ne _ _ this]; exact d, f⟩
  · by_cases e : r = i
    · subst e
      rw [upd_same]
      exact ⟨hD, upd_same ..⟩
    · have hr' := hr.resolve_right e
      obtain ⟨a, b⟩ := h.has r hr'
      rw [upd_ne _ _ e]
      refine ⟨a, ?_⟩
      by_cases e2 : pl r = u
      · rw [e2, hno] at b; cases b
      · rw [upd_ne _ _ e2]; exact b
/-- What a row's going on to another place is asked of. -/
theorem Wst.leave (h : Wst n R ow pl E D) (hD : ¬ D u) (ho : ow u = some r) : Wst n R ow pl (fun s => E s ∧ s ≠ r) (fun v => D v ∨ v = u) := by
  have hr := h.own u r hD ho
  refine ⟨fun v s hd hs => ?_, fun s hs => ?_⟩
  · obtain ⟨a, b, c, d, f⟩ := h.own v s (fun x => hd (.inl x)) hs
    refine ⟨a, b, ⟨c, fun e => ?_⟩, d, f⟩
    subst e
    exact hd (.inr (by omega))
  · obtain ⟨a, b⟩ := h.has s hs.1
    refine ⟨fun x => ?_, b⟩
    rcases x with x | x
    · exact a x
    · rw [x, ho] at b
      cases b
      exact hs.2 rfl
/-- The row that had the place has another one: this one is taken. -/
theorem Wst.moved (h1 : Wst n R ow1 pl1 (fun s => (E s ∧ s ≠ r) ∨ s = r) (fun v => D v ∨ v = u)) (hEr : E r) (hi : i < n) (hiE : ¬ E i) (hu : u < 64) (hD : ¬ D u) (hb : (R i).testBit u = true) : Wst n R (upd ow1 u (some i)) (upd pl1 i u) (fun s => E s ∨ s = i) D := by
  have hE : ∀ s, ((E s ∧ s ≠ r) ∨ s = r) ↔ E s := fun s => ⟨fun x => by
    rcases x with x | x
    · exact x.1
    · exact x ▸ hEr, fun x => by
    by_cases e : s = r
    · exact .inr e
    · exact .inl ⟨x, e⟩⟩
  have h1 := h1.ext hE
  refine ⟨fun v s hd hs => ?_, fun s hs => ?_⟩
  · by_cases e : v = u
    · subst e
      rw [upd_same] at hs
      cases hs
      exact ⟨hu, hi, .inr rfl, upd_same .., hb⟩
    · rw [upd_ne _ _ e] at hs
      obtain ⟨a, b, c, d, f⟩ := h1.own v s (fun x => x.elim hd e) hs
      have : s ≠ i := fun e => hiE (e ▸ c)
      exact ⟨a, b, .inl c, by rw [upd_ne _ _ this]; exact d, f⟩
  · by_cases e : s = i
    · subst e
      rw [upd_same]
      exact ⟨hD, upd_same ..⟩
    · have hs' := hs.resolve_right e
      obtain ⟨a, b⟩ := h1.has s hs'
      rw [upd_ne _ _ e]
      refine ⟨fun x => a (.inl x), ?_⟩
      rw [upd_ne _ _ (fun x => a (.inr x))]; exact b
end
/-- What a way has found: the row has a place, and none that was marked is another one's now. -/
structure Way (n : Nat) (R : Nat → Nat) (ow : Nat → Option Nat) (K : Nat → Bool) (E D : Nat → Prop) (i : Nat) (ow' : Nat → Option Nat) (pl' : Nat → Nat) (K' : Nat → Bool) : Prop where
  st : Wst n R ow' pl' (fun r => E r ∨ r = i) D
  keep : ∀ u, K u = true → ow' u = ow u
  grow : ∀ u, K u = true → K' u = true
/-- All rows have places of their own. -/
structure FullM (n : Nat) (R : Nat → Nat) (f : Nat → Nat) : Prop where
  bit : ∀ r, r < n → (R r).testBit (f r) = true
  inj : ∀ r s, r < n → s < n → f r = f s → r = s
/-- These rows can have places of their own. -/
def Ind (R : Nat → Nat) (E : Nat → Prop) : Prop := ∃ f : Nat → Nat, (∀ r, E r → (R r).testBit (f r) = true) ∧ ∀ r s, E r → E s → f r = f s → r = s
end Go.Proofs.YtlijlelejobchaaGreatDoor.M
namespace Go.Proofs.YtlijlelejobchaaGreatDoor.M
def No : Nat → Prop := fun _ => False
section
variable {n : Nat} {R : Nat → Nat} {ow : Nat → Option Nat} {pl : Nat → Nat} {E : Nat → Prop} {i u row : Nat}
theorem Wst.ind (h : Wst n R ow pl E No) : Ind R E :=
  ⟨pl, fun r hr => (h.own _ r id (h.has r hr).2).2.2.2.2, fun r s hr hs e => by
    have a := (h.has r hr).2
    have b := (h.has s hs).2
    rw [e, b] at a
    exact (Option.some.inj a).symm⟩
theorem enter_no {K' : Nat → Bool} (h : Wst n R ow pl E No) (hR : ∀ r v, (R r).testBit v = true → v < 64) (hiE : ¬ E i) (hw : NoW R (Ow ow No) (fun _ => false) K' i 64) : ¬ Ind R (fun r => E r ∨ r = i) := by
  rintro ⟨f, h1, h2⟩
  have hE : ∀ r, (r = i ∨ ∃ u, false = false ∧ Ow ow No u r) → E r ∨ r = i := fun r hr => by
    rcases hr with e | ⟨u, _, hu⟩
    · exact .inr e
    · exact .inl (h.own u r hu.1 hu.2).2.2.1
  exact hw.no hR (fun u v r => h.one) (fun u hu => hiE (h.own u i hu.1 hu.2).2.2.1) f (fun r hr => ⟨h1 r (hE r hr), rfl⟩) (fun r s hr hs => h2 r s (hE r hr) (hE s hs))
theorem Wst.full (h : Wst n R ow pl (fun r => r < n) No) : FullM n R pl :=
  ⟨fun r hr => (h.own _ r id (h.has r hr).2).2.2.2.2, fun r s hr hs e => by
    have a := (h.has r hr).2
    have b := (h.has s hs).2
    rw [e, b] at a
    exact (Option.some.inj a).symm⟩
theorem FullM.ind {f : Nat → Nat} (h : FullM n R f) (hE : ∀ r, E r → r < n) : Ind R E := ⟨f, fun r hr => h.bit r (hE r hr), fun r s hr hs => h.inj r s (hE r hr) (hE s hs)⟩
theorem full_iff : (∃ f, FullM n R f) ↔ Ind R (fun r => r < n) := ⟨fun ⟨_, h⟩ => h.ind fun _ h => h, fun ⟨f, h1, h2⟩ => ⟨f, h1, h2⟩⟩
theorem Ind.sub {E' : Nat → Prop} (h : Ind R E) (he : ∀ r, E' r → E r) : Ind R E' := by
  obtain ⟨f, h1, h2⟩ := h
  exact ⟨f, fun r hr => h1 r (he r hr), fun r s hr hs => h2 r s (he r hr) (he s hs)⟩
theorem Wst.empty (n : Nat) (R : Nat → Nat) (pl : Nat → Nat) : Wst n R (fun _ => none) pl No No := ⟨fun _ _ _ h => (by cases h), fun _ h => False.elim h⟩
/-- A row gives up its place. -/
theorem Wst.drop (h : Wst n R ow pl (fun r => r < n) No) (hr : row < n) : Wst n R (upd ow (pl row) none) pl (fun r => r < n ∧ r ≠ row) No := by
  refine ⟨fun v r hd ho => ?_, fun r hr' => ?_⟩
  · by_cases e : v = pl row
    · rw [e, upd_same] at ho; cases ho
    · rw [upd_ne _ _ e] at ho
      obtain ⟨a, b, c, d, f⟩ := h.own v r hd ho
      exact ⟨a, b, ⟨b, fun e2 => e (by rw [← d, e2])⟩, d, f⟩
  · obtain ⟨a, b⟩ := h.has r hr'.1
    refine ⟨a, ?_⟩
    have : pl r ≠ pl row := fun e => by
      rw [e, (h.has row hr).2] at b
      exact hr'.2 (Option.some.inj b).symm
    rw [upd_ne _ _ this]; exact b
theorem Wst.back (h : Wst n R ow pl (fun r => r < n) No) (hr : row < n) : upd (upd ow (pl row) none) (pl row) (some row) = ow := by
  funext x
  by_cases e : x = pl row
  · rw [e, upd_same, (h.has row hr).2]
  · rw [upd_ne _ _ e, upd_ne _ _ e]
/-- A row has moved to a place; who had a marked place keeps it. -/
structure Mvd (n : Nat) (R : Nat → Nat) (S : Nat → Bool) (ow : Nat → Option Nat) (row u : Nat) (ow' : Nat → Option Nat) (pl' : Nat → Nat) : Prop where
  st : Wst n R ow' pl' (fun r => r < n) No
  at_ : pl' row = u
  keep : ∀ v, S v = true → ow' v = ow v
theorem move_free {S : Nat → Bool} (h : Wst n R ow pl (fun r => r < n) No) (hr : row < n) (hb : (R row).testBit u = true) (hu : u < 64) (hno : ow u = none) (hSu : S u = false) (hSr : S (pl row) = false) : Mvd n R S ow row u (upd (upd ow (pl row) none) u (some row)) (upd pl row u) := by
  have h1 := h.drop hr
  have hne : u ≠ pl row := fun e => by rw [e, (h.has row hr).2] at hno; cases hno
  have h2 := h1.take (i := row) (u := u) hr (fun x => x.2 rfl) hu id hb (by rw [upd_ne _ _ hne]; exact hno)
  refine ⟨h2.ext fun r => ?_, upd_same .., fun v hv => ?_⟩
  · by_cases e : r = row
    · subst e; simp [hr]
    · simp [e]
  · have e1 : v ≠ u := fun e => by rw [e, hSu] at hv; cases hv
    have e2 : v ≠ pl row := fun e => by rw [e, hSr] at hv; cases hv
    rw [upd_ne _ _ e1, upd_ne _ _ e2]
/-- What the way is asked of that the other row must go. -/
theorem move_pre {o : Nat} (h : Wst n R ow pl (fun r => r < n) No) (hr : row < n) (ho : ow u = some o) (hne : o ≠ row) : upd ow (pl row) none u = some o ∧ o < n ∧ Wst n R (upd ow (pl row) none) pl (fun s => (s < n ∧ s ≠ row) ∧ s ≠ o) (fun v => No v ∨ v = u) := by
  have h1 := h.drop hr
  have hup : u ≠ pl row := fun e => by rw [e, (h.has row hr).2] at ho; exact hne (Option.some.inj ho).symm
  have e : upd ow (pl row) none u = some o := by rw [upd_ne _ _ hup]; exact ho
  exact ⟨e, (h.own u o id ho).2.1, h1.leave id e⟩
theorem move_way {o : Nat} {S : Nat → Bool} {ow2 : Nat → Option Nat} {pl2 : Nat → Nat} {K2 : Nat → Bool} (h : Wst n R ow pl (fun r => r < n) No) (hr : row < n) (hb : (R row).testBit u = true) (hu : u < 64) (ho : ow u = some o) (hne : o ≠ row) (hSu : S u = false) (hSr : S (pl row) = false)
    (hw : Way n R (upd ow (pl row) none) (upd S u true) (fun s => (s < n ∧ s ≠ row) ∧ s ≠ o) (fun v => No v ∨ v = u) o ow2 pl2 K2) : Mvd n R S ow row u (upd ow2 u (some row)) (upd pl2 row u) := by
  obtain ⟨e, hon, _⟩ := move_pre h hr ho hne
  have h2 := Wst.moved (E := fun s => s < n ∧ s ≠ row) (D := No) (i := row) hw.st ⟨hon, hne⟩ hr (fun x => x.2 rfl) hu id hb
  refine ⟨h2.ext fun r => ?_, upd_same .., fun v hv => ?_⟩
  · by_cases e : r = row
    · subst e; simp [hr]
    · simp [e]
  · have e1 : v ≠ u := fun e => by rw [e, hSu] at hv; cases hv
    have e2 : v ≠ pl row := fun e => by rw [e, hSr] at hv; cases hv
    rw [upd_ne _ _ e1, hw.keep v (by rw [upd_ne _ _ e1]; exact hv), upd_ne _ _ e2]
/-- There is no full matching in which the row has the place, and the marked places are whose they are. -/
def NoM (n : Nat) (R : Nat → Nat) (S : Nat → Bool) (pl : Nat → Nat) (row u : Nat) : Prop := ∀ g, FullM n R g → (∀ j, j < n → S (pl j) = true → g j = pl j) → g row ≠ u
theorem move_marked {S : Nat → Bool} (hr : row < n) (hS : ∀ v, S v = true → ∃ j, j < n ∧ pl j = v) (hSr : S (pl row) = false) (hSu : S u = true) : NoM n R S pl row u := fun g hg hk e => by
  obtain ⟨j, hj, hp⟩ := hS u hSu
  have h1 := hk j hj (by rw [hp]; exact hSu)
  have : j = row := hg.inj j row hj hr (by rw [h1, hp, e])
  subst this
  rw [hp, hSu] at hSr
  cases hSr
theorem move_stuck {o : Nat} {S : Nat → Bool} {K' : Nat → Bool} (h : Wst n R ow pl (fun r => r < n) No) (hR : ∀ r v, (R r).testBit v = true → v < 64) (hr : row < n) (ho : ow u = some o) (hne : o ≠ row) (hS : ∀ v, S v = true → ∃ j, j < n ∧ pl j = v) (hSu : S u = false)
    (hw : NoW R (Ow (upd ow (pl row) none) (fun v => No v ∨ v = u)) (upd S u true) K' o 64) : NoM n R S pl row u := fun g hg hk hgu => by
  obtain ⟨e, hon, hst⟩ := move_pre h hr ho hne
  have hpo : pl o = u := (h.own u o id ho).2.2.2.1
  have hin : ∀ r, (r = o ∨ ∃ v, upd S u true v = false ∧ Ow (upd ow (pl row) none) (fun v => No v ∨ v = u) v r) → r < n ∧ r ≠ row ∧ S (pl r) = false := fun r x => by
    rcases x with x | ⟨v, hv, hvo⟩
    · subst x
      exact ⟨hon, hne, by rw [hpo]; exact hSu⟩
    · obtain ⟨_, hrn, hE, hp, _⟩ := hst.own v r hvo.1 hvo.2
      refine ⟨hrn, hE.1.2, ?_⟩
      have e1 : v ≠ u := fun e => by rw [e, upd_same] at hv; cases hv
      rw [hp, ← upd_ne S true e1]; exact hv
  refine hw.no hR (fun _ _ _ => hst.one) (fun v hv => (hst.own v o hv.1 hv.2).2.2.1.2 rfl) g (fun r hx => ?_) (fun r s hr' hs' => hg.inj r s (hin r hr').1 (hin s hs').1)
  obtain ⟨hrn, hrr, hSp⟩ := hin r hx
  refine ⟨hg.bit r hrn, ?_⟩
  by_cases e1 : g r = u
  · exact absurd (hg.inj r row hrn hr (e1.trans hgu.symm)) hrr
  · rw [upd_ne _ _ e1]
    cases e2 : S (g r)
    · rfl
    · obtain ⟨j, hj, hpj⟩ := hS _ e2
      have h1 := hk j hj (by rw [hpj]; exact e2)
      have : j = r := hg.inj j r hj hrn (by rw [h1, hpj])
      subst this
      rw [hpj, e2] at hSp
      cases hSp
/-- A list of places that is the first one. -/
structure Lex (n : Nat) (R : Nat → Nat) (l : Nat → Nat) (k : Nat) : Prop where
  full : FullM n R l
  least : ∀ j, j < k → ∀ u, u < l j → ∀ g, FullM n R g → (∀ i, i < j → g i = l i) → g j ≠ u
theorem Lex.one {l m : Nat → Nat} (h1 : Lex n R l n) (h2 : Lex n R m n) : ∀ k, k < n → l k = m k := by
  intro k
  induction k using Nat.strongRecOn with
  | ind k ih =>
    intro hk
    rcases Nat.lt_trichotomy (l k) (m k) with h | h | h
    · exact absurd rfl (h2.least k hk _ h l h1.full (fun i hi => ih i hi (by omega)))
    · exact h
    · exact absurd rfl (h1.least k hk _ h m h2.full (fun i hi => (ih i hi (by omega)).symm))
/-- One row more is settled. -/
theorem settle_step {S : Nat → Bool} {ow' : Nat → Option Nat} {pl' : Nat → Nat} {k : Nat} (h : Wst n R ow pl (fun r => r < n) No) (h' : Wst n R ow' pl' (fun r => r < n) No) (hk : k < n) (hS : ∀ v, S v = true ↔ ∃ j, j < k ∧ pl j = v) (hL : Lex n R pl k)
    (hkeep : ∀ v, S v = true → ow' v = ow v) (hle : ∀ u, u < pl' k → (R k).testBit u = true → NoM n R S pl k u) : (∀ v, upd S (pl' k) true v = true ↔ ∃ j, j < k + 1 ∧ pl' j = v) ∧ Lex n R pl' (k + 1) := by
  have hsame : ∀ j, j < k → pl' j = pl j := fun j hj => by
    have h1 := (h.has j (by omega)).2
    have h2 := hkeep (pl j) ((hS _).2 ⟨j, hj, rfl⟩)
    rw [h1] at h2
    exact (h'.own _ j id h2).2.2.2.1
  refine ⟨fun v => ?_, h'.full, fun j hj u hu g hg hag => ?_⟩
  · by_cases e : v = pl' k
    · subst e
      rw [upd_same]
      exact ⟨fun _ => ⟨k, by omega, rfl⟩, fun _ => rfl⟩
    · rw [upd_ne _ _ e, hS]
      constructor
      · rintro ⟨j, hj, rfl⟩
        exact ⟨j, by omega, hsame j hj⟩
      · rintro ⟨j, hj, rfl⟩
        have : j ≠ k := fun e2 => e (by rw [e2])
        exact ⟨j, by omega, (hsame j (by omega)).symm⟩
  · by_cases e : j = k
    · subst e
      intro hgu
      have hb : (R j).testBit u = true := by rw [← hgu]; exact hg.bit j hk
      refine hle u hu hb g hg (fun i hi hSi => ?_) hgu
      obtain ⟨i', hi', hpi⟩ := (hS _).1 hSi
      have : i' = i := h.full.inj i' i (by omega) hi hpi
      subst this
      rw [hag i' hi', hsame i' hi']
    · have hjk : j < k := by omega
      rw [hsame j hjk] at hu
      exact hL.least j hjk u hu g hg (fun i hi => by rw [hag i hi, hsame i (by omega)])
end
end Go.Proofs.YtlijlelejobchaaGreatDoor.M
namespace Go.Proofs.YtlijlelejobchaaGreatDoor.M
/-- The rows that entered, of the first k. -/
def grE (R : Nat → Nat) : Nat → Nat → Prop
  | 0 => No
  | k + 1 => fun r => grE R k r ∨ (r = k ∧ Ind R (fun s => grE R k s ∨ s = k))
open Classical in
/-- How many. -/
noncomputable def grN (R : Nat → Nat) : Nat → Nat
  | 0 => 0
  | k + 1 => grN R k + if Ind R (fun s => grE R k s ∨ s = k) then 1 else 0
section
variable {R : Nat → Nat}
theorem grE_lt : ∀ {k r : Nat}, grE R k r → r < k
  | 0, _, h => False.elim h
  | k + 1, r, h => by
    rcases h with h | h
    · have := grE_lt h; omega
    · omega
theorem grE_yes {k : Nat} (h : Ind R (fun s => grE R k s ∨ s = k)) : (∀ r, (grE R k r ∨ r = k) ↔ grE R (k + 1) r) ∧ grN R (k + 1) = grN R k + 1 :=
  ⟨fun r => ⟨fun x => x.imp id (fun e => ⟨e, h⟩), fun x => x.imp id (fun e => e.1)⟩, by show grN R k + _ = _; rw [if_pos h]⟩
theorem grE_no {k : Nat} (h : ¬ Ind R (fun s => grE R k s ∨ s = k)) : (∀ r, grE R k r ↔ grE R (k + 1) r) ∧ grN R (k + 1) = grN R k :=
  ⟨fun r => ⟨.inl, fun x => x.elim id (fun e => absurd e.2 h)⟩, by show grN R k + _ = _; rw [if_neg h]; rfl⟩
theorem grN_le : ∀ k, grN R k ≤ k
  | 0 => Nat.le_refl _
  | k + 1 => by
    have := grN_le k
    by_cases h : Ind R (fun s => grE R k s ∨ s = k)
    · rw [(grE_yes h).2]; omega
    · rw [(grE_no h).2]; omega
theorem grE_ind : ∀ k, Ind R (grE R k)
  | 0 => ⟨fun _ => 0, fun _ h => False.elim h, fun _ _ h => False.elim h⟩
  | k + 1 => by
    by_cases h : Ind R (fun s => grE R k s ∨ s = k)
    · exact h.sub fun r hr => ((grE_yes h).1 r).2 hr
    · exact (grE_ind k).sub fun r hr => ((grE_no h).1 r).2 hr
theorem grN_full : ∀ k, grN R k = k → ∀ r, r < k → grE R k r
  | 0, _, _, h => absurd h (Nat.not_lt_zero _)
  | k + 1, hk, r, hr => by
    by_cases h : Ind R (fun s => grE R k s ∨ s = k)
    · have h2 := (grE_yes h).2
      refine ((grE_yes h).1 r).1 ?_
      by_cases e : r = k
      · exact .inr e
      · exact .inl (grN_full k (by omega) r (by omega))
    · have h2 := (grE_no h).2
      have := grN_le (R := R) k
      omega
theorem grN_of : ∀ k, Ind R (fun r => r < k) → grN R k = k
  | 0, _ => rfl
  | k + 1, h => by
    have h1 := grN_of k (h.sub fun r hr => Nat.lt_succ_of_lt hr)
    have h2 : Ind R (fun s => grE R k s ∨ s = k) := h.sub fun r hr => by
      rcases hr with hr | hr
      · have := grE_lt hr; omega
      · omega
    rw [(grE_yes h2).2, h1]
/-- All have entered just if there is a full matching. -/
theorem grN_iff (n : Nat) : grN R n = n ↔ Ind R (fun r => r < n) :=
  ⟨fun h => (grE_ind n).sub fun r hr => grN_full n h r hr, grN_of n⟩
end
end Go.Proofs.YtlijlelejobchaaGreatDoor.M
