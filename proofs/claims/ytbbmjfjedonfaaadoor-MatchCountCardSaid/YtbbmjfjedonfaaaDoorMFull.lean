/- Full matchings: what entering, moving and settling rows come to (plain). -/
import Derived.Test.YtbbmjfjedonfaaaDoorMMath
namespace Go.Proofs.YtbbmjfjedonfaaaDoor.M
def No : Nat → Prop := fun _ => False
section
variable {n : Nat} {R : Nat → Nat} {ow : Nat → Option Nat} {pl : Nat → Nat} {E : Nat → Prop} {i u row : Nat}
theorem Wst.ind (h : Wst n R ow pl E No) : Ind R E :=
  ⟨pl, fun r hr => (h.own _ r id (h.has r hr).2).2.2.2.2, fun r s hr hs e => by
    have a := (h.has r hr).2
    have b := (h.has s hs).2
    rw [e, b] at a
    exact (Option.some.inj a).symm⟩
theorem enter_no {K' : Nat → Bool} (h : Wst n R ow pl E No) (hR : ∀ r v, (R r).testBit v = true → v < 64) (hiE : ¬ E i) (hw : NoW R (Ow ow No) (fun _ => false) K' i 64) : ¬ Ind R (fun r => E r ∨ r = i) := by
  rintro ⟨f, h1, h2⟩
  have hE : ∀ r, (r = i ∨ ∃ u, false = false ∧ Ow ow No u r) → E r ∨ r = i := fun r hr => by
    rcases hr with e | ⟨u, _, hu⟩
    · exact .inr e
    · exact .inl (h.own u r hu.1 hu.2).2.2.1
  exact hw.no hR (fun u v r => h.one) (fun u hu => hiE (h.own u i hu.1 hu.2).2.2.1) f (fun r hr => ⟨h1 r (hE r hr), rfl⟩) (fun r s hr hs => h2 r s (hE r hr) (hE s hs))
theorem Wst.full (h : Wst n R ow pl (fun r => r < n) No) : FullM n R pl :=
  ⟨fun r hr => (h.own _ r id (h.has r hr).2).2.2.2.2, fun r s hr hs e => by
    have a := (h.has r hr).2
    have b := (h.has s hs).2
    rw [e, b] at a
    exact (Option.some.inj a).symm⟩
theorem FullM.ind {f : Nat → Nat} (h : FullM n R f) (hE : ∀ r, E r → r < n) : Ind R E := ⟨f, fun r hr => h.bit r (hE r hr), fun r s hr hs => h.inj r s (hE r hr) (hE s hs)⟩
theorem full_iff : (∃ f, FullM n R f) ↔ Ind R (fun r => r < n) := ⟨fun ⟨_, h⟩ => h.ind fun _ h => h, fun ⟨f, h1, h2⟩ => ⟨f, h1, h2⟩⟩
theorem Ind.sub {E' : Nat → Prop} (h : Ind R E) (he : ∀ r, E' r → E r) : Ind R E' := by
  obtain ⟨f, h1, h2⟩ := h
  exact ⟨f, fun r hr => h1 r (he r hr), fun r s hr hs => h2 r s (he r hr) (he s hs)⟩
theorem Wst.empty (n : Nat) (R : Nat → Nat) (pl : Nat → Nat) : Wst n R (fun _ => none) pl No No := ⟨fun _ _ _ h => (by cases h), fun _ h => False.elim h⟩
/-- A row gives up its place. -/
theorem Wst.drop (h : Wst n R ow pl (fun r => r < n) No) (hr : row < n) : Wst n R (upd ow (pl row) none) pl (fun r => r < n ∧ r ≠ row) No := by
  refine ⟨fun v r hd ho => ?_, fun r hr' => ?_⟩
  · by_cases e : v = pl row
    · rw [e, upd_same] at ho; cases ho
    · rw [upd_ne _ _ e] at ho
      obtain ⟨a, b, c, d, f⟩ := h.own v r hd ho
      exact ⟨a, b, ⟨b, fun e2 => e (by rw [← d, e2])⟩, d, f⟩
  · obtain ⟨a, b⟩ := h.has r hr'.1
    refine ⟨a, ?_⟩
    have : pl r ≠ pl row := fun e => by
      rw [e, (h.has row hr).2] at b
      exact hr'.2 (Option.some.inj b).symm
    rw [upd_ne _ _ this]; exact b
theorem Wst.back (h : Wst n R ow pl (fun r => r < n) No) (hr : row < n) : upd (upd ow (pl row) none) (pl row) (some row) = ow := by
  funext x
  by_cases e : x = pl row
  · rw [e, upd_same, (h.has row hr).2]
  · rw [upd_ne _ _ e, upd_ne _ _ e]
/-- A row has moved to a place; who had a marked place keeps it. -/
structure Mvd (n : Nat) (R : Nat → Nat) (S : Nat → Bool) (ow : Nat → Option Nat) (row u : Nat) (ow' : Nat → Option Nat) (pl' : Nat → Nat) : Prop where
  st : Wst n R ow' pl' (fun r => r < n) No
  at_ : pl' row = u
  keep : ∀ v, S v = true → ow' v = ow v
theorem move_free {S : Nat → Bool} (h : Wst n R ow pl (fun r => r < n) No) (hr : row < n) (hb : (R row).testBit u = true) (hu : u < 64) (hno : ow u = none) (hSu : S u = false) (hSr : S (pl row) = false) : Mvd n R S ow row u (upd (upd ow (pl row) none) u (some row)) (upd pl row u) := by
  have h1 := h.drop hr
  have hne : u ≠ pl row := fun e => by rw [e, (h.has row hr).2] at hno; cases hno
  have h2 := h1.take (i := row) (u := u) hr (fun x => x.2 rfl) hu id hb (by rw [upd_ne _ _ hne]; exact hno)
  refine ⟨h2.ext fun r => ?_, upd_same .., fun v hv => ?_⟩
  · by_cases e : r = row
    · subst e; simp [hr]
    · simp [e]
  · have e1 : v ≠ u := fun e => by rw [e, hSu] at hv; cases hv
    have e2 : v ≠ pl row := fun e => by rw [e, hSr] at hv; cases hv
    rw [upd_ne _ _ e1, upd_ne _ _ e2]
/-- What the way is asked of that the other row must go. -/
theorem move_pre {o : Nat} (h : Wst n R ow pl (fun r => r < n) No) (hr : row < n) (ho : ow u = some o) (hne : o ≠ row) : upd ow (pl row) none u = some o ∧ o < n ∧ Wst n R (upd ow (pl row) none) pl (fun s => (s < n ∧ s ≠ row) ∧ s ≠ o) (fun v => No v ∨ v = u) := by
  have h1 := h.drop hr
  have hup : u ≠ pl row := fun e => by rw [e, (h.has row hr).2] at ho; exact hne (Option.some.inj ho).symm
  have e : upd ow (pl row) none u = some o := by rw [upd_ne _ _ hup]; exact ho
  exact ⟨e, (h.own u o id ho).2.1, h1.leave id e⟩
theorem move_way {o : Nat} {S : Nat → Bool} {ow2 : Nat → Option Nat} {pl2 : Nat → Nat} {K2 : Nat → Bool} (h : Wst n R ow pl (fun r => r < n) No) (hr : row < n) (hb : (R row).testBit u = true) (hu : u < 64) (ho : ow u = some o) (hne : o ≠ row) (hSu : S u = false) (hSr : S (pl row) = false)
    (hw : Way n R (upd ow (pl row) none) (upd S u true) (fun s => (s < n ∧ s ≠ row) ∧ s ≠ o) (fun v => No v ∨ v = u) o ow2 pl2 K2) : Mvd n R S ow row u (upd ow2 u (some row)) (upd pl2 row u) := by
  obtain ⟨e, hon, _⟩ := move_pre h hr ho hne
  have h2 := Wst.moved (E := fun s => s < n ∧ s ≠ row) (D := No) (i := row) hw.st ⟨hon, hne⟩ hr (fun x => x.2 rfl) hu id hb
  refine ⟨h2.ext fun r => ?_, upd_same .., fun v hv => ?_⟩
  · by_cases e : r = row
    · subst e; simp [hr]
    · simp [e]
  · have e1 : v ≠ u := fun e => by rw [e, hSu] at hv; cases hv
    have e2 : v ≠ pl row := fun e => by rw [e, hSr] at hv; cases hv
    rw [upd_ne _ _ e1, hw.keep v (by rw [upd_ne _ _ e1]; exact hv), upd_ne _ _ e2]
/-- There is no full matching in which the row has the place, and the marked places are whose they are. -/
def NoM (n : Nat) (R : Nat → Nat) (S : Nat → Bool) (pl : Nat → Nat) (row u : Nat) : Prop := ∀ g, FullM n R g → (∀ j, j < n → S (pl j) = true → g j = pl j) → g row ≠ u
theorem move_marked {S : Nat → Bool} (hr : row < n) (hS : ∀ v, S v = true → ∃ j, j < n ∧ pl j = v) (hSr : S (pl row) = false) (hSu : S u = true) : NoM n R S pl row u := fun g hg hk e => by
  obtain ⟨j, hj, hp⟩ := hS u hSu
  have h1 := hk j hj (by rw [hp]; exact hSu)
  have : j = row := hg.inj j row hj hr (by rw [h1, hp, e])
  subst this
  rw [hp, hSu] at hSr
  cases hSr
theorem move_stuck {o : Nat} {S : Nat → Bool} {K' : Nat → Bool} (h : Wst n R ow pl (fun r => r < n) No) (hR : ∀ r v, (R r).testBit v = true → v < 64) (hr : row < n) (ho : ow u = some o) (hne : o ≠ row) (hS : ∀ v, S v = true → ∃ j, j < n ∧ pl j = v) (hSu : S u = false)
    (hw : NoW R (Ow (upd ow (pl row) none) (fun v => No v ∨ v = u)) (upd S u true) K' o 64) : NoM n R S pl row u := fun g hg hk hgu => by
  obtain ⟨e, hon, hst⟩ := move_pre h hr ho hne
  have hpo : pl o = u := (h.own u o id ho).2.2.2.1
  have hin : ∀ r, (r = o ∨ ∃ v, upd S u true v = false ∧ Ow (upd ow (pl row) none) (fun v => No v ∨ v = u) v r) → r < n ∧ r ≠ row ∧ S (pl r) = false := fun r x => by
    rcases x with x | ⟨v, hv, hvo⟩
    · subst x
      exact ⟨hon, hne, by rw [hpo]; exact hSu⟩
    · obtain ⟨_, hrn, hE, hp, _⟩ := hst.own v r hvo.1 hvo.2
      refine ⟨hrn, hE.1.2, ?_⟩
      have e1 : v ≠ u := fun e => by rw [e, upd_same] at hv; cases hv
      rw [hp, ← upd_ne S true e1]; exact hv
  refine hw.no hR (fun _ _ _ => hst.one) (fun v hv => (hst.own v o hv.1 hv.2).2.2.1.2 rfl) g (fun r hx => ?_) (fun r s hr' hs' => hg.inj r s (hin r hr').1 (hin s hs').1)
  obtain ⟨hrn, hrr, hSp⟩ := hin r hx
  refine ⟨hg.bit r hrn, ?_⟩
  by_cases e1 : g r = u
  · exact absurd (hg.inj r row hrn hr (e1.trans hgu.symm)) hrr
  · rw [upd_ne _ _ e1]
    cases e2 : S (g r)
    · rfl
    · obtain ⟨j, hj, hpj⟩ := hS _ e2
      have h1 := hk j hj (by rw [hpj]; exact e2)
      have : j = r := hg.inj j r hj hrn (by rw [h1, hpj])
      subst this
      rw [hpj, e2] at hSp
      cases hSp
/-- A list of places that is the first one. -/
structure Lex (n : Nat) (R : Nat → Nat) (l : Nat → Nat) (k : Nat) : Prop where
  full : FullM n R l
  least : ∀ j, j < k → ∀ u, u < l j → ∀ g, FullM n R g → (∀ i, i < j → g i = l i) → g j ≠ u
theorem Lex.one {l m : Nat → Nat} (h1 : Lex n R l n) (h2 : Lex n R m n) : ∀ k, k < n → l k = m k := by
  intro k
  induction k using Nat.strongRecOn with
  | ind k ih =>
    intro hk
    rcases Nat.lt_trichotomy (l k) (m k) with h | h | h
    · exact absurd rfl (h2.least k hk _ h l h1.full (fun i hi => ih i hi (by omega)))
    · exact h
    · exact absurd rfl (h1.least k hk _ h m h2.full (fun i hi => (ih i hi (by omega)).symm))
/-- One row more is settled. -/
theorem settle_step {S : Nat → Bool} {ow' : Nat → Option Nat} {pl' : Nat → Nat} {k : Nat} (h : Wst n R ow pl (fun r => r < n) No) (h' : Wst n R ow' pl' (fun r => r < n) No) (hk : k < n) (hS : ∀ v, S v = true ↔ ∃ j, j < k ∧ pl j = v) (hL : Lex n R pl k)
    (hkeep : ∀ v, S v = true → ow' v = ow v) (hle : ∀ u, u < pl' k → (R k).testBit u = true → NoM n R S pl k u) : (∀ v, upd S (pl' k) true v = true ↔ ∃ j, j < k + 1 ∧ pl' j = v) ∧ Lex n R pl' (k + 1) := by
  have hsame : ∀ j, j < k → pl' j = pl j := fun j hj => by
    have h1 := (h.has j (by omega)).2
    have h2 := hkeep (pl j) ((hS _).2 ⟨j, hj, rfl⟩)
    rw [h1] at h2
    exact (h'.own _ j id h2).2.2.2.1
  refine ⟨fun v => ?_, h'.full, fun j hj u hu g hg hag => ?_⟩
  · by_cases e : v = pl' k
    · subst e
      rw [upd_same]
      exact ⟨fun _ => ⟨k, by omega, rfl⟩, fun _ => rfl⟩
    · rw [upd_ne _ _ e, hS]
      constructor
      · rintro ⟨j, hj, rfl⟩
        exact ⟨j, by omega, hsame j hj⟩
      · rintro ⟨j, hj, rfl⟩
        have : j ≠ k := fun e2 => e (by rw [e2])
        exact ⟨j, by omega, (hsame j (by omega)).symm⟩
  · by_cases e : j = k
    · subst e
      intro hgu
      have hb : (R j).testBit u = true := by rw [← hgu]; exact hg.bit j hk
      refine hle u hu hb g hg (fun i hi hSi => ?_) hgu
      obtain ⟨i', hi', hpi⟩ := (hS _).1 hSi
      have : i' = i := h.full.inj i' i (by omega) hi hpi
      subst this
      rw [hag i' hi', hsame i' hi']
    · have hjk : j < k := by omega
      rw [hsame j hjk] at hu
      exact hL.least j hjk u hu g hg (fun i hi => by rw [hag i hi, hsame i (by omega)])
end
end Go.Proofs.YtbbmjfjedonfaaaDoor.M
