/- A way told by the places that rows have (plain). -/
import Derived.Test.YtbbmjfjedonfaaaDoorMGreed
namespace Go.Proofs.YtbbmjfjedonfaaaDoor.M
/-- The rows of E have the places that the row says, but for places that are given up. -/
structure Hst (n : Nat) (R : Nat → Nat) (hs : Nat → Int) (E D : Nat → Prop) : Prop where
  own : ∀ r u, r < n → hs r = ((u : Nat) : Int) → ¬ D u → E r ∧ u < 64 ∧ (R r).testBit u = true
  has : ∀ r, E r → r < n ∧ ∃ u : Nat, hs r = (u : Int) ∧ ¬ D u
  inj : ∀ r s, E r → E s → hs r = hs s → r = s
def Oh (hs : Nat → Int) (E : Nat → Prop) (u r : Nat) : Prop := E r ∧ hs r = (u : Int)
theorem Oh.one {hs : Nat → Int} {E : Nat → Prop} {u v r : Nat} (h : Oh hs E u r) (k : Oh hs E v r) : u = v := by
  have := h.2.symm.trans k.2
  omega
theorem or_upd (mt u : Nat) : (mt ||| 2 ^ u).testBit = upd mt.testBit u true := by
  funext v
  by_cases e : v = u
  · subst e
    rw [upd_same, Nat.testBit_or, Nat.testBit_two_pow_self, Bool.or_true]
  · rw [upd_ne _ _ e, Nat.testBit_or, Nat.testBit_two_pow_of_ne (fun h => e h.symm), Bool.or_false]
section
variable {n : Nat} {R : Nat → Nat} {hs hs1 : Nat → Int} {E D : Nat → Prop} {i u k : Nat}
theorem Hst.ext {E' : Nat → Prop} (h : Hst n R hs E D) (he : ∀ r, E r ↔ E' r) : Hst n R hs E' D :=
  ⟨fun r u hr h1 h2 => by obtain ⟨a, b⟩ := h.own r u hr h1 h2; exact ⟨(he r).1 a, b⟩, fun r hr => h.has r ((he r).2 hr), fun r s hr hs => h.inj r s ((he r).2 hr) ((he s).2 hs)⟩
theorem Hst.take (h : Hst n R hs E D) (hi : i < n) (hu : u < 64) (hD : ¬ D u) (hb : (R i).testBit u = true) (hno : ∀ r, r < n → hs r ≠ (u : Int)) : Hst n R (upd hs i (u : Int)) (fun r => E r ∨ r = i) D := by
  refine ⟨fun r v hr h1 h2 => ?_, fun r hr => ?_, fun r s hr hs e => ?_⟩
  · by_cases e : r = i
    · subst e
      rw [upd_same] at h1
      have : v = u := by omega
      subst this
      exact ⟨.inr rfl, hu, hb⟩
    · rw [upd_ne _ _ e] at h1
      obtain ⟨a, b⟩ := h.own r v hr h1 h2
      exact ⟨.inl a, b⟩
  · by_cases e : r = i
    · subst e
      exact ⟨hi, u, upd_same .., hD⟩
    · rw [upd_ne _ _ e]
      exact h.has r (hr.resolve_right e)
  · by_cases e1 : r = i
    · by_cases e2 : s = i
      · rw [e1, e2]
      · rw [e1, upd_same, upd_ne _ _ e2] at e
        exact absurd e.symm (hno s (h.has s (hs.resolve_right e2)).1)
    · by_cases e2 : s = i
      · rw [e2, upd_same, upd_ne _ _ e1] at e
        exact absurd e (hno r (h.has r (hr.resolve_right e1)).1)
      · rw [upd_ne _ _ e1, upd_ne _ _ e2] at e
        exact h.inj r s (hr.resolve_right e1) (hs.resolve_right e2) e
theorem Hst.leave (h : Hst n R hs E D) (hD : ¬ D u) (hk : k < n) (hu : hs k = (u : Int)) : Hst n R hs (fun s => E s ∧ s ≠ k) (fun v => D v ∨ v = u) := by
  have hEk := (h.own k u hk hu hD).1
  refine ⟨fun r v hr h1 h2 => ?_, fun r hr => ?_, fun r s hr hs => h.inj r s hr.1 hs.1⟩
  · obtain ⟨a, b⟩ := h.own r v hr h1 (fun x => h2 (.inl x))
    refine ⟨⟨a, fun e => ?_⟩, b⟩
    subst e
    rw [hu] at h1
    exact h2 (.inr (by omega))
  · obtain ⟨a, v, hv, hdv⟩ := h.has r hr.1
    refine ⟨a, v, hv, fun x => ?_⟩
    rcases x with x | x
    · exact hdv x
    · subst x
      exact hr.2 (h.inj r k hr.1 hEk (hv.trans hu.symm))
/-- What a turn has found. -/
structure Trn (n : Nat) (R : Nat → Nat) (hs : Nat → Int) (K : Nat → Bool) (E D : Nat → Prop) (i : Nat) (hs' : Nat → Int) (K' : Nat → Bool) : Prop where
  st : Hst n R hs' (fun r => E r ∨ r = i) D
  keep : ∀ r v, hs' r = ((v : Nat) : Int) → K v = true → hs r = (v : Int)
  grow : ∀ u, K u = true → K' u = true
theorem Trn.take {K : Nat → Bool} {K1 : Nat → Bool} (h : Hst n R hs E D) (hi : i < n) (hu : u < 64) (hD : ¬ D u) (hb : (R i).testBit u = true) (hno : ∀ r, r < n → hs r ≠ (u : Int)) (hg : ∀ v, K v = true → K1 v = true) (hk : K1 u = false) : Trn n R hs K E D i (upd hs i (u : Int)) (upd K1 u true) := by
  refine ⟨h.take hi hu hD hb hno, fun r v h1 h2 => ?_, fun v hv => ?_⟩
  · by_cases e : r = i
    · subst e
      rw [upd_same] at h1
      have : v = u := by omega
      subst this
      rw [hg _ h2] at hk; cases hk
    · rw [upd_ne _ _ e] at h1; exact h1
  · by_cases e : v = u
    · subst e; exact upd_same ..
    · rw [upd_ne _ _ e]; exact hg v hv
theorem Trn.moved {K K1 K' : Nat → Bool} (h : Hst n R hs E D) (hi : i < n) (hu : u < 64) (hD : ¬ D u) (hb : (R i).testBit u = true) (hg : ∀ v, K v = true → K1 v = true) (hk : K1 u = false) (hkn : k < n) (hku : hs k = (u : Int))
    (ht : Trn n R hs (upd K1 u true) (fun s => E s ∧ s ≠ k) (fun v => D v ∨ v = u) k hs1 K') : Trn n R hs K E D i (upd hs1 i (u : Int)) K' := by
  have hEk := (h.own k u hkn hku hD).1
  have hE : ∀ s, ((E s ∧ s ≠ k) ∨ s = k) ↔ E s := fun s => ⟨fun x => by
    rcases x with x | x
    · exact x.1
    · exact x ▸ hEk, fun x => by
    by_cases e : s = k
    · exact .inr e
    · exact .inl ⟨x, e⟩⟩
  have h1 := ht.st.ext hE
  have hno : ∀ r, r < n → hs1 r ≠ (u : Int) := fun r hr e => by
    have h2 := ht.keep r u e (upd_same ..)
    have h3 := (h.own r u hr h2 hD).1
    have h4 : r = k := h.inj r k h3 hEk (h2.trans hku.symm)
    subst h4
    obtain ⟨_, v, hv, hdv⟩ := h1.has r h3
    exact hdv (.inr (by rw [hv] at e; omega))
  refine ⟨⟨fun r v hr q1 q2 => ?_, fun r hr => ?_, fun r s hr hs e => ?_⟩, fun r v q1 q2 => ?_, fun v hv => ht.grow v ?_⟩
  · by_cases e : r = i
    · subst e
      rw [upd_same] at q1
      have : v = u := by omega
      subst this
      exact ⟨.inr rfl, hu, hb⟩
    · rw [upd_ne _ _ e] at q1
      have hvu : v ≠ u := fun e2 => hno r hr (by rw [q1, e2])
      obtain ⟨a, b⟩ := h1.own r v hr q1 (fun x => x.elim q2 hvu)
      exact ⟨.inl a, b⟩
  · by_cases e : r = i
    · subst e
      exact ⟨hi, u, upd_same .., hD⟩
    · rw [upd_ne _ _ e]
      obtain ⟨a, v, b, c⟩ := h1.has r (hr.resolve_right e)
      exact ⟨a, v, b, fun x => c (.inl x)⟩
  · by_cases e1 : r = i
    · by_cases e2 : s = i
      · rw [e1, e2]
      · rw [e1, upd_same, upd_ne _ _ e2] at e
        exact absurd e.symm (hno s (h1.has s (hs.resolve_right e2)).1)
    · by_cases e2 : s = i
      · rw [e2, upd_same, upd_ne _ _ e1] at e
        exact absurd e (hno r (h1.has r (hr.resolve_right e1)).1)
      · rw [upd_ne _ _ e1, upd_ne _ _ e2] at e
        exact h1.inj r s (hr.resolve_right e1) (hs.resolve_right e2) e
  · by_cases e : r = i
    · subst e
      rw [upd_same] at q1
      have : v = u := by omega
      subst this
      rw [hg _ q2] at hk; cases hk
    · rw [upd_ne _ _ e] at q1
      refine ht.keep r v q1 ?_
      by_cases e2 : v = u
      · subst e2; exact upd_same ..
      · rw [upd_ne _ _ e2]; exact hg v q2
  · by_cases e2 : v = u
    · subst e2; exact upd_same ..
    · rw [upd_ne _ _ e2]; exact hg v hv
theorem Hst.ind (h : Hst n R hs E No) : Ind R E := by
  refine ⟨fun r => (hs r).toNat, fun r hr => ?_, fun r s hr hs' e => ?_⟩
  · obtain ⟨hn, u, hu, hd⟩ := h.has r hr
    show (R r).testBit (hs r).toNat = true
    rw [hu]
    exact (h.own r u hn hu hd).2.2
  · obtain ⟨_, u, hu, _⟩ := h.has r hr
    obtain ⟨_, v, hv, _⟩ := h.has s hs'
    have e : (hs r).toNat = (hs s).toNat := e
    rw [hu, hv] at e
    exact h.inj r s hr hs' (by rw [hu, hv]; omega)
theorem turn_no {K' : Nat → Bool} (hR : ∀ r v, (R r).testBit v = true → v < 64) (hiE : ¬ E i) (hw : NoW R (Oh hs E) (fun _ => false) K' i 64) : ¬ Ind R (fun r => E r ∨ r = i) := by
  rintro ⟨f, h1, h2⟩
  have hE : ∀ r, (r = i ∨ ∃ u, false = false ∧ Oh hs E u r) → E r ∨ r = i := fun r hr => by
    rcases hr with e | ⟨u, _, hu⟩
    · exact .inr e
    · exact .inl hu.1
  exact hw.no hR (fun u v r => Oh.one) (fun u hu => hiE hu.1) f (fun r hr => ⟨h1 r (hE r hr), rfl⟩) (fun r s hr hs => h2 r s (hE r hr) (hE s hs))
end
end Go.Proofs.YtbbmjfjedonfaaaDoor.M
