/- Two sides in an array of the law's own. -/
import Derived.Test.YtegpgjiccpglbaaDoorYPlays
namespace Go.Proofs.YtegpgjiccpglbaaDoor
open Go.RowKit
/-- The first n sides, as they lie. -/
structure Two (w W : World) (la n : Nat) (bs rs : Nat → Nat) (vs : Nat → Value) (Js : Nat → Nat → Nat) (Ds : Nat → List (Int × Int)) : Prop where
  bel : Below la w W
  tab : Tab W
  gla : 1 ≤ la
  arr : ∃ f, W.rowIs la 27 4 f ∧ ∀ k, k < n → f (k * 2) = .pointer (some ⟨bs k, 0, none⟩) ∧ f (k * 2 + 1) = .pointer (some ⟨rs k, 0, none⟩)
  sd : ∀ k, k < n → SdAt W (bs k) (rs k) (vs k) (Js k) (Ds k)
  far : ∀ k, k < n → la < bs k ∧ la < rs k ∧ ∀ g, (vs k).ownBlock = some g → la < g
  sep : ∀ j k, j < n → k < n → j ≠ k → bs j ≠ bs k ∧ rs j ≠ rs k ∧ ∀ g, (vs j).ownBlock = some g → (vs k).ownBlock ≠ some g
def upV (vs : Nat → Value) (k : Nat) (v : Value) : Nat → Value := fun i => if i = k then v else vs i
def upJ (Js : Nat → Nat → Nat) (k : Nat) (J : Nat → Nat) : Nat → Nat → Nat := fun i => if i = k then J else Js i
def upD (Ds : Nat → List (Int × Int)) (k : Nat) (D : List (Int × Int)) : Nat → List (Int × Int) := fun i => if i = k then D else Ds i
def upN (bs : Nat → Nat) (k b : Nat) : Nat → Nat := fun i => if i = k then b else bs i
section
variable {w W W' : World} {la n : Nat} {bs rs : Nat → Nat} {vs : Nat → Value} {Js : Nat → Nat → Nat} {Ds : Nat → List (Int × Int)}
theorem SdAt.rne {W : World} {b r b' r' : Nat} {v v' : Value} {J J' : Nat → Nat} {D D' : List (Int × Int)} (h : SdAt W b r v J D) (h' : SdAt W b' r' v' J' D') : b ≠ r' ∧ v'.ownBlock ≠ some b ∧ v'.ownBlock ≠ some r := by
  obtain ⟨c, hc, _⟩ := h.rk.row
  refine ⟨fun e => ?_, owns_ne h'.rf.row hc (by decide), owns_ne h'.rf.row h.rf.bx (by decide)⟩
  subst e
  rw [h'.rf.bx] at hc
  cases hc
theorem Two.lt (h : Two w W la n bs rs vs Js Ds) : la < W.heap.size := by
  obtain ⟨f, hf, _⟩ := h.arr
  exact hf.lt
theorem Two.over (h : Two w W la n bs rs vs Js Ds) (hb : Below W.heap.size W W') : Two w W' la n bs rs vs Js Ds := by
  obtain ⟨f, hf, he⟩ := h.arr
  exact ⟨h.bel.trans (hb.mono (Nat.le_of_lt h.lt)), h.tab.over hb, h.gla, ⟨f, hf.of_block (hb.block la hf.lt), he⟩, fun k hk => (h.sd k hk).over hb, h.far, h.sep⟩
/-- One side has played. -/
theorem Two.step (h : Two w W la n bs rs vs Js Ds) {k : Nat} (hk : k < n) {v' : Value} {J' : Nat → Nat} {D' : List (Int × Int)} (hS : SdAt W' (bs k) (rs k) v' J' D') (hN : Ny (bs k) (rs k) (vs k) v' W W') : Two w W' la n bs rs (upV vs k v') (upJ Js k J') (upD Ds k D') := by
  obtain ⟨f, hf, he⟩ := h.arr
  obtain ⟨q1, q2, q3⟩ := h.far k hk
  have hge : ∀ g, (g = bs k ∨ g = rs k ∨ (vs k).ownBlock = some g) → la < g := by
    rintro g (rfl | rfl | e)
    · exact q1
    · exact q2
    · exact q3 g e
  have hn : ¬ (la = bs k ∨ la = rs k ∨ (vs k).ownBlock = some la) := fun e => Nat.lt_irrefl _ (hge la e)
  refine ⟨h.bel.trans (hN.1.below (Nat.le_of_lt h.lt) fun g e => Nat.le_of_lt (hge g e)), h.tab.below (Nat.le_refl _) (hN.1.below h.tab.2 fun g e => by have := hge g e; have := h.gla; omega), h.gla, ⟨f, hf.of_block (hN.1.block la hf.lt hn), he⟩, fun j hj => ?_, fun j hj => ?_, fun i j hi hj hij => ?_⟩
  · by_cases e : j = k
    · subst e
      simpa [upV, upJ, upD] using hS
    · obtain ⟨s1, s2, s3⟩ := h.sep j k hj hk e
      have hj' := h.sd j hj
      have hk' := h.sd k hk
      obtain ⟨a1, a2, a3⟩ := hj'.rne hk'
      obtain ⟨b1, b2, b3⟩ := hk'.rne hj'
      simp only [upV, upJ, upD, if_neg e]
      refine ⟨hj'.rk.keep hN.1 ?_ (fun g e => by have := hge g e; have := h.gla; omega), hj'.rf.keep hN.1 ?_ ?_, hj'.sm⟩
      · rintro (e | e | e)
        · exact s1 e
        · exact a1 e
        · exact a2 e
      · rintro (e | e | e)
        · exact b1 e.symm
        · exact s2 e
        · exact a3 e
      · rintro g eg (e | e | e)
        · exact b2 (by rw [eg, e])
        · exact b3 (by rw [eg, e])
        · exact s3 g eg e
  · by_cases e : j = k
    · subst e
      refine ⟨q1, q2, fun g eg => ?_⟩
      simp only [upV, if_pos] at eg
      rcases hN.2 g eg with h' | h'
      · exact q3 g h'
      · have := h.lt; omega
    · simp only [upV, if_neg e]
      exact h.far j hj
  · obtain ⟨s1, s2, s3⟩ := h.sep i j hi hj hij
    refine ⟨s1, s2, fun g eg ee => ?_⟩
    by_cases e1 : i = k
    · subst e1
      have e2 : j ≠ i := fun e => hij e.symm
      simp only [upV, if_pos, if_neg e2] at eg ee
      rcases hN.2 g eg with h' | h'
      · exact s3 g h' ee
      · have := owns_lt (h.sd j hj).rf.row g ee; omega
    · by_cases e2 : j = k
      · subst e2
        simp only [upV, if_pos, if_neg e1] at eg ee
        rcases hN.2 g ee with h' | h'
        · exact s3 g eg h'
        · have := owns_lt (h.sd i hi).rf.row g eg; omega
      · simp only [upV, if_neg e1, if_neg e2] at eg ee
        exact s3 g eg ee
theorem FarV.of {v : Value} (hG : 1 ≤ la) (h : ∀ g, v.ownBlock = some g → la < g) : FarV v := fun g e => by have := h g e; omega
/-- A side is laid into the array. -/
theorem Two.add (h : Two w W la n bs rs vs Js Ds) (hn : n < 2) {b r : Nat} {W2 : World} (hb2 : Below W.heap.size W W2) (hb : W.heap.size ≤ b) (hr : W.heap.size ≤ r) (hS : SdAt W2 b r (.slice none 0 0) noJ []) :
    Two w ((W2.setCell ⟨la, n * 2, none⟩ (.pointer (some ⟨b, 0, none⟩))).setCell ⟨la, n * 2 + 1, none⟩ (.pointer (some ⟨r, 0, none⟩))) la (n + 1) (upN bs n b) (upN rs n r) (upV vs n (.slice none 0 0)) (upJ Js n noJ) (upD Ds n []) := by
  have h2 := h.over hb2
  obtain ⟨f, hf, he⟩ := h2.arr
  have hl := h.lt
  have hgr : W2.grownBy ((W2.setCell ⟨la, n * 2, none⟩ (.pointer (some ⟨b, 0, none⟩))).setCell ⟨la, n * 2 + 1, none⟩ (.pointer (some ⟨r, 0, none⟩))) (some la) := grown_trans (grown_set _ _ _ _) (grown_set _ _ _ _)
  have hFr : Fr (fun k => k = la) W2 ((W2.setCell ⟨la, n * 2, none⟩ (.pointer (some ⟨b, 0, none⟩))).setCell ⟨la, n * 2 + 1, none⟩ (.pointer (some ⟨r, 0, none⟩))) := Fr.of_grown hgr fun g e => by cases e; rfl
  have hkeep : ∀ {b' r' : Nat} {v' : Value} {J' : Nat → Nat} {D' : List (Int × Int)}, SdAt W2 b' r' v' J' D' → la ≠ b' → la ≠ r' → (∀ g, v'.ownBlock = some g → la ≠ g) → SdAt ((W2.setCell ⟨la, n * 2, none⟩ (.pointer (some ⟨b, 0, none⟩))).setCell ⟨la, n * 2 + 1, none⟩ (.pointer (some ⟨r, 0, none⟩))) b' r' v' J' D' := fun hs h1 h3 h4 =>
    ⟨hs.rk.keep hFr (fun e => h1 e.symm) (fun k e => by have := h.gla; omega), hs.rf.keep hFr (fun e => h3 e.symm) (fun g eg e => h4 g eg e.symm), hs.sm⟩
  have hin : ∀ j, j < n + 1 → j ≠ n → j < n := fun j h1 h3 => by omega
  refine ⟨(h2.bel.setCell (Nat.le_refl _) _).setCell (Nat.le_refl _) _, h2.tab.grown h.gla hgr, h.gla, ⟨_, (hf.set (n * 2) _).set (n * 2 + 1) _, fun k hk => ?_⟩, fun j hj => ?_, fun j hj => ?_, fun i j hi hj hij => ?_⟩
  · by_cases e : k = n
    · subst e
      have : ¬ (k * 2 = k * 2 + 1) := by omega
      simp [upN]
    · have hk' := hin k hk e
      have e1 : ¬ (k * 2 = n * 2 + 1) := by omega
      have e2 : ¬ (k * 2 = n * 2) := by omega
      have e3 : ¬ (k * 2 + 1 = n * 2 + 1) := by omega
      have e4 : ¬ (k * 2 + 1 = n * 2) := by omega
      simp only [upN, if_neg e, if_neg e1, if_neg e2, if_neg e3, if_neg e4]
      exact he k hk'
  · by_cases e : j = n
    · subst e
      simp only [upN, upV, upJ, upD, if_pos]
      exact hkeep hS (by omega) (by omega) (fun g eg => by cases eg)
    · have hj' := hin j hj e
      obtain ⟨q1, q2, q3⟩ := h.far j hj'
      simp only [upN, upV, upJ, upD, if_neg e]
      exact hkeep (h2.sd j hj') (by omega) (by omega) (fun g eg => by have := q3 g eg; omega)
  · by_cases e : j = n
    · subst e
      simp only [upN, upV, if_pos]
      exact ⟨by omega, by omega, fun g eg => by cases eg⟩
    · simp only [upN, upV, if_neg e]
      exact h.far j (hin j hj e)
  · by_cases e1 : i = n
    · subst e1
      have e2 : j ≠ i := fun e => hij e.symm
      have hj' := hin j hj e2
      have l1 := (h.sd j hj').rk.lt
      have l2 := (h.sd j hj').rf.lt
      simp only [upN, upV, if_pos, if_neg e2]
      exact ⟨by omega, by omega, fun g eg => by cases eg⟩
    · have hi' := hin i hi e1
      by_cases e2 : j = n
      · subst e2
        have l1 := (h.sd i hi').rk.lt
        have l2 := (h.sd i hi').rf.lt
        simp only [upN, upV, if_pos, if_neg e1]
        exact ⟨by omega, by omega, fun g _ ee => by cases ee⟩
      · simp only [upN, upV, if_neg e1, if_neg e2]
        exact h.sep i j hi' (hin j hj e2) hij
end
theorem and_one (z : Int) : ∃ k : Nat, k < 2 ∧ bits .and .i64 z 1 = (k : Int) := by
  have h1 : (BitVec.ofInt 64 z &&& BitVec.ofInt 64 1).toNat < 2 := by
    rw [BitVec.toNat_and]
    have : (BitVec.ofInt 64 1).toNat = 2 ^ 1 - 1 := rfl
    rw [this, Nat.and_two_pow_sub_one_eq_mod]
    omega
  refine ⟨(BitVec.ofInt 64 z &&& BitVec.ofInt 64 1).toNat, h1, ?_⟩
  show IntKind.i64.wrap ((BitVec.ofInt 64 z &&& BitVec.ofInt 64 1).toNat : Int) = _
  generalize (BitVec.ofInt 64 z &&& BitVec.ofInt 64 1).toNat = q at *
  simp only [IntKind.wrap, IntKind.bits, IntKind.signed]
  simp
  omega
end Go.Proofs.YtegpgjiccpglbaaDoor
