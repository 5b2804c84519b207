/- Read: a certificate's problem and plan. -/
import Derived.Test.YtfajgbdnfphajaaZdD
import Derived.Test.YtfajgbdnfphajaaZpG
namespace Go.Proofs.Ytfajgbdnfphajaa.S
open Go.RowKit Go.Shelf
theorem csW_mem {n : Nat} {t : RdS} (h : ∀ b ∈ t.1, b < 256) : ∀ z ∈ csW n t, z < 18446744073709551616 := by
  have hb : ∀ j, ∀ b ∈ (csS j t).1, b < 256 := fun j => by
    induction j with
    | zero => exact h
    | succ j ih => exact tkS_mem (tkS_mem (tkS_mem ih))
  induction n with
  | zero => intro z hz; cases hz
  | succ n ih =>
    intro z hz
    rcases List.mem_append.1 (show z ∈ csW n t ++ [tkN 8 (csS n t)] from hz) with q | q
    · exact ih z q
    · rw [List.mem_singleton] at q
      subst q
      exact tkN_lt (wd := 8) (hb n)
theorem rsS_mem {n : Nat} {t : RdS} (h : ∀ b ∈ t.1, b < 256) : ∀ b ∈ (rsS n t).1, b < 256 := by
  induction n with
  | zero => exact h
  | succ n ih => exact tkS_mem ih
theorem rdRS_mem {s : RdS} (h : ∀ b ∈ s.1, b < 256) : ∀ b ∈ (rdRS s).1, b < 256 := rsS_mem (tkS_mem (tkS_mem (tkS_mem h)))
theorem crS_mem {n : Nat} {t : RdS} (h : ∀ b ∈ t.1, b < 256) : ∀ b ∈ (crS n t).1, b < 256 := by
  induction n with
  | zero => exact h
  | succ n ih => exact rdRS_mem ih
theorem csS_mem {n : Nat} {t : RdS} (h : ∀ b ∈ t.1, b < 256) : ∀ b ∈ (csS n t).1, b < 256 := by
  induction n with
  | zero => exact h
  | succ n ih => exact tkS_mem (tkS_mem (tkS_mem ih))
theorem mkS_mem {s : RdS} (h : ∀ b ∈ s.1, b < 256) : ∀ b ∈ (mkS s).1, b < 256 := fun b hb => by
  unfold mkS at hb
  split at hb
  · exact tkS_mem h b hb
  · exact tkS_mem (wd := 2) h b hb
theorem crL_steps {n : Nat} {t : RdS} (h : ∀ b ∈ t.1, b < 256) : ∀ r ∈ crL n t, r.steps.length ≤ 1000 := by
  induction n with
  | zero => intro r hr; cases hr
  | succ n ih =>
    intro r hr
    rcases List.mem_append.1 (show r ∈ crL n t ++ [rdR (crS n t)] from hr) with q | q
    · exact ih r q
    · rw [List.mem_singleton] at q
      subst q
      show (rsL _ _).length ≤ 1000
      rw [rsL_len]
      have := tkN_lt (wd := 1) (tkS_mem (wd := 4) (tkS_mem (wd := 1) (crS_mem (n := n) h)))
      omega
theorem rcP_ok {s : RdS} (h : ∀ b ∈ s.1, b < 256) : Pok (rcP s) := by
  have hA : ∀ b ∈ (rcA s).1, b < 256 := tkS_mem (tkS_mem (mkS_mem h))
  have hN : rcN s < 256 ^ 1 := tkN_lt (wd := 1) (tkS_mem (mkS_mem h))
  have hK : rcK s < 256 ^ 1 := tkN_lt (wd := 1) (csS_mem hA)
  have hB : ∀ b ∈ (rcB s).1, b < 256 := tkS_mem (csS_mem hA)
  refine ⟨?_, ?_, ?_, crL_steps hB, csW_mem hA⟩
  · show (csW _ _).length ≤ 1000; rw [csW_len]; omega
  · show (csF _ _).length ≤ 1000; rw [csF_len]; omega
  · show (crL _ _).length ≤ 1000; rw [crL_len]; omega
theorem rcL_len {s : RdS} (h : ∀ b ∈ s.1, b < 256) : (rcL s).length ≤ 1000 := by
  have hN : rcN s < 256 ^ 1 := tkN_lt (wd := 1) (tkS_mem (mkS_mem h))
  show (csP _ _).length ≤ 1000
  rw [csP_len]; omega
/-- Were these bytes of that form, and no others? -/
def rdF_ (L : List Nat) : Bool := !(rcS (L, false)).2 && decide ((rcS (L, false)).1.length = 0)
/-- The error's number, the problem, the plan. -/
def rdN (L : List Nat) : Nat := if rdF_ L = true ∧ chkN (rcP (L, false)) = 0 then (if holP (rcP (L, false)) (rcL (L, false)) = true then 0 else 52) else 3
def rdP (L : List Nat) : Pb := if rdN L = 0 then rcP (L, false) else ⟨0, [], [], []⟩
def rdL (L : List Nat) : List Int := if rdN L = 0 then rcL (L, false) else []
/-- What stands while bytes are read. -/
structure Re (w : World) (Q : Pb) (gp : Nat) (va vb vc vp : Value) (M : List Int) (E : List (Rl × Value)) (W : World) : Prop where
  z : QAt W w.heap.size 0 (.slice none 0 0) (.slice none 0 0) (.slice none 0 0)
  pb : PbB W gp Q va vb vc
  r1 : W.ownsRow (w.heap.size + 2) 51 1 va Q.who.length (cellsW Q.who)
  r2 : W.ownsRow (w.heap.size + 2) 3 1 vb Q.fixed.length (cellsI Q.fixed)
  r3 : TwS (w.heap.size + 2) W vc E
  rp : W.ownsRow (w.heap.size + 2) 3 1 vp M.length (cellsI M)
  ee : E.map Prod.fst = Q.rules
  be : Below w.heap.size w W
section
variable {w W W' : World} {Q : Pb} {gp : Nat} {va vb vc vp : Value} {M : List Int} {E : List (Rl × Value)}
theorem Re.over (h : Re w Q gp va vb vc vp M E W) (hb : Below W.heap.size W W') : Re w Q gp va vb vc vp M E W' :=
  ⟨h.z.of (hb.block _ h.z.lt), h.pb.below hb, own_lowB h.r1 hb, own_lowB h.r2 hb, h.r3.below hb (Nat.le_refl _), own_lowB h.rp hb, h.ee, h.be.trans (hb.mono h.be.size)⟩
theorem Re.pv (h : Re w Q gp va vb vc vp M E W) : PbV W Q va vb vc := by
  refine ⟨RowW.of_owns h.r1, RowI.of_owns h.r2, ?_⟩
  have := h.r3.rowR
  rw [h.ee] at this
  exact this
/-- The problem and the plan behind the result's cells, whatever is written there. -/
theorem Re.fin (h : Re w Q gp va vb vc vp M E W) (x0 x1 x2 x3 : Value) :
    let W' := (((W.setCell ⟨w.heap.size, 0, none⟩ x0).setCell ⟨w.heap.size, 1, none⟩ x1).setCell ⟨w.heap.size, 2, none⟩ x2).setCell ⟨w.heap.size, 3, none⟩ x3
    PbV W' Q va vb vc ∧ RowI W' vp M ∧ Below w.heap.size w W' := by
  intro W'
  have hb : Below w.heap.size W W' := ((((Below.refl _ W).setCell (p := ⟨w.heap.size, 0, none⟩) (Nat.le_refl _) x0).setCell (p := ⟨w.heap.size, 1, none⟩) (Nat.le_refl _) x1).setCell (p := ⟨w.heap.size, 2, none⟩) (Nat.le_refl _) x2).setCell (p := ⟨w.heap.size, 3, none⟩) (Nat.le_refl _) x3
  have s4 : ∀ {B e sz : Nat} {v : Value} {n : Nat} {xs : List Value}, W.ownsRow B e sz v n xs → w.heap.size < B → W'.ownsRow B e sz v n xs := fun h hB => own_set (own_set (own_set (own_set h hB x0) hB x1) hB x2) hB x3
  refine ⟨⟨RowW.of_owns (s4 h.r1 (by omega)), RowI.of_owns (s4 h.r2 (by omega)), ?_⟩, RowI.of_owns (s4 h.rp (by omega)), h.be.trans hb⟩
  have hT : TwS (w.heap.size + 2) W' vc E := ⟨s4 h.r3.row (by omega), fun p hp => s4 (h.r3.inner p hp) (by omega)⟩
  have := hT.rowR
  rw [h.ee] at this
  exact this
end
/-- Read's answer. -/
def ReP (w : World) (L : List Nat) (e : Ending) (w' : World) : Prop :=
  ∃ va vb vc vp, e = .returned (.tuple #[.agg #[.int .i64 (rdP L).users, va, vb, vc], vp, .int .i64 (rdN L : Int)]) ∧ Hid (PbV w' (rdP L) va vb vc ∧ RowI w' vp (rdL L)) ∧ Hid (Below w.heap.size w w')
theorem nil_pv (W : World) : PbV W ⟨0, [], [], []⟩ (.slice none 0 0) (.slice none 0 0) (.slice none 0 0) ∧ RowI W (.slice none 0 0) [] :=
  ⟨⟨⟨none, 0, rfl, ⟨Nat.le_refl _, fun _ => rfl⟩, fun i z hz => by cases hz⟩, ⟨none, 0, rfl, ⟨Nat.le_refl _, fun _ => rfl⟩, fun i z hz => by cases hz⟩, ⟨none, 0, rfl, ⟨Nat.le_refl _, fun _ => rfl⟩, fun i z hz => by cases hz⟩⟩, ⟨none, 0, rfl, ⟨Nat.le_refl _, fun _ => rfl⟩, fun i z hz => by cases hz⟩⟩
end Go.Proofs.Ytfajgbdnfphajaa.S
