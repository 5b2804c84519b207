/- image.Read. -/
import Derived.Test.YtgfnfbbiojnhaaaDoorImE
namespace Go.Proofs.YtgfnfbbiojnhaaaDoor
open Go.RowKit
/-- The call that bytes are. -/
def rdK (R : List Nat) : Cl := { op := ((R.getD 0 0 : Nat) : Int), a := strB (ptT 1 (rem (R.drop 9) 0)), b := strB (ptT 1 (rem (R.drop 9) 1)), c := strB (ptT 1 (rem (R.drop 9) 2)), n := IntKind.i64.wrap (numB ((R.drop 1).take 8) : Int), t := strB (ptT 4 (rem (R.drop 9) 3)) }
def rdOk (R : List Nat) : Bool := decide (9 ≤ R.length) && decide (R.getD 0 0 ≠ 0) && msr (R.drop 9)
def noK : Cl := { op := 0, a := ⟨#[]⟩, b := ⟨#[]⟩, c := ⟨#[]⟩, n := 0, t := ⟨#[]⟩ }
def rdE (R : List Nat) : Int := if rdOk R then 0 else 3
def rdC (R : List Nat) : Cl := if rdOk R then rdK R else noK
/-- What Read answers. -/
def RdP (W : World) (R : List Nat) (e : Ending) (w' : World) : Prop := e = .returned (.tuple #[.agg (clC (rdC R)), .int .i64 (rdE R)]) ∧ Hid (Below W.heap.size W w')
/-- Where the parts begin. -/
def plc (M : List Nat) : Nat → Nat
  | 0 => 9
  | j + 1 => plc M j + (ptW j + lenJ M j)
theorem rem_plc (R : List Nat) : ∀ j, rem (R.drop 9) j = R.drop (plc (R.drop 9) j)
  | 0 => rfl
  | j + 1 => by
    show ptR (ptW j) (rem (R.drop 9) j) = R.drop (plc (R.drop 9) j + (ptW j + lenJ (R.drop 9) j))
    unfold ptR
    rw [show ptL (ptW j) (rem (R.drop 9) j) = lenJ (R.drop 9) j from rfl, rem_plc R j, List.drop_drop]
theorem msr_ok {R : List Nat} (h : msr R = true) (j : Nat) (hj : j < 4) : okJ R j = true := by
  unfold msr at h
  simp at h
  obtain rfl | rfl | rfl | rfl : j = 0 ∨ j = 1 ∨ j = 2 ∨ j = 3 := by omega
  · exact h.1.1.1.1.1
  · exact h.1.1.1.1.2
  · exact h.1.1.1.2
  · exact h.1.1.2
theorem plc_le {R : List Nat} (h9 : 9 ≤ R.length) (h : msr (R.drop 9) = true) : ∀ j, j ≤ 4 → plc (R.drop 9) j ≤ R.length
  | 0, _ => h9
  | j + 1, hj => by
    have h1 := plc_le h9 h j (by omega)
    have h2 := msr_ok h j (by omega)
    unfold okJ ptB at h2
    rw [rem_plc R j, List.length_drop] at h2
    rw [show ptL (ptW j) (R.drop (plc (R.drop 9) j)) = lenJ (R.drop 9) j by rw [← rem_plc]; rfl] at h2
    have h3 := of_decide_eq_true h2
    show plc (R.drop 9) j + (ptW j + lenJ (R.drop 9) j) ≤ R.length
    omega
/-- Where a part is put. -/
def fld (j : Nat) : Nat := if j < 3 then j + 1 else 5
def ptX (R : List Nat) (j : Nat) : ByteArray := strB (ptT (ptW j) (rem (R.drop 9) j))
def px (R : List Nat) (j i : Nat) : Value := .string (if i < j then ptX R i else ⟨#[]⟩)
/-- The call so far. -/
def clJ (R : List Nat) (j : Nat) : Array Value := #[.int .i64 ((R.getD 0 0 : Nat) : Int), px R j 0, px R j 1, px R j 2, .int .i64 (IntKind.i64.wrap (numB ((R.drop 1).take 8) : Int)), px R j 3]
theorem clJ_set (R : List Nat) (j : Nat) (hj : j < 4) : (clJ R j).setIfInBounds (fld j) (.string (ptX R j)) = clJ R (j + 1) := by
  obtain rfl | rfl | rfl | rfl : j = 0 ∨ j = 1 ∨ j = 2 ∨ j = 3 := by omega
  all_goals simp [clJ, px, fld]
theorem clJ_at (R : List Nat) (j : Nat) (hj : j < 4) : (clJ R j)[fld j]? = some (px R j j) := by
  obtain rfl | rfl | rfl | rfl : j = 0 ∨ j = 1 ∨ j = 2 ∨ j = 3 := by omega
  all_goals rfl
theorem clJ_end (R : List Nat) : clJ R 4 = clC (rdK R) := by
  simp [clJ, clC, rdK, px, ptX, ptW]
theorem results_cl {fn : Func} {p q : Tmp} (h : fn.results = #[.cell p 23, .tmp q]) {tmps : Array Value} {w : World} {g : Nat} {u v x y z t r : Value} (hp : tmps.getD p undef = .pointer (some ⟨g, 0, none⟩)) (hg : w.heap[g]? = some (.cells #[u, v, x, y, z, t] 23 (0, 0))) (hq : tmps.getD q undef = r) :
    (results fn tmps).run Tryd.prog w = .ok (.tuple #[.agg #[u, v, x, y, z, t], r]) w := by
  obtain ⟨h0, h1, h2, h3, h4, h5⟩ := cells6 hg
  have hp' : tmps[p]?.getD undef = .pointer (some ⟨g, 0, none⟩) := by rw [← hp]; simp
  have hq' : tmps[q]?.getD undef = r := by rw [← hq]; simp
  simp only [results, h]
  simp [hp', hq', asAddr, h0, h1, h2, h3, h4, h5, go_sem]
end Go.Proofs.YtgfnfbbiojnhaaaDoor
