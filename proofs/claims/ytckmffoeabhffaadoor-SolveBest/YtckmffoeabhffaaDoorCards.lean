/-
  DERIVED. GIVEN WITH THE SEED: THE CARDS: each row of YtckmffoeabhffaaDoorRows.lean that lists a variable, with what it lists TIED to the program's text (the seventh form; the later family's looks); each row that meets fmt, with fmt's text TOLD by the authors' own Lean function (tested against real Go, not proved from fmt's source: count such statements apart). THE CARD IS WHAT COUNTS. Prove the row's statement (the work); the ties are given (YtckmffoeabhffaaDoorTie.lean); close each card by the builder's one call (the guide's Derived/Test/ToyasCard.lean, 'card_holds'). Laid BY PROGRAM, IN A SANDBOX (cutbox-door.mjs). By AI agents, Wed Nov 11 2026. No macro, syntax, notation, axiom, sorry.
-/
import Derived.Test.YtckmffoeabhffaaDoorRows
import GoSem.ClaimSeven
namespace Go.Proofs.YtckmffoeabhffaaDoor
namespace Rows

/-- THE TIED CARD OF 'provostlaw12.SolveCheck'. -/
def solveCheckCard : Claim7 := { stood := { row := solveCheckRow, standIns := [], harness := (true, "4c140240ec83e0e631b25a5409c4ff9baef1a5d3fb2a176c17a28d337875faf2"), looks := false }, kinds := [], alts := [], laidByText := true, laidKinds := [.data], laidTests := true, laidLooks := .later }
def SolveCheckCardSaid : Prop := Claim7.holds Tryd.pinned (.plain (OpenSpec.ofChange solveCheckSpec)) solveCheckCard

/-- THE TIED CARD OF 'provostlaw12.SolveBefore'. -/
def solveBeforeCard : Claim7 := { stood := { row := solveBeforeRow, standIns := [], harness := (true, "4c140240ec83e0e631b25a5409c4ff9baef1a5d3fb2a176c17a28d337875faf2"), looks := false }, kinds := [], alts := [], laidByText := true, laidKinds := [.data], laidTests := true, laidLooks := .later }
def SolveBeforeCardSaid : Prop := Claim7.holds Tryd.pinned (.plain (OpenSpec.ofChange solveBeforeSpec)) solveBeforeCard

/-- THE TIED CARD OF 'provostlaw12.SolveBest'. -/
def solveBestCard : Claim7 := { stood := { row := solveBestRow, standIns := [], harness := (true, "4c140240ec83e0e631b25a5409c4ff9baef1a5d3fb2a176c17a28d337875faf2"), looks := false }, kinds := [], alts := [], laidByText := true, laidKinds := [.data], laidTests := true, laidLooks := .later }
def SolveBestCardSaid : Prop := Claim7.holds Tryd.pinned (.plain (OpenSpec.ofChange solveBestSpec)) solveBestCard

/-- THE TIED CARD OF 'provostlaw12.SolveFix'. -/
def solveFixCard : Claim7 := { stood := { row := solveFixRow, standIns := [], harness := (true, "4c140240ec83e0e631b25a5409c4ff9baef1a5d3fb2a176c17a28d337875faf2"), looks := false }, kinds := [], alts := [], laidByText := true, laidKinds := [.data], laidTests := true, laidLooks := .later }
def SolveFixCardSaid : Prop := Claim7.holds Tryd.pinned (.plain (OpenSpec.ofChange solveFixSpec)) solveFixCard

/-- THE TIED CARD OF 'provostlaw12.SolveMore'. -/
def solveMoreCard : Claim7 := { stood := { row := solveMoreRow, standIns := [], harness := (true, "4c140240ec83e0e631b25a5409c4ff9baef1a5d3fb2a176c17a28d337875faf2"), looks := false }, kinds := [], alts := [], laidByText := true, laidKinds := [.data], laidTests := true, laidLooks := .later }
def SolveMoreCardSaid : Prop := Claim7.holds Tryd.pinned (.plain (OpenSpec.ofChange solveMoreSpec)) solveMoreCard

/-- THE SECOND FORM's CARD OF 'provostlaw12.SolveCheck'. -/
def solveCheckUptoCard : Claim7 := { stood := { row := solveCheckUptoRow, standIns := [], harness := (true, "4c140240ec83e0e631b25a5409c4ff9baef1a5d3fb2a176c17a28d337875faf2"), looks := false }, kinds := [], alts := [], laidByText := true, laidKinds := [.data], laidTests := true, laidLooks := .later }
def SolveCheckUptoCardSaid : Prop := Claim7.holds Tryd.pinned (.plain (OpenSpec.upto solveCheckSpec)) solveCheckUptoCard

/-- THE SECOND FORM's CARD OF 'provostlaw12.SolveBefore'. -/
def solveBeforeUptoCard : Claim7 := { stood := { row := solveBeforeUptoRow, standIns := [], harness := (true, "4c140240ec83e0e631b25a5409c4ff9baef1a5d3fb2a176c17a28d337875faf2"), looks := false }, kinds := [], alts := [], laidByText := true, laidKinds := [.data], laidTests := true, laidLooks := .later }
def SolveBeforeUptoCardSaid : Prop := Claim7.holds Tryd.pinned (.plain (OpenSpec.upto solveBeforeSpec)) solveBeforeUptoCard

/-- THE SECOND FORM's CARD OF 'provostlaw12.SolveBest'. -/
def solveBestUptoCard : Claim7 := { stood := { row := solveBestUptoRow, standIns := [], harness := (true, "4c140240ec83e0e631b25a5409c4ff9baef1a5d3fb2a176c17a28d337875faf2"), looks := false }, kinds := [], alts := [], laidByText := true, laidKinds := [.data], laidTests := true, laidLooks := .later }
def SolveBestUptoCardSaid : Prop := Claim7.holds Tryd.pinned (.plain (OpenSpec.upto solveBestSpec)) solveBestUptoCard

/-- THE SECOND FORM's CARD OF 'provostlaw12.SolveFix'. -/
def solveFixUptoCard : Claim7 := { stood := { row := solveFixUptoRow, standIns := [], harness := (true, "4c140240ec83e0e631b25a5409c4ff9baef1a5d3fb2a176c17a28d337875faf2"), looks := false }, kinds := [], alts := [], laidByText := true, laidKinds := [.data], laidTests := true, laidLooks := .later }
def SolveFixUptoCardSaid : Prop := Claim7.holds Tryd.pinned (.plain (OpenSpec.upto solveFixSpec)) solveFixUptoCard

/-- THE SECOND FORM's CARD OF 'provostlaw12.SolveMore'. -/
def solveMoreUptoCard : Claim7 := { stood := { row := solveMoreUptoRow, standIns := [], harness := (true, "4c140240ec83e0e631b25a5409c4ff9baef1a5d3fb2a176c17a28d337875faf2"), looks := false }, kinds := [], alts := [], laidByText := true, laidKinds := [.data], laidTests := true, laidLooks := .later }
def SolveMoreUptoCardSaid : Prop := Claim7.holds Tryd.pinned (.plain (OpenSpec.upto solveMoreSpec)) solveMoreUptoCard
end Rows
end Go.Proofs.YtckmffoeabhffaaDoor
