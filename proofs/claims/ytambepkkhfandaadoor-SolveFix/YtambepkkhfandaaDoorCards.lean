/-
  DERIVED. GIVEN WITH THE SEED: THE CARDS: each row of YtambepkkhfandaaDoorRows.lean that lists a variable, with what it lists TIED to the program's text (the seventh form; the later family's looks); each row that meets fmt, with fmt's text TOLD by the authors' own Lean function (tested against real Go, not proved from fmt's source: count such statements apart). THE CARD IS WHAT COUNTS. Prove the row's statement (the work); the ties are given (YtambepkkhfandaaDoorTie.lean); close each card by the builder's one call (the guide's Derived/Test/ToyasCard.lean, 'card_holds'). Laid BY PROGRAM, IN A SANDBOX (cutbox-door.mjs). By AI agents, Wed Nov 11 2026. No macro, syntax, notation, axiom, sorry.
-/
import Derived.Test.YtambepkkhfandaaDoorRows
import GoSem.ClaimSeven
namespace Go.Proofs.YtambepkkhfandaaDoor
namespace Rows

/-- THE TIED CARD OF 'provostlaw12.SolveFix'. -/
def solveFixCard : Claim7 := { stood := { row := solveFixRow, standIns := [], harness := (true, "c21082a7a43ce885d1b0edcbe200e20d9b5b7f5c4ae7cbb8860568a4ad5a4442"), looks := false }, kinds := [], alts := [], laidByText := true, laidKinds := [.data], laidTests := true, laidLooks := .later }
def SolveFixCardSaid : Prop := Claim7.holds Tryd.pinned (.plain (OpenSpec.ofChange solveFixSpec)) solveFixCard

/-- THE TIED CARD OF 'provostlaw12.SolveMore'. -/
def solveMoreCard : Claim7 := { stood := { row := solveMoreRow, standIns := [], harness := (true, "c21082a7a43ce885d1b0edcbe200e20d9b5b7f5c4ae7cbb8860568a4ad5a4442"), looks := false }, kinds := [], alts := [], laidByText := true, laidKinds := [.data], laidTests := true, laidLooks := .later }
def SolveMoreCardSaid : Prop := Claim7.holds Tryd.pinned (.plain (OpenSpec.ofChange solveMoreSpec)) solveMoreCard

/-- THE TIED CARD OF 'provostlaw12.SolveTight'. -/
def solveTightCard : Claim7 := { stood := { row := solveTightRow, standIns := [], harness := (true, "c21082a7a43ce885d1b0edcbe200e20d9b5b7f5c4ae7cbb8860568a4ad5a4442"), looks := false }, kinds := [], alts := [], laidByText := true, laidKinds := [.data], laidTests := true, laidLooks := .later }
def SolveTightCardSaid : Prop := Claim7.holds Tryd.pinned (.plain (OpenSpec.ofChange solveTightSpec)) solveTightCard

/-- THE SECOND FORM's CARD OF 'provostlaw12.SolveFix'. -/
def solveFixUptoCard : Claim7 := { stood := { row := solveFixUptoRow, standIns := [], harness := (true, "c21082a7a43ce885d1b0edcbe200e20d9b5b7f5c4ae7cbb8860568a4ad5a4442"), looks := false }, kinds := [], alts := [], laidByText := true, laidKinds := [.data], laidTests := true, laidLooks := .later }
def SolveFixUptoCardSaid : Prop := Claim7.holds Tryd.pinned (.plain (OpenSpec.upto solveFixSpec)) solveFixUptoCard

/-- THE SECOND FORM's CARD OF 'provostlaw12.SolveMore'. -/
def solveMoreUptoCard : Claim7 := { stood := { row := solveMoreUptoRow, standIns := [], harness := (true, "c21082a7a43ce885d1b0edcbe200e20d9b5b7f5c4ae7cbb8860568a4ad5a4442"), looks := false }, kinds := [], alts := [], laidByText := true, laidKinds := [.data], laidTests := true, laidLooks := .later }
def SolveMoreUptoCardSaid : Prop := Claim7.holds Tryd.pinned (.plain (OpenSpec.upto solveMoreSpec)) solveMoreUptoCard

/-- THE SECOND FORM's CARD OF 'provostlaw12.SolveTight'. -/
def solveTightUptoCard : Claim7 := { stood := { row := solveTightUptoRow, standIns := [], harness := (true, "c21082a7a43ce885d1b0edcbe200e20d9b5b7f5c4ae7cbb8860568a4ad5a4442"), looks := false }, kinds := [], alts := [], laidByText := true, laidKinds := [.data], laidTests := true, laidLooks := .later }
def SolveTightUptoCardSaid : Prop := Claim7.holds Tryd.pinned (.plain (OpenSpec.upto solveTightSpec)) solveTightUptoCard
end Rows
end Go.Proofs.YtambepkkhfandaaDoor
