/-
  DERIVED. GIVEN WITH THE SEED: THE CARDS: each row of YtckmffoeabhffabDoorRows.lean that lists a variable, with what it lists TIED to the program's text (the seventh form; the later family's looks); each row that meets fmt, with fmt's text TOLD by the authors' own Lean function (tested against real Go, not proved from fmt's source: count such statements apart). THE CARD IS WHAT COUNTS. Prove the row's statement (the work); the ties are given (YtckmffoeabhffabDoorTie.lean); close each card by the builder's one call (the guide's Derived/Test/ToyasCard.lean, 'card_holds'). Laid BY PROGRAM, IN A SANDBOX (cutbox-door.mjs). By AI agents, Wed Nov 11 2026. No macro, syntax, notation, axiom, sorry.
-/
import Derived.Test.YtckmffoeabhffabDoorRows
import GoSem.ClaimSeven
namespace Go.Proofs.YtckmffoeabhffabDoor
namespace Rows

/-- THE TIED CARD OF 'provostlaw12.SolveNames'. -/
def solveNamesCard : Claim7 := { stood := { row := solveNamesRow, standIns := [], harness := (true, "52c3f2290326c75879e0ee2b8b6f184d9c05c80adf10b9893989bb36aaf5053e"), looks := false }, kinds := [], alts := [], laidByText := true, laidKinds := [.data], laidTests := true, laidLooks := .later }
def SolveNamesCardSaid : Prop := Claim7.holds Tryd.pinned (.plain (OpenSpec.ofChange solveNamesSpec)) solveNamesCard

/-- THE TIED CARD OF 'provostlaw12.SolveGauge'. -/
def solveGaugeCard : Claim7 := { stood := { row := solveGaugeRow, standIns := [], harness := (true, "52c3f2290326c75879e0ee2b8b6f184d9c05c80adf10b9893989bb36aaf5053e"), looks := false }, kinds := [], alts := [], laidByText := true, laidKinds := [.data], laidTests := true, laidLooks := .later }
def SolveGaugeCardSaid : Prop := Claim7.holds Tryd.pinned (.plain (OpenSpec.ofChange solveGaugeSpec)) solveGaugeCard

/-- THE TIED CARD OF 'provostlaw12.SolveTight'. -/
def solveTightCard : Claim7 := { stood := { row := solveTightRow, standIns := [], harness := (true, "52c3f2290326c75879e0ee2b8b6f184d9c05c80adf10b9893989bb36aaf5053e"), looks := false }, kinds := [], alts := [], laidByText := true, laidKinds := [.data], laidTests := true, laidLooks := .later }
def SolveTightCardSaid : Prop := Claim7.holds Tryd.pinned (.plain (OpenSpec.ofChange solveTightSpec)) solveTightCard

/-- THE SECOND FORM's CARD OF 'provostlaw12.SolveNames'. -/
def solveNamesUptoCard : Claim7 := { stood := { row := solveNamesUptoRow, standIns := [], harness := (true, "52c3f2290326c75879e0ee2b8b6f184d9c05c80adf10b9893989bb36aaf5053e"), looks := false }, kinds := [], alts := [], laidByText := true, laidKinds := [.data], laidTests := true, laidLooks := .later }
def SolveNamesUptoCardSaid : Prop := Claim7.holds Tryd.pinned (.plain (OpenSpec.upto solveNamesSpec)) solveNamesUptoCard

/-- THE SECOND FORM's CARD OF 'provostlaw12.SolveGauge'. -/
def solveGaugeUptoCard : Claim7 := { stood := { row := solveGaugeUptoRow, standIns := [], harness := (true, "52c3f2290326c75879e0ee2b8b6f184d9c05c80adf10b9893989bb36aaf5053e"), looks := false }, kinds := [], alts := [], laidByText := true, laidKinds := [.data], laidTests := true, laidLooks := .later }
def SolveGaugeUptoCardSaid : Prop := Claim7.holds Tryd.pinned (.plain (OpenSpec.upto solveGaugeSpec)) solveGaugeUptoCard

/-- THE SECOND FORM's CARD OF 'provostlaw12.SolveTight'. -/
def solveTightUptoCard : Claim7 := { stood := { row := solveTightUptoRow, standIns := [], harness := (true, "52c3f2290326c75879e0ee2b8b6f184d9c05c80adf10b9893989bb36aaf5053e"), looks := false }, kinds := [], alts := [], laidByText := true, laidKinds := [.data], laidTests := true, laidLooks := .later }
def SolveTightUptoCardSaid : Prop := Claim7.holds Tryd.pinned (.plain (OpenSpec.upto solveTightSpec)) solveTightUptoCard
end Rows
end Go.Proofs.YtckmffoeabhffabDoor
