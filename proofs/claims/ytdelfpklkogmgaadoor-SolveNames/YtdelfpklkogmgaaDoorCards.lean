/-
  DERIVED. GIVEN WITH THE SEED: THE CARDS: each row of YtdelfpklkogmgaaDoorRows.lean that lists a variable, with what it lists TIED to the program's text (the seventh form; the later family's looks); each row that meets fmt, with fmt's text TOLD by the authors' own Lean function (tested against real Go, not proved from fmt's source: count such statements apart). THE CARD IS WHAT COUNTS. Prove the row's statement (the work); the ties are given (YtdelfpklkogmgaaDoorTie.lean); close each card by the builder's one call (the guide's Derived/Test/ToyasCard.lean, 'card_holds'). Laid BY PROGRAM, IN A SANDBOX (cutbox-door.mjs). By AI agents, Wed Nov 11 2026. No macro, syntax, notation, axiom, sorry.
-/
import Derived.Test.YtdelfpklkogmgaaDoorRows
import GoSem.ClaimSeven
namespace Go.Proofs.YtdelfpklkogmgaaDoor
namespace Rows

/-- THE TIED CARD OF 'provostlaw12.SolveNames'. -/
def solveNamesCard : Claim7 := { stood := { row := solveNamesRow, standIns := [], harness := (true, "c1c9ee35d4f944936afa056c1ddfc74df0ce5687e4e476d5be982beae3cff37f"), looks := false }, kinds := [], alts := [], laidByText := true, laidKinds := [.data], laidTests := true, laidLooks := .later }
def SolveNamesCardSaid : Prop := Claim7.holds Tryd.pinned (.plain (OpenSpec.ofChange solveNamesSpec)) solveNamesCard

/-- THE SECOND FORM's CARD OF 'provostlaw12.SolveNames'. -/
def solveNamesUptoCard : Claim7 := { stood := { row := solveNamesUptoRow, standIns := [], harness := (true, "c1c9ee35d4f944936afa056c1ddfc74df0ce5687e4e476d5be982beae3cff37f"), looks := false }, kinds := [], alts := [], laidByText := true, laidKinds := [.data], laidTests := true, laidLooks := .later }
def SolveNamesUptoCardSaid : Prop := Claim7.holds Tryd.pinned (.plain (OpenSpec.upto solveNamesSpec)) solveNamesUptoCard
end Rows
end Go.Proofs.YtdelfpklkogmgaaDoor
