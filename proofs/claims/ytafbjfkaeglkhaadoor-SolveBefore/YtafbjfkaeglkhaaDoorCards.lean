/-
  DERIVED. GIVEN WITH THE SEED: THE CARDS: each row of YtafbjfkaeglkhaaDoorRows.lean that lists a variable, with what it lists TIED to the program's text (the seventh form; the later family's looks); each row that meets fmt, with fmt's text TOLD by the authors' own Lean function (tested against real Go, not proved from fmt's source: count such statements apart). THE CARD IS WHAT COUNTS. Prove the row's statement (the work); the ties are given (YtafbjfkaeglkhaaDoorTie.lean); close each card by the builder's one call (the guide's Derived/Test/ToyasCard.lean, 'card_holds'). Laid BY PROGRAM, IN A SANDBOX (cutbox-door.mjs). By AI agents, Wed Nov 11 2026. No macro, syntax, notation, axiom, sorry.
-/
import Derived.Test.YtafbjfkaeglkhaaDoorRows
import GoSem.ClaimSeven
namespace Go.Proofs.YtafbjfkaeglkhaaDoor
namespace Rows

/-- THE TIED CARD OF 'provostlaw12.SolveBefore'. -/
def solveBeforeCard : Claim7 := { stood := { row := solveBeforeRow, standIns := [], harness := (true, "a64a9bdea7e5515c2a2d87667526dc86eebf482c65921b9b9a88e831742dba85"), looks := false }, kinds := [], alts := [], laidByText := true, laidKinds := [.data], laidTests := true, laidLooks := .later }
def SolveBeforeCardSaid : Prop := Claim7.holds Tryd.pinned (.plain (OpenSpec.ofChange solveBeforeSpec)) solveBeforeCard

/-- THE SECOND FORM's CARD OF 'provostlaw12.SolveBefore'. -/
def solveBeforeUptoCard : Claim7 := { stood := { row := solveBeforeUptoRow, standIns := [], harness := (true, "a64a9bdea7e5515c2a2d87667526dc86eebf482c65921b9b9a88e831742dba85"), looks := false }, kinds := [], alts := [], laidByText := true, laidKinds := [.data], laidTests := true, laidLooks := .later }
def SolveBeforeUptoCardSaid : Prop := Claim7.holds Tryd.pinned (.plain (OpenSpec.upto solveBeforeSpec)) solveBeforeUptoCard
end Rows
end Go.Proofs.YtafbjfkaeglkhaaDoor
