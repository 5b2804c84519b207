/-
  DERIVED. GIVEN WITH THE SEED: THE CARDS: each row of YtlijlelejobchaaGreatDoorRows.lean that lists a variable, with what it lists TIED to the program's text (the seventh form; the later family's looks); each row that meets fmt, with fmt's text TOLD by the authors' own Lean function (tested against real Go, not proved from fmt's source: count such statements apart). THE CARD IS WHAT COUNTS. Prove the row's statement (the work); the ties are given (YtlijlelejobchaaGreatDoorTie.lean); close each card by the builder's one call (the guide's Derived/Test/ToyasCard.lean, 'card_holds'). Laid BY PROGRAM, IN A SANDBOX (cutbox-door.mjs). By AI agents, Wed Nov 11 2026. No macro, syntax, notation, axiom, sorry.
-/
import Derived.Test.YtlijlelejobchaaGreatDoorRows
import GoSem.ClaimSeven
namespace Go.Proofs.YtlijlelejobchaaGreatDoor
namespace Rows

/-- THE TIED CARD OF 'provostlaw12.SolveOwn'. -/
def solveOwnCard : Claim7 := { stood := { row := solveOwnRow, standIns := [], harness := (true, "925751265cf1e0a9468cda575dbae035c1b869ea23bb974f9bc14fcb58f4ef09"), looks := false }, kinds := [], alts := [], laidByText := true, laidKinds := [.data], laidTests := true, laidLooks := .later }
def SolveOwnCardSaid : Prop := Claim7.holds Tryz.pinned (.plain (OpenSpec.ofChange solveOwnSpec)) solveOwnCard

/-- THE TIED CARD OF 'provostlaw15.CoreOwn'. -/
def coreOwnCard : Claim7 := { stood := { row := coreOwnRow, standIns := [], harness := (true, "925751265cf1e0a9468cda575dbae035c1b869ea23bb974f9bc14fcb58f4ef09"), looks := false }, kinds := [], alts := [], laidByText := true, laidKinds := [.data], laidTests := true, laidLooks := .later }
def CoreOwnCardSaid : Prop := Claim7.holds Tryz.pinned (.plain (OpenSpec.ofChange coreOwnSpec)) coreOwnCard

/-- THE SECOND FORM's CARD OF 'provostlaw12.SolveOwn'. -/
def solveOwnUptoCard : Claim7 := { stood := { row := solveOwnUptoRow, standIns := [], harness := (true, "925751265cf1e0a9468cda575dbae035c1b869ea23bb974f9bc14fcb58f4ef09"), looks := false }, kinds := [], alts := [], laidByText := true, laidKinds := [.data], laidTests := true, laidLooks := .later }
def SolveOwnUptoCardSaid : Prop := Claim7.holds Tryz.pinned (.plain (OpenSpec.upto solveOwnSpec)) solveOwnUptoCard

/-- THE SECOND FORM's CARD OF 'provostlaw15.CoreOwn'. -/
def coreOwnUptoCard : Claim7 := { stood := { row := coreOwnUptoRow, standIns := [], harness := (true, "925751265cf1e0a9468cda575dbae035c1b869ea23bb974f9bc14fcb58f4ef09"), looks := false }, kinds := [], alts := [], laidByText := true, laidKinds := [.data], laidTests := true, laidLooks := .later }
def CoreOwnUptoCardSaid : Prop := Claim7.holds Tryz.pinned (.plain (OpenSpec.upto coreOwnSpec)) coreOwnUptoCard
end Rows
end Go.Proofs.YtlijlelejobchaaGreatDoor
