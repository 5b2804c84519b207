/-
  DERIVED. GIVEN WITH THE SEED: THE CARDS: each row of YtlipdccfhnnleaaGreatDoorRows.lean that lists a variable, with what it lists TIED to the program's text (the seventh form; the later family's looks); each row that meets fmt, with fmt's text TOLD by the authors' own Lean function (tested against real Go, not proved from fmt's source: count such statements apart). THE CARD IS WHAT COUNTS. Prove the row's statement (the work); the ties are given (YtlipdccfhnnleaaGreatDoorTie.lean); close each card by the builder's one call (the guide's Derived/Test/ToyasCard.lean, 'card_holds'). Laid BY PROGRAM, IN A SANDBOX (cutbox-door.mjs). By AI agents, Wed Nov 11 2026. No macro, syntax, notation, axiom, sorry.
-/
import Derived.Test.YtlipdccfhnnleaaGreatDoorRows
import GoSem.ClaimSeven
namespace Go.Proofs.YtlipdccfhnnleaaGreatDoor
namespace Rows

/-- THE TIED CARD OF 'provostlaw17.RunExact'. -/
def runExactCard : Claim7 := { stood := { row := runExactRow, standIns := [], harness := (true, "53fd9d863a86e2f6d98c2870c459c885d9a1ef866df98a3ad358fa3fbb94304f"), looks := false }, kinds := [], alts := [], laidByText := true, laidKinds := [.data], laidTests := true, laidLooks := .later }
def RunExactCardSaid : Prop := Claim7.holds Tryz.pinned (.plain (OpenSpec.ofChange runExactSpec)) runExactCard

/-- THE TIED CARD OF 'provostlaw17.RunRefused'. -/
def runRefusedCard : Claim7 := { stood := { row := runRefusedRow, standIns := [], harness := (true, "53fd9d863a86e2f6d98c2870c459c885d9a1ef866df98a3ad358fa3fbb94304f"), looks := false }, kinds := [], alts := [], laidByText := true, laidKinds := [.data], laidTests := true, laidLooks := .later }
def RunRefusedCardSaid : Prop := Claim7.holds Tryz.pinned (.plain (OpenSpec.ofChange runRefusedSpec)) runRefusedCard

/-- THE TIED CARD OF 'provostlaw17.RunOwn'. -/
def runOwnCard : Claim7 := { stood := { row := runOwnRow, standIns := [], harness := (true, "53fd9d863a86e2f6d98c2870c459c885d9a1ef866df98a3ad358fa3fbb94304f"), looks := false }, kinds := [], alts := [], laidByText := true, laidKinds := [.data], laidTests := true, laidLooks := .later }
def RunOwnCardSaid : Prop := Claim7.holds Tryz.pinned (.plain (OpenSpec.ofChange runOwnSpec)) runOwnCard

/-- THE SECOND FORM's CARD OF 'provostlaw17.RunExact'. -/
def runExactUptoCard : Claim7 := { stood := { row := runExactUptoRow, standIns := [], harness := (true, "53fd9d863a86e2f6d98c2870c459c885d9a1ef866df98a3ad358fa3fbb94304f"), looks := false }, kinds := [], alts := [], laidByText := true, laidKinds := [.data], laidTests := true, laidLooks := .later }
def RunExactUptoCardSaid : Prop := Claim7.holds Tryz.pinned (.plain (OpenSpec.upto runExactSpec)) runExactUptoCard

/-- THE SECOND FORM's CARD OF 'provostlaw17.RunRefused'. -/
def runRefusedUptoCard : Claim7 := { stood := { row := runRefusedUptoRow, standIns := [], harness := (true, "53fd9d863a86e2f6d98c2870c459c885d9a1ef866df98a3ad358fa3fbb94304f"), looks := false }, kinds := [], alts := [], laidByText := true, laidKinds := [.data], laidTests := true, laidLooks := .later }
def RunRefusedUptoCardSaid : Prop := Claim7.holds Tryz.pinned (.plain (OpenSpec.upto runRefusedSpec)) runRefusedUptoCard

/-- THE SECOND FORM's CARD OF 'provostlaw17.RunOwn'. -/
def runOwnUptoCard : Claim7 := { stood := { row := runOwnUptoRow, standIns := [], harness := (true, "53fd9d863a86e2f6d98c2870c459c885d9a1ef866df98a3ad358fa3fbb94304f"), looks := false }, kinds := [], alts := [], laidByText := true, laidKinds := [.data], laidTests := true, laidLooks := .later }
def RunOwnUptoCardSaid : Prop := Claim7.holds Tryz.pinned (.plain (OpenSpec.upto runOwnSpec)) runOwnUptoCard
end Rows
end Go.Proofs.YtlipdccfhnnleaaGreatDoor
