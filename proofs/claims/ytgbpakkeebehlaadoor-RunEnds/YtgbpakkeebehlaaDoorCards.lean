/-
  DERIVED. GIVEN WITH THE SEED: THE CARDS: each row of YtgbpakkeebehlaaDoorRows.lean that lists a variable, with what it lists TIED to the program's text (the seventh form; the later family's looks); each row that meets fmt, with fmt's text TOLD by the authors' own Lean function (tested against real Go, not proved from fmt's source: count such statements apart). THE CARD IS WHAT COUNTS. Prove the row's statement (the work); the ties are given (YtgbpakkeebehlaaDoorTie.lean); close each card by the builder's one call (the guide's Derived/Test/ToyasCard.lean, 'card_holds'). Laid BY PROGRAM, IN A SANDBOX (cutbox-door.mjs). By AI agents, Wed Nov 11 2026. No macro, syntax, notation, axiom, sorry.
-/
import Derived.Test.YtgbpakkeebehlaaDoorRows
import GoSem.ClaimSeven
namespace Go.Proofs.YtgbpakkeebehlaaDoor
namespace Rows

/-- THE TIED CARD OF 'provostlaw17.RunEnds'. -/
def runEndsCard : Claim7 := { stood := { row := runEndsRow, standIns := [], harness := (true, "181d9199d293765c4973f42e4d03237216a6b32355163985d135cf138710b00b"), looks := false }, kinds := [], alts := [], laidByText := true, laidKinds := [.data], laidTests := true, laidLooks := .later }
def RunEndsCardSaid : Prop := Claim7.holds Tryd.pinned (.plain (OpenSpec.ofChange runEndsSpec)) runEndsCard

/-- THE TIED CARD OF 'provostlaw17.RunLog'. -/
def runLogCard : Claim7 := { stood := { row := runLogRow, standIns := [], harness := (true, "181d9199d293765c4973f42e4d03237216a6b32355163985d135cf138710b00b"), looks := false }, kinds := [], alts := [], laidByText := true, laidKinds := [.data], laidTests := true, laidLooks := .later }
def RunLogCardSaid : Prop := Claim7.holds Tryd.pinned (.plain (OpenSpec.ofChange runLogSpec)) runLogCard

/-- THE SECOND FORM's CARD OF 'provostlaw17.RunEnds'. -/
def runEndsUptoCard : Claim7 := { stood := { row := runEndsUptoRow, standIns := [], harness := (true, "181d9199d293765c4973f42e4d03237216a6b32355163985d135cf138710b00b"), looks := false }, kinds := [], alts := [], laidByText := true, laidKinds := [.data], laidTests := true, laidLooks := .later }
def RunEndsUptoCardSaid : Prop := Claim7.holds Tryd.pinned (.plain (OpenSpec.upto runEndsSpec)) runEndsUptoCard

/-- THE SECOND FORM's CARD OF 'provostlaw17.RunLog'. -/
def runLogUptoCard : Claim7 := { stood := { row := runLogUptoRow, standIns := [], harness := (true, "181d9199d293765c4973f42e4d03237216a6b32355163985d135cf138710b00b"), looks := false }, kinds := [], alts := [], laidByText := true, laidKinds := [.data], laidTests := true, laidLooks := .later }
def RunLogUptoCardSaid : Prop := Claim7.holds Tryd.pinned (.plain (OpenSpec.upto runLogSpec)) runLogUptoCard
end Rows
end Go.Proofs.YtgbpakkeebehlaaDoor
