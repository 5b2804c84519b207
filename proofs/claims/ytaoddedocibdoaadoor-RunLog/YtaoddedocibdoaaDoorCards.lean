/-
  DERIVED. GIVEN WITH THE SEED: THE CARDS: each row of YtaoddedocibdoaaDoorRows.lean that lists a variable, with what it lists TIED to the program's text (the seventh form; the later family's looks); each row that meets fmt, with fmt's text TOLD by the authors' own Lean function (tested against real Go, not proved from fmt's source: count such statements apart). THE CARD IS WHAT COUNTS. Prove the row's statement (the work); the ties are given (YtaoddedocibdoaaDoorTie.lean); close each card by the builder's one call (the guide's Derived/Test/ToyasCard.lean, 'card_holds'). Laid BY PROGRAM, IN A SANDBOX (cutbox-door.mjs). By AI agents, Wed Nov 11 2026. No macro, syntax, notation, axiom, sorry.
-/
import Derived.Test.YtaoddedocibdoaaDoorRows
import GoSem.ClaimSeven
namespace Go.Proofs.YtaoddedocibdoaaDoor
namespace Rows

/-- THE TIED CARD OF 'provostlaw17.RunLog'. -/
def runLogCard : Claim7 := { stood := { row := runLogRow, standIns := [], harness := (true, "096d120cb98ea51ee9531b65f249236415e3b3818f1e672950de13de3725bf4e"), looks := false }, kinds := [], alts := [], laidByText := true, laidKinds := [.data], laidTests := true, laidLooks := .later }
def RunLogCardSaid : Prop := Claim7.holds Tryd.pinned (.plain (OpenSpec.ofChange runLogSpec)) runLogCard

/-- THE SECOND FORM's CARD OF 'provostlaw17.RunLog'. -/
def runLogUptoCard : Claim7 := { stood := { row := runLogUptoRow, standIns := [], harness := (true, "096d120cb98ea51ee9531b65f249236415e3b3818f1e672950de13de3725bf4e"), looks := false }, kinds := [], alts := [], laidByText := true, laidKinds := [.data], laidTests := true, laidLooks := .later }
def RunLogUptoCardSaid : Prop := Claim7.holds Tryd.pinned (.plain (OpenSpec.upto runLogSpec)) runLogUptoCard
end Rows
end Go.Proofs.YtaoddedocibdoaaDoor
