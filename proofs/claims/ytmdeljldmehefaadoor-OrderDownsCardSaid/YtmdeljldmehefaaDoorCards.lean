/-
  DERIVED. GIVEN WITH THE SEED: THE CARDS: each row of YtmdeljldmehefaaDoorRows.lean that lists a variable, with what it lists TIED to the program's text (the seventh form; the later family's looks); each row that meets fmt, with fmt's text TOLD by the authors' own Lean function (tested against real Go, not proved from fmt's source: count such statements apart). THE CARD IS WHAT COUNTS. Prove the row's statement (the work); the ties are given (YtmdeljldmehefaaDoorTie.lean); close each card by the builder's one call (the guide's Derived/Test/ToyasCard.lean, 'card_holds'). Laid BY PROGRAM, IN A SANDBOX (cutbox-door.mjs). By AI agents, Wed Nov 11 2026. No macro, syntax, notation, axiom, sorry.
-/
import Derived.Test.YtmdeljldmehefaaDoorRows
import GoSem.ClaimSeven
namespace Go.Proofs.YtmdeljldmehefaaDoor
namespace Rows

/-- THE TIED CARD OF 'provostlaw03.OrderDowns'. -/
def orderDownsCard : Claim7 := { stood := { row := orderDownsRow, standIns := [], harness := (true, "4e11ba292601510fb634f8758bae06b62649eb58d811f8a884046a9ac6c9184b"), looks := false }, kinds := [], alts := [], laidByText := true, laidKinds := [.data], laidTests := true, laidLooks := .later }
def OrderDownsCardSaid : Prop := Claim7.holds Tryd.pinned (.plain (OpenSpec.ofChange orderDownsSpec)) orderDownsCard

/-- THE SECOND FORM's CARD OF 'provostlaw03.OrderDowns'. -/
def orderDownsUptoCard : Claim7 := { stood := { row := orderDownsUptoRow, standIns := [], harness := (true, "4e11ba292601510fb634f8758bae06b62649eb58d811f8a884046a9ac6c9184b"), looks := false }, kinds := [], alts := [], laidByText := true, laidKinds := [.data], laidTests := true, laidLooks := .later }
def OrderDownsUptoCardSaid : Prop := Claim7.holds Tryd.pinned (.plain (OpenSpec.upto orderDownsSpec)) orderDownsUptoCard
end Rows
end Go.Proofs.YtmdeljldmehefaaDoor
