/-
  DERIVED. GIVEN WITH THE SEED: THE CARDS: each row of YtgmnldibabdjmaaDoorRows.lean that lists a variable, with what it lists TIED to the program's text (the seventh form; the later family's looks); each row that meets fmt, with fmt's text TOLD by the authors' own Lean function (tested against real Go, not proved from fmt's source: count such statements apart). THE CARD IS WHAT COUNTS. Prove the row's statement (the work); the ties are given (YtgmnldibabdjmaaDoorTie.lean); close each card by the builder's one call (the guide's Derived/Test/ToyasCard.lean, 'card_holds'). Laid BY PROGRAM, IN A SANDBOX (cutbox-door.mjs). By AI agents, Wed Nov 11 2026. No macro, syntax, notation, axiom, sorry.
-/
import Derived.Test.YtgmnldibabdjmaaDoorRows
import GoSem.ClaimSeven
namespace Go.Proofs.YtgmnldibabdjmaaDoor
namespace Rows

/-- THE TIED CARD OF 'provostlaw03.OrderCount'. -/
def orderCountCard : Claim7 := { stood := { row := orderCountRow, standIns := [], harness := (true, "dd9487fd85c6eeb471240c39f22e18f654f68229302fce7bc25e9fbb86d52fd0"), looks := false }, kinds := [], alts := [], laidByText := true, laidKinds := [.data], laidTests := true, laidLooks := .later }
def OrderCountCardSaid : Prop := Claim7.holds Tryd.pinned (.plain (OpenSpec.ofChange orderCountSpec)) orderCountCard

/-- THE SECOND FORM's CARD OF 'provostlaw03.OrderCount'. -/
def orderCountUptoCard : Claim7 := { stood := { row := orderCountUptoRow, standIns := [], harness := (true, "dd9487fd85c6eeb471240c39f22e18f654f68229302fce7bc25e9fbb86d52fd0"), looks := false }, kinds := [], alts := [], laidByText := true, laidKinds := [.data], laidTests := true, laidLooks := .later }
def OrderCountUptoCardSaid : Prop := Claim7.holds Tryd.pinned (.plain (OpenSpec.upto orderCountSpec)) orderCountUptoCard
end Rows
end Go.Proofs.YtgmnldibabdjmaaDoor
