/-
  DERIVED. GIVEN WITH THE SEED: THE CARDS: each row of YtbbmjfjedonfaaaDoorRows.lean that lists a variable, with what it lists TIED to the program's text (the seventh form; the later family's looks); each row that meets fmt, with fmt's text TOLD by the authors' own Lean function (tested against real Go, not proved from fmt's source: count such statements apart). THE CARD IS WHAT COUNTS. Prove the row's statement (the work); the ties are given (YtbbmjfjedonfaaaDoorTie.lean); close each card by the builder's one call (the guide's Derived/Test/ToyasCard.lean, 'card_holds'). Laid BY PROGRAM, IN A SANDBOX (cutbox-door.mjs). By AI agents, Wed Nov 11 2026. No macro, syntax, notation, axiom, sorry.
-/
import Derived.Test.YtbbmjfjedonfaaaDoorRows
import GoSem.ClaimSeven
namespace Go.Proofs.YtbbmjfjedonfaaaDoor
namespace Rows

/-- THE TIED CARD OF 'provostlaw11.MatchCount'. -/
def matchCountCard : Claim7 := { stood := { row := matchCountRow, standIns := [], harness := (true, "4e9b6b51eb16e1ee3c4896b91a3d91cd461aa40694dd6b74fbf80a1c8b47f1d9"), looks := false }, kinds := [], alts := [], laidByText := true, laidKinds := [.data], laidTests := true, laidLooks := .later }
def MatchCountCardSaid : Prop := Claim7.holds Tryd.pinned (.plain (OpenSpec.ofChange matchCountSpec)) matchCountCard

/-- THE SECOND FORM's CARD OF 'provostlaw11.MatchCount'. -/
def matchCountUptoCard : Claim7 := { stood := { row := matchCountUptoRow, standIns := [], harness := (true, "4e9b6b51eb16e1ee3c4896b91a3d91cd461aa40694dd6b74fbf80a1c8b47f1d9"), looks := false }, kinds := [], alts := [], laidByText := true, laidKinds := [.data], laidTests := true, laidLooks := .later }
def MatchCountUptoCardSaid : Prop := Claim7.holds Tryd.pinned (.plain (OpenSpec.upto matchCountSpec)) matchCountUptoCard
end Rows
end Go.Proofs.YtbbmjfjedonfaaaDoor
