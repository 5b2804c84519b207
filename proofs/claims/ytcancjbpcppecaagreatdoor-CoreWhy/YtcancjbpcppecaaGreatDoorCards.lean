/-
  DERIVED. GIVEN WITH THE SEED: THE CARDS: each row of YtcancjbpcppecaaGreatDoorRows.lean that lists a variable, with what it lists TIED to the program's text (the seventh form; the later family's looks); each row that meets fmt, with fmt's text TOLD by the authors' own Lean function (tested against real Go, not proved from fmt's source: count such statements apart). THE CARD IS WHAT COUNTS. Prove the row's statement (the work); the ties are given (YtcancjbpcppecaaGreatDoorTie.lean); close each card by the builder's one call (the guide's Derived/Test/ToyasCard.lean, 'card_holds'). Laid BY PROGRAM, IN A SANDBOX (cutbox-door.mjs). By AI agents, Wed Nov 11 2026. No macro, syntax, notation, axiom, sorry.
-/
import Derived.Test.YtcancjbpcppecaaGreatDoorRows
import GoSem.ClaimSeven
namespace Go.Proofs.YtcancjbpcppecaaGreatDoor
namespace Rows

/-- THE TIED CARD OF 'provostlaw15.CoreWhy'. -/
def coreWhyCard : Claim7 := { stood := { row := coreWhyRow, standIns := [], harness := (true, "6c6c9255ee9bcfed3b6b4f1891dbac6734aafb5d080a1afc1afacb4c9b7a5477"), looks := false }, kinds := [], alts := [], laidByText := true, laidKinds := [.data], laidTests := true, laidLooks := .later }
def CoreWhyCardSaid : Prop := Claim7.holds Tryz.pinned (.plain (OpenSpec.ofChange coreWhySpec)) coreWhyCard

/-- THE SECOND FORM's CARD OF 'provostlaw15.CoreWhy'. -/
def coreWhyUptoCard : Claim7 := { stood := { row := coreWhyUptoRow, standIns := [], harness := (true, "6c6c9255ee9bcfed3b6b4f1891dbac6734aafb5d080a1afc1afacb4c9b7a5477"), looks := false }, kinds := [], alts := [], laidByText := true, laidKinds := [.data], laidTests := true, laidLooks := .later }
def CoreWhyUptoCardSaid : Prop := Claim7.holds Tryz.pinned (.plain (OpenSpec.upto coreWhySpec)) coreWhyUptoCard
end Rows
end Go.Proofs.YtcancjbpcppecaaGreatDoor
