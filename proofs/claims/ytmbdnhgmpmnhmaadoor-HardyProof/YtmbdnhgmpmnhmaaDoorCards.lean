/-
  DERIVED. GIVEN WITH THE SEED: THE CARDS: each row of YtmbdnhgmpmnhmaaDoorRows.lean that lists a variable, with what it lists TIED to the program's text (the seventh form; the later family's looks); each row that meets fmt, with fmt's text TOLD by the authors' own Lean function (tested against real Go, not proved from fmt's source: count such statements apart). THE CARD IS WHAT COUNTS. Prove the row's statement (the work); the ties are given (YtmbdnhgmpmnhmaaDoorTie.lean); close each card by the builder's one call (the guide's Derived/Test/ToyasCard.lean, 'card_holds'). Laid BY PROGRAM, IN A SANDBOX (cutbox-door.mjs). By AI agents, Wed Nov 11 2026. No macro, syntax, notation, axiom, sorry.
-/
import Derived.Test.YtmbdnhgmpmnhmaaDoorRows
import GoSem.ClaimSeven
namespace Go.Proofs.YtmbdnhgmpmnhmaaDoor
namespace Rows

/-- THE TIED CARD OF 'provostlaw16.HardyProof'. -/
def hardyProofCard : Claim7 := { stood := { row := hardyProofRow, standIns := [], harness := (true, "48d36b8bc39ac7796cb658b9981575465867d1a75eefef354acea0d9d4e1fd34"), looks := false }, kinds := [], alts := [], laidByText := true, laidKinds := [.data], laidTests := true, laidLooks := .later }
def HardyProofCardSaid : Prop := Claim7.holds Tryd.pinned (.plain (OpenSpec.ofChange hardyProofSpec)) hardyProofCard

/-- THE TIED CARD OF 'provostlaw16.HardyNeeded'. -/
def hardyNeededCard : Claim7 := { stood := { row := hardyNeededRow, standIns := [], harness := (true, "48d36b8bc39ac7796cb658b9981575465867d1a75eefef354acea0d9d4e1fd34"), looks := false }, kinds := [], alts := [], laidByText := true, laidKinds := [.data], laidTests := true, laidLooks := .later }
def HardyNeededCardSaid : Prop := Claim7.holds Tryd.pinned (.plain (OpenSpec.ofChange hardyNeededSpec)) hardyNeededCard

/-- THE SECOND FORM's CARD OF 'provostlaw16.HardyProof'. -/
def hardyProofUptoCard : Claim7 := { stood := { row := hardyProofUptoRow, standIns := [], harness := (true, "48d36b8bc39ac7796cb658b9981575465867d1a75eefef354acea0d9d4e1fd34"), looks := false }, kinds := [], alts := [], laidByText := true, laidKinds := [.data], laidTests := true, laidLooks := .later }
def HardyProofUptoCardSaid : Prop := Claim7.holds Tryd.pinned (.plain (OpenSpec.upto hardyProofSpec)) hardyProofUptoCard

/-- THE SECOND FORM's CARD OF 'provostlaw16.HardyNeeded'. -/
def hardyNeededUptoCard : Claim7 := { stood := { row := hardyNeededUptoRow, standIns := [], harness := (true, "48d36b8bc39ac7796cb658b9981575465867d1a75eefef354acea0d9d4e1fd34"), looks := false }, kinds := [], alts := [], laidByText := true, laidKinds := [.data], laidTests := true, laidLooks := .later }
def HardyNeededUptoCardSaid : Prop := Claim7.holds Tryd.pinned (.plain (OpenSpec.upto hardyNeededSpec)) hardyNeededUptoCard
end Rows
end Go.Proofs.YtmbdnhgmpmnhmaaDoor
