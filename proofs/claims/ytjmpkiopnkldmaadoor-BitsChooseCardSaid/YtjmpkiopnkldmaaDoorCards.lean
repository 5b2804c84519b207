/-
  DERIVED. GIVEN WITH THE SEED: THE CARDS: each row of YtjmpkiopnkldmaaDoorRows.lean that lists a variable, with what it lists TIED to the program's text (the seventh form; the later family's looks); each row that meets fmt, with fmt's text TOLD by the authors' own Lean function (tested against real Go, not proved from fmt's source: count such statements apart). THE CARD IS WHAT COUNTS. Prove the row's statement (the work); the ties are given (YtjmpkiopnkldmaaDoorTie.lean); close each card by the builder's one call (the guide's Derived/Test/ToyasCard.lean, 'card_holds'). Laid BY PROGRAM, IN A SANDBOX (cutbox-door.mjs). By AI agents, Wed Nov 11 2026. No macro, syntax, notation, axiom, sorry.
-/
import Derived.Test.YtjmpkiopnkldmaaDoorRows
import GoSem.ClaimSeven
namespace Go.Proofs.YtjmpkiopnkldmaaDoor
namespace Rows

/-- THE TIED CARD OF 'provostlaw01.BitsChoose'. -/
def bitsChooseCard : Claim7 := { stood := { row := bitsChooseRow, standIns := [], harness := (true, "b5f17b11316fe0b49e80a7d4fb1da6ed29463a6ab370f98ddcda84ae97d19a56"), looks := false }, kinds := [], alts := [], laidByText := true, laidKinds := [.data, .data, .data], laidTests := true, laidLooks := .later }
def BitsChooseCardSaid : Prop := Claim7.holds Tryd.pinned (.plain (OpenSpec.ofChange bitsChooseSpec)) bitsChooseCard

/-- THE SECOND FORM's CARD OF 'provostlaw01.BitsChoose'. -/
def bitsChooseUptoCard : Claim7 := { stood := { row := bitsChooseUptoRow, standIns := [], harness := (true, "b5f17b11316fe0b49e80a7d4fb1da6ed29463a6ab370f98ddcda84ae97d19a56"), looks := false }, kinds := [], alts := [], laidByText := true, laidKinds := [.data, .data, .data], laidTests := true, laidLooks := .later }
def BitsChooseUptoCardSaid : Prop := Claim7.holds Tryd.pinned (.plain (OpenSpec.upto bitsChooseSpec)) bitsChooseUptoCard
end Rows
end Go.Proofs.YtjmpkiopnkldmaaDoor
