/-
  DERIVED. GIVEN WITH THE SEED: THE CARDS: each row of YtgfnfbbiojnhaaaDoorRows.lean that lists a variable, with what it lists TIED to the program's text (the seventh form; the later family's looks); each row that meets fmt, with fmt's text TOLD by the authors' own Lean function (tested against real Go, not proved from fmt's source: count such statements apart). THE CARD IS WHAT COUNTS. Prove the row's statement (the work); the ties are given (YtgfnfbbiojnhaaaDoorTie.lean); close each card by the builder's one call (the guide's Derived/Test/ToyasCard.lean, 'card_holds'). Laid BY PROGRAM, IN A SANDBOX (cutbox-door.mjs). By AI agents, Wed Nov 11 2026. No macro, syntax, notation, axiom, sorry.
-/
import Derived.Test.YtgfnfbbiojnhaaaDoorRows
import GoSem.ClaimSeven
namespace Go.Proofs.YtgfnfbbiojnhaaaDoor
namespace Rows

/-- THE TIED CARD OF 'provostlaw21.ImageWrite'. -/
def imageWriteCard : Claim7 := { stood := { row := imageWriteRow, standIns := [], harness := (true, "d487d2e1d4564c9d01c8d64bbb05dbe8b721712cab86828156788024c1857293"), looks := false }, kinds := [], alts := [], laidByText := true, laidKinds := [.data, .data], laidTests := true, laidLooks := .later }
def ImageWriteCardSaid : Prop := Claim7.holds Tryd.pinned (.plain (OpenSpec.ofChange imageWriteSpec)) imageWriteCard

/-- THE TIED CARD OF 'provostlaw21.ImageRead'. -/
def imageReadCard : Claim7 := { stood := { row := imageReadRow, standIns := [], harness := (true, "d487d2e1d4564c9d01c8d64bbb05dbe8b721712cab86828156788024c1857293"), looks := false }, kinds := [], alts := [], laidByText := true, laidKinds := [.data, .data], laidTests := true, laidLooks := .later }
def ImageReadCardSaid : Prop := Claim7.holds Tryd.pinned (.plain (OpenSpec.ofChange imageReadSpec)) imageReadCard

/-- THE TIED CARD OF 'provostlaw21.ImageBack'. -/
def imageBackCard : Claim7 := { stood := { row := imageBackRow, standIns := [], harness := (true, "d487d2e1d4564c9d01c8d64bbb05dbe8b721712cab86828156788024c1857293"), looks := false }, kinds := [], alts := [], laidByText := true, laidKinds := [.data, .data], laidTests := true, laidLooks := .later }
def ImageBackCardSaid : Prop := Claim7.holds Tryd.pinned (.plain (OpenSpec.ofChange imageBackSpec)) imageBackCard

/-- THE TIED CARD OF 'provostlaw21.ImageOwn'. -/
def imageOwnCard : Claim7 := { stood := { row := imageOwnRow, standIns := [], harness := (true, "d487d2e1d4564c9d01c8d64bbb05dbe8b721712cab86828156788024c1857293"), looks := false }, kinds := [], alts := [], laidByText := true, laidKinds := [.data, .data], laidTests := true, laidLooks := .later }
def ImageOwnCardSaid : Prop := Claim7.holds Tryd.pinned (.plain (OpenSpec.ofChange imageOwnSpec)) imageOwnCard

/-- THE SECOND FORM's CARD OF 'provostlaw21.ImageWrite'. -/
def imageWriteUptoCard : Claim7 := { stood := { row := imageWriteUptoRow, standIns := [], harness := (true, "d487d2e1d4564c9d01c8d64bbb05dbe8b721712cab86828156788024c1857293"), looks := false }, kinds := [], alts := [], laidByText := true, laidKinds := [.data, .data], laidTests := true, laidLooks := .later }
def ImageWriteUptoCardSaid : Prop := Claim7.holds Tryd.pinned (.plain (OpenSpec.upto imageWriteSpec)) imageWriteUptoCard

/-- THE SECOND FORM's CARD OF 'provostlaw21.ImageRead'. -/
def imageReadUptoCard : Claim7 := { stood := { row := imageReadUptoRow, standIns := [], harness := (true, "d487d2e1d4564c9d01c8d64bbb05dbe8b721712cab86828156788024c1857293"), looks := false }, kinds := [], alts := [], laidByText := true, laidKinds := [.data, .data], laidTests := true, laidLooks := .later }
def ImageReadUptoCardSaid : Prop := Claim7.holds Tryd.pinned (.plain (OpenSpec.upto imageReadSpec)) imageReadUptoCard

/-- THE SECOND FORM's CARD OF 'provostlaw21.ImageBack'. -/
def imageBackUptoCard : Claim7 := { stood := { row := imageBackUptoRow, standIns := [], harness := (true, "d487d2e1d4564c9d01c8d64bbb05dbe8b721712cab86828156788024c1857293"), looks := false }, kinds := [], alts := [], laidByText := true, laidKinds := [.data, .data], laidTests := true, laidLooks := .later }
def ImageBackUptoCardSaid : Prop := Claim7.holds Tryd.pinned (.plain (OpenSpec.upto imageBackSpec)) imageBackUptoCard

/-- THE SECOND FORM's CARD OF 'provostlaw21.ImageOwn'. -/
def imageOwnUptoCard : Claim7 := { stood := { row := imageOwnUptoRow, standIns := [], harness := (true, "d487d2e1d4564c9d01c8d64bbb05dbe8b721712cab86828156788024c1857293"), looks := false }, kinds := [], alts := [], laidByText := true, laidKinds := [.data, .data], laidTests := true, laidLooks := .later }
def ImageOwnUptoCardSaid : Prop := Claim7.holds Tryd.pinned (.plain (OpenSpec.upto imageOwnSpec)) imageOwnUptoCard
end Rows
end Go.Proofs.YtgfnfbbiojnhaaaDoor
