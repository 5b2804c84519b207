/-
  DERIVED. GIVEN WITH THE SEED: THE CARDS: each row of YtemaoijbjhonnaaDoorRows.lean that lists a variable, with what it lists TIED to the program's text (the seventh form; the later family's looks); each row that meets fmt, with fmt's text TOLD by the authors' own Lean function (tested against real Go, not proved from fmt's source: count such statements apart). THE CARD IS WHAT COUNTS. Prove the row's statement (the work); the ties are given (YtemaoijbjhonnaaDoorTie.lean); close each card by the builder's one call (the guide's Derived/Test/ToyasCard.lean, 'card_holds'). Laid BY PROGRAM, IN A SANDBOX (cutbox-door.mjs). By AI agents, Wed Nov 11 2026. No macro, syntax, notation, axiom, sorry.
-/
import Derived.Test.YtemaoijbjhonnaaDoorRows
import GoSem.ClaimSeven
namespace Go.Proofs.YtemaoijbjhonnaaDoor
namespace Rows

/-- THE TIED CARD OF 'provostlaw01.BitsChoose'. -/
def bitsChooseCard : Claim7 := { stood := { row := bitsChooseRow, standIns := [], harness := (true, "5c25abbf2aa73aebb40091d59ec1ccfd50f660e41f042e07f1d3fcc817d10f2a"), looks := false }, kinds := [], alts := [], laidByText := true, laidKinds := [.data, .data, .data], laidTests := true, laidLooks := .later }
def BitsChooseCardSaid : Prop := Claim7.holds Tryd.pinned (.plain (OpenSpec.ofChange bitsChooseSpec)) bitsChooseCard

/-- THE TIED CARD OF 'provostlaw01.BitsText'. -/
def bitsTextCard : Claim7 := { stood := { row := bitsTextRow, standIns := [], harness := (true, "5c25abbf2aa73aebb40091d59ec1ccfd50f660e41f042e07f1d3fcc817d10f2a"), looks := false }, kinds := [], alts := [], laidByText := true, laidKinds := [.data, .data, .data], laidTests := true, laidLooks := .later }
def BitsTextCardSaid : Prop := Claim7.holds Tryd.pinned (.plain (OpenSpec.ofChange bitsTextSpec)) bitsTextCard

/-- THE TIED CARD OF 'provostlaw01.BitsOwn'. -/
def bitsOwnCard : Claim7 := { stood := { row := bitsOwnRow, standIns := [], harness := (true, "5c25abbf2aa73aebb40091d59ec1ccfd50f660e41f042e07f1d3fcc817d10f2a"), looks := false }, kinds := [], alts := [], laidByText := true, laidKinds := [.data, .data, .data], laidTests := true, laidLooks := .later }
def BitsOwnCardSaid : Prop := Claim7.holds Tryd.pinned (.plain (OpenSpec.ofChange bitsOwnSpec)) bitsOwnCard

/-- THE SECOND FORM's CARD OF 'provostlaw01.BitsChoose'. -/
def bitsChooseUptoCard : Claim7 := { stood := { row := bitsChooseUptoRow, standIns := [], harness := (true, "5c25abbf2aa73aebb40091d59ec1ccfd50f660e41f042e07f1d3fcc817d10f2a"), looks := false }, kinds := [], alts := [], laidByText := true, laidKinds := [.data, .data, .data], laidTests := true, laidLooks := .later }
def BitsChooseUptoCardSaid : Prop := Claim7.holds Tryd.pinned (.plain (OpenSpec.upto bitsChooseSpec)) bitsChooseUptoCard

/-- THE SECOND FORM's CARD OF 'provostlaw01.BitsText'. -/
def bitsTextUptoCard : Claim7 := { stood := { row := bitsTextUptoRow, standIns := [], harness := (true, "5c25abbf2aa73aebb40091d59ec1ccfd50f660e41f042e07f1d3fcc817d10f2a"), looks := false }, kinds := [], alts := [], laidByText := true, laidKinds := [.data, .data, .data], laidTests := true, laidLooks := .later }
def BitsTextUptoCardSaid : Prop := Claim7.holds Tryd.pinned (.plain (OpenSpec.upto bitsTextSpec)) bitsTextUptoCard

/-- THE SECOND FORM's CARD OF 'provostlaw01.BitsOwn'. -/
def bitsOwnUptoCard : Claim7 := { stood := { row := bitsOwnUptoRow, standIns := [], harness := (true, "5c25abbf2aa73aebb40091d59ec1ccfd50f660e41f042e07f1d3fcc817d10f2a"), looks := false }, kinds := [], alts := [], laidByText := true, laidKinds := [.data, .data, .data], laidTests := true, laidLooks := .later }
def BitsOwnUptoCardSaid : Prop := Claim7.holds Tryd.pinned (.plain (OpenSpec.upto bitsOwnSpec)) bitsOwnUptoCard
end Rows
end Go.Proofs.YtemaoijbjhonnaaDoor
