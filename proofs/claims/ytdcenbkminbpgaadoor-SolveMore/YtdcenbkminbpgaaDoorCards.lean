/-
  DERIVED. GIVEN WITH THE SEED: THE CARDS: each row of YtdcenbkminbpgaaDoorRows.lean that lists a variable, with what it lists TIED to the program's text (the seventh form; the later family's looks); each row that meets fmt, with fmt's text TOLD by the authors' own Lean function (tested against real Go, not proved from fmt's source: count such statements apart). THE CARD IS WHAT COUNTS. Prove the row's statement (the work); the ties are given (YtdcenbkminbpgaaDoorTie.lean); close each card by the builder's one call (the guide's Derived/Test/ToyasCard.lean, 'card_holds'). Laid BY PROGRAM, IN A SANDBOX (cutbox-door.mjs). By AI agents, Wed Nov 11 2026. No macro, syntax, notation, axiom, sorry.
-/
import Derived.Test.YtdcenbkminbpgaaDoorRows
import GoSem.ClaimSeven
namespace Go.Proofs.YtdcenbkminbpgaaDoor
namespace Rows

/-- THE TIED CARD OF 'provostlaw12.SolveMore'. -/
def solveMoreCard : Claim7 := { stood := { row := solveMoreRow, standIns := [], harness := (true, "a76d58492a8799e91940a1845fc79f6161c7fdc08e395f454307e87621616e34"), looks := false }, kinds := [], alts := [], laidByText := true, laidKinds := [.data], laidTests := true, laidLooks := .later }
def SolveMoreCardSaid : Prop := Claim7.holds Tryd.pinned (.plain (OpenSpec.ofChange solveMoreSpec)) solveMoreCard

/-- THE TIED CARD OF 'provostlaw15.CoreNeeded'. -/
def coreNeededCard : Claim7 := { stood := { row := coreNeededRow, standIns := [], harness := (true, "a76d58492a8799e91940a1845fc79f6161c7fdc08e395f454307e87621616e34"), looks := false }, kinds := [], alts := [], laidByText := true, laidKinds := [.data], laidTests := true, laidLooks := .later }
def CoreNeededCardSaid : Prop := Claim7.holds Tryd.pinned (.plain (OpenSpec.ofChange coreNeededSpec)) coreNeededCard

/-- THE TIED CARD OF 'provostlaw16.HardyProof'. -/
def hardyProofCard : Claim7 := { stood := { row := hardyProofRow, standIns := [], harness := (true, "a76d58492a8799e91940a1845fc79f6161c7fdc08e395f454307e87621616e34"), looks := false }, kinds := [], alts := [], laidByText := true, laidKinds := [.data], laidTests := true, laidLooks := .later }
def HardyProofCardSaid : Prop := Claim7.holds Tryd.pinned (.plain (OpenSpec.ofChange hardyProofSpec)) hardyProofCard

/-- THE TIED CARD OF 'provostlaw16.HardyNeeded'. -/
def hardyNeededCard : Claim7 := { stood := { row := hardyNeededRow, standIns := [], harness := (true, "a76d58492a8799e91940a1845fc79f6161c7fdc08e395f454307e87621616e34"), looks := false }, kinds := [], alts := [], laidByText := true, laidKinds := [.data], laidTests := true, laidLooks := .later }
def HardyNeededCardSaid : Prop := Claim7.holds Tryd.pinned (.plain (OpenSpec.ofChange hardyNeededSpec)) hardyNeededCard

/-- THE SECOND FORM's CARD OF 'provostlaw12.SolveMore'. -/
def solveMoreUptoCard : Claim7 := { stood := { row := solveMoreUptoRow, standIns := [], harness := (true, "a76d58492a8799e91940a1845fc79f6161c7fdc08e395f454307e87621616e34"), looks := false }, kinds := [], alts := [], laidByText := true, laidKinds := [.data], laidTests := true, laidLooks := .later }
def SolveMoreUptoCardSaid : Prop := Claim7.holds Tryd.pinned (.plain (OpenSpec.upto solveMoreSpec)) solveMoreUptoCard

/-- THE SECOND FORM's CARD OF 'provostlaw15.CoreNeeded'. -/
def coreNeededUptoCard : Claim7 := { stood := { row := coreNeededUptoRow, standIns := [], harness := (true, "a76d58492a8799e91940a1845fc79f6161c7fdc08e395f454307e87621616e34"), looks := false }, kinds := [], alts := [], laidByText := true, laidKinds := [.data], laidTests := true, laidLooks := .later }
def CoreNeededUptoCardSaid : Prop := Claim7.holds Tryd.pinned (.plain (OpenSpec.upto coreNeededSpec)) coreNeededUptoCard

/-- THE SECOND FORM's CARD OF 'provostlaw16.HardyProof'. -/
def hardyProofUptoCard : Claim7 := { stood := { row := hardyProofUptoRow, standIns := [], harness := (true, "a76d58492a8799e91940a1845fc79f6161c7fdc08e395f454307e87621616e34"), looks := false }, kinds := [], alts := [], laidByText := true, laidKinds := [.data], laidTests := true, laidLooks := .later }
def HardyProofUptoCardSaid : Prop := Claim7.holds Tryd.pinned (.plain (OpenSpec.upto hardyProofSpec)) hardyProofUptoCard

/-- THE SECOND FORM's CARD OF 'provostlaw16.HardyNeeded'. -/
def hardyNeededUptoCard : Claim7 := { stood := { row := hardyNeededUptoRow, standIns := [], harness := (true, "a76d58492a8799e91940a1845fc79f6161c7fdc08e395f454307e87621616e34"), looks := false }, kinds := [], alts := [], laidByText := true, laidKinds := [.data], laidTests := true, laidLooks := .later }
def HardyNeededUptoCardSaid : Prop := Claim7.holds Tryd.pinned (.plain (OpenSpec.upto hardyNeededSpec)) hardyNeededUptoCard
end Rows
end Go.Proofs.YtdcenbkminbpgaaDoor
