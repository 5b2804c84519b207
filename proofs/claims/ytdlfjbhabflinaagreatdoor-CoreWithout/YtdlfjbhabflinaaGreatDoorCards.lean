/-
  DERIVED. GIVEN WITH THE SEED: THE CARDS: each row of YtdlfjbhabflinaaGreatDoorRows.lean that lists a variable, with what it lists TIED to the program's text (the seventh form; the later family's looks); each row that meets fmt, with fmt's text TOLD by the authors' own Lean function (tested against real Go, not proved from fmt's source: count such statements apart). THE CARD IS WHAT COUNTS. Prove the row's statement (the work); the ties are given (YtdlfjbhabflinaaGreatDoorTie.lean); close each card by the builder's one call (the guide's Derived/Test/ToyasCard.lean, 'card_holds'). Laid BY PROGRAM, IN A SANDBOX (cutbox-door.mjs). By AI agents, Wed Nov 11 2026. No macro, syntax, notation, axiom, sorry.
-/
import Derived.Test.YtdlfjbhabflinaaGreatDoorRows
import GoSem.ClaimSeven
namespace Go.Proofs.YtdlfjbhabflinaaGreatDoor
namespace Rows

/-- THE TIED CARD OF 'provostlaw15.CoreWhy'. -/
def coreWhyCard : Claim7 := { stood := { row := coreWhyRow, standIns := [], harness := (true, "8ff31ef731e3a58270e5acd85eb88742a33b35db24e1c8b374fff399d5e5f519"), looks := false }, kinds := [], alts := [], laidByText := true, laidKinds := [.data], laidTests := true, laidLooks := .later }
def CoreWhyCardSaid : Prop := Claim7.holds Tryz.pinned (.plain (OpenSpec.ofChange coreWhySpec)) coreWhyCard

/-- THE TIED CARD OF 'provostlaw15.CoreWithout'. -/
def coreWithoutCard : Claim7 := { stood := { row := coreWithoutRow, standIns := [], harness := (true, "8ff31ef731e3a58270e5acd85eb88742a33b35db24e1c8b374fff399d5e5f519"), looks := false }, kinds := [], alts := [], laidByText := true, laidKinds := [.data], laidTests := true, laidLooks := .later }
def CoreWithoutCardSaid : Prop := Claim7.holds Tryz.pinned (.plain (OpenSpec.ofChange coreWithoutSpec)) coreWithoutCard

/-- THE TIED CARD OF 'provostlaw15.CoreOwn'. -/
def coreOwnCard : Claim7 := { stood := { row := coreOwnRow, standIns := [], harness := (true, "8ff31ef731e3a58270e5acd85eb88742a33b35db24e1c8b374fff399d5e5f519"), looks := false }, kinds := [], alts := [], laidByText := true, laidKinds := [.data], laidTests := true, laidLooks := .later }
def CoreOwnCardSaid : Prop := Claim7.holds Tryz.pinned (.plain (OpenSpec.ofChange coreOwnSpec)) coreOwnCard

/-- THE TIED CARD OF 'provostlaw16.HardyLose'. -/
def hardyLoseCard : Claim7 := { stood := { row := hardyLoseRow, standIns := [], harness := (true, "8ff31ef731e3a58270e5acd85eb88742a33b35db24e1c8b374fff399d5e5f519"), looks := false }, kinds := [], alts := [], laidByText := true, laidKinds := [.data], laidTests := true, laidLooks := .later }
def HardyLoseCardSaid : Prop := Claim7.holds Tryz.pinned (.plain (OpenSpec.ofChange hardyLoseSpec)) hardyLoseCard

/-- THE TIED CARD OF 'provostlaw16.HardyWeak'. -/
def hardyWeakCard : Claim7 := { stood := { row := hardyWeakRow, standIns := [], harness := (true, "8ff31ef731e3a58270e5acd85eb88742a33b35db24e1c8b374fff399d5e5f519"), looks := false }, kinds := [], alts := [], laidByText := true, laidKinds := [.data], laidTests := true, laidLooks := .later }
def HardyWeakCardSaid : Prop := Claim7.holds Tryz.pinned (.plain (OpenSpec.ofChange hardyWeakSpec)) hardyWeakCard

/-- THE TIED CARD OF 'provostlaw16.HardyGrade'. -/
def hardyGradeCard : Claim7 := { stood := { row := hardyGradeRow, standIns := [], harness := (true, "8ff31ef731e3a58270e5acd85eb88742a33b35db24e1c8b374fff399d5e5f519"), looks := false }, kinds := [], alts := [], laidByText := true, laidKinds := [.data], laidTests := true, laidLooks := .later }
def HardyGradeCardSaid : Prop := Claim7.holds Tryz.pinned (.plain (OpenSpec.ofChange hardyGradeSpec)) hardyGradeCard

/-- THE SECOND FORM's CARD OF 'provostlaw15.CoreWhy'. -/
def coreWhyUptoCard : Claim7 := { stood := { row := coreWhyUptoRow, standIns := [], harness := (true, "8ff31ef731e3a58270e5acd85eb88742a33b35db24e1c8b374fff399d5e5f519"), looks := false }, kinds := [], alts := [], laidByText := true, laidKinds := [.data], laidTests := true, laidLooks := .later }
def CoreWhyUptoCardSaid : Prop := Claim7.holds Tryz.pinned (.plain (OpenSpec.upto coreWhySpec)) coreWhyUptoCard

/-- THE SECOND FORM's CARD OF 'provostlaw15.CoreWithout'. -/
def coreWithoutUptoCard : Claim7 := { stood := { row := coreWithoutUptoRow, standIns := [], harness := (true, "8ff31ef731e3a58270e5acd85eb88742a33b35db24e1c8b374fff399d5e5f519"), looks := false }, kinds := [], alts := [], laidByText := true, laidKinds := [.data], laidTests := true, laidLooks := .later }
def CoreWithoutUptoCardSaid : Prop := Claim7.holds Tryz.pinned (.plain (OpenSpec.upto coreWithoutSpec)) coreWithoutUptoCard

/-- THE SECOND FORM's CARD OF 'provostlaw15.CoreOwn'. -/
def coreOwnUptoCard : Claim7 := { stood := { row := coreOwnUptoRow, standIns := [], harness := (true, "8ff31ef731e3a58270e5acd85eb88742a33b35db24e1c8b374fff399d5e5f519"), looks := false }, kinds := [], alts := [], laidByText := true, laidKinds := [.data], laidTests := true, laidLooks := .later }
def CoreOwnUptoCardSaid : Prop := Claim7.holds Tryz.pinned (.plain (OpenSpec.upto coreOwnSpec)) coreOwnUptoCard

/-- THE SECOND FORM's CARD OF 'provostlaw16.HardyLose'. -/
def hardyLoseUptoCard : Claim7 := { stood := { row := hardyLoseUptoRow, standIns := [], harness := (true, "8ff31ef731e3a58270e5acd85eb88742a33b35db24e1c8b374fff399d5e5f519"), looks := false }, kinds := [], alts := [], laidByText := true, laidKinds := [.data], laidTests := true, laidLooks := .later }
def HardyLoseUptoCardSaid : Prop := Claim7.holds Tryz.pinned (.plain (OpenSpec.upto hardyLoseSpec)) hardyLoseUptoCard

/-- THE SECOND FORM's CARD OF 'provostlaw16.HardyWeak'. -/
def hardyWeakUptoCard : Claim7 := { stood := { row := hardyWeakUptoRow, standIns := [], harness := (true, "8ff31ef731e3a58270e5acd85eb88742a33b35db24e1c8b374fff399d5e5f519"), looks := false }, kinds := [], alts := [], laidByText := true, laidKinds := [.data], laidTests := true, laidLooks := .later }
def HardyWeakUptoCardSaid : Prop := Claim7.holds Tryz.pinned (.plain (OpenSpec.upto hardyWeakSpec)) hardyWeakUptoCard

/-- THE SECOND FORM's CARD OF 'provostlaw16.HardyGrade'. -/
def hardyGradeUptoCard : Claim7 := { stood := { row := hardyGradeUptoRow, standIns := [], harness := (true, "8ff31ef731e3a58270e5acd85eb88742a33b35db24e1c8b374fff399d5e5f519"), looks := false }, kinds := [], alts := [], laidByText := true, laidKinds := [.data], laidTests := true, laidLooks := .later }
def HardyGradeUptoCardSaid : Prop := Claim7.holds Tryz.pinned (.plain (OpenSpec.upto hardyGradeSpec)) hardyGradeUptoCard
end Rows
end Go.Proofs.YtdlfjbhabflinaaGreatDoor
