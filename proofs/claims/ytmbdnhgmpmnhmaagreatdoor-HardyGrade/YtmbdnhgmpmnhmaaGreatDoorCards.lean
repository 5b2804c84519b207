/-
  DERIVED. GIVEN WITH THE SEED: THE CARDS: each row of YtmbdnhgmpmnhmaaGreatDoorRows.lean that lists a variable, with what it lists TIED to the program's text (the seventh form; the later family's looks); each row that meets fmt, with fmt's text TOLD by the authors' own Lean function (tested against real Go, not proved from fmt's source: count such statements apart). THE CARD IS WHAT COUNTS. Prove the row's statement (the work); the ties are given (YtmbdnhgmpmnhmaaGreatDoorTie.lean); close each card by the builder's one call (the guide's Derived/Test/ToyasCard.lean, 'card_holds'). Laid BY PROGRAM, IN A SANDBOX (cutbox-door.mjs). By AI agents, Wed Nov 11 2026. No macro, syntax, notation, axiom, sorry.
-/
import Derived.Test.YtmbdnhgmpmnhmaaGreatDoorRows
import GoSem.ClaimSeven
namespace Go.Proofs.YtmbdnhgmpmnhmaaGreatDoor
namespace Rows

/-- THE TIED CARD OF 'provostlaw16.HardyLose'. -/
def hardyLoseCard : Claim7 := { stood := { row := hardyLoseRow, standIns := [], harness := (true, "c21f3703230d4924aaa5d9accd272a265c496b8cf63e1ab73744aa098f6c383d"), looks := false }, kinds := [], alts := [], laidByText := true, laidKinds := [.data], laidTests := true, laidLooks := .later }
def HardyLoseCardSaid : Prop := Claim7.holds Tryz.pinned (.plain (OpenSpec.ofChange hardyLoseSpec)) hardyLoseCard

/-- THE TIED CARD OF 'provostlaw16.HardyWeak'. -/
def hardyWeakCard : Claim7 := { stood := { row := hardyWeakRow, standIns := [], harness := (true, "c21f3703230d4924aaa5d9accd272a265c496b8cf63e1ab73744aa098f6c383d"), looks := false }, kinds := [], alts := [], laidByText := true, laidKinds := [.data], laidTests := true, laidLooks := .later }
def HardyWeakCardSaid : Prop := Claim7.holds Tryz.pinned (.plain (OpenSpec.ofChange hardyWeakSpec)) hardyWeakCard

/-- THE TIED CARD OF 'provostlaw16.HardyGrade'. -/
def hardyGradeCard : Claim7 := { stood := { row := hardyGradeRow, standIns := [], harness := (true, "c21f3703230d4924aaa5d9accd272a265c496b8cf63e1ab73744aa098f6c383d"), looks := false }, kinds := [], alts := [], laidByText := true, laidKinds := [.data], laidTests := true, laidLooks := .later }
def HardyGradeCardSaid : Prop := Claim7.holds Tryz.pinned (.plain (OpenSpec.ofChange hardyGradeSpec)) hardyGradeCard

/-- THE SECOND FORM's CARD OF 'provostlaw16.HardyLose'. -/
def hardyLoseUptoCard : Claim7 := { stood := { row := hardyLoseUptoRow, standIns := [], harness := (true, "c21f3703230d4924aaa5d9accd272a265c496b8cf63e1ab73744aa098f6c383d"), looks := false }, kinds := [], alts := [], laidByText := true, laidKinds := [.data], laidTests := true, laidLooks := .later }
def HardyLoseUptoCardSaid : Prop := Claim7.holds Tryz.pinned (.plain (OpenSpec.upto hardyLoseSpec)) hardyLoseUptoCard

/-- THE SECOND FORM's CARD OF 'provostlaw16.HardyWeak'. -/
def hardyWeakUptoCard : Claim7 := { stood := { row := hardyWeakUptoRow, standIns := [], harness := (true, "c21f3703230d4924aaa5d9accd272a265c496b8cf63e1ab73744aa098f6c383d"), looks := false }, kinds := [], alts := [], laidByText := true, laidKinds := [.data], laidTests := true, laidLooks := .later }
def HardyWeakUptoCardSaid : Prop := Claim7.holds Tryz.pinned (.plain (OpenSpec.upto hardyWeakSpec)) hardyWeakUptoCard

/-- THE SECOND FORM's CARD OF 'provostlaw16.HardyGrade'. -/
def hardyGradeUptoCard : Claim7 := { stood := { row := hardyGradeUptoRow, standIns := [], harness := (true, "c21f3703230d4924aaa5d9accd272a265c496b8cf63e1ab73744aa098f6c383d"), looks := false }, kinds := [], alts := [], laidByText := true, laidKinds := [.data], laidTests := true, laidLooks := .later }
def HardyGradeUptoCardSaid : Prop := Claim7.holds Tryz.pinned (.plain (OpenSpec.upto hardyGradeSpec)) hardyGradeUptoCard
end Rows
end Go.Proofs.YtmbdnhgmpmnhmaaGreatDoor
