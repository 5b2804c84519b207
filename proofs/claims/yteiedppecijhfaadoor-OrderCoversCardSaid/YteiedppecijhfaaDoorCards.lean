/-
  DERIVED. GIVEN WITH THE SEED: THE CARDS: each row of YteiedppecijhfaaDoorRows.lean that lists a variable, with what it lists TIED to the program's text (the seventh form; the later family's looks); each row that meets fmt, with fmt's text TOLD by the authors' own Lean function (tested against real Go, not proved from fmt's source: count such statements apart). THE CARD IS WHAT COUNTS. Prove the row's statement (the work); the ties are given (YteiedppecijhfaaDoorTie.lean); close each card by the builder's one call (the guide's Derived/Test/ToyasCard.lean, 'card_holds'). Laid BY PROGRAM, IN A SANDBOX (cutbox-door.mjs). By AI agents, Wed Nov 11 2026. No macro, syntax, notation, axiom, sorry.
-/
import Derived.Test.YteiedppecijhfaaDoorRows
import GoSem.ClaimSeven
namespace Go.Proofs.YteiedppecijhfaaDoor
namespace Rows

/-- THE TIED CARD OF 'provostlaw03.OrderExact'. -/
def orderExactCard : Claim7 := { stood := { row := orderExactRow, standIns := [], harness := (true, "635b192546ee0f2133a7bd86778bdba3494b4084e8481cc058c097bc46ff9717"), looks := true }, kinds := [], alts := [], laidByText := true, laidKinds := [.data], laidTests := true, laidLooks := .later }
def OrderExactCardSaid : Prop := Claim7.holds Tryd.pinned (.plain (OpenSpec.ofChange orderExactSpec)) orderExactCard

/-- THE TIED CARD OF 'provostlaw03.OrderRows'. -/
def orderRowsCard : Claim7 := { stood := { row := orderRowsRow, standIns := [], harness := (true, "635b192546ee0f2133a7bd86778bdba3494b4084e8481cc058c097bc46ff9717"), looks := true }, kinds := [], alts := [], laidByText := true, laidKinds := [.data], laidTests := true, laidLooks := .later }
def OrderRowsCardSaid : Prop := Claim7.holds Tryd.pinned (.plain (OpenSpec.ofChange orderRowsSpec)) orderRowsCard

/-- THE TIED CARD OF 'provostlaw03.OrderCovers'. -/
def orderCoversCard : Claim7 := { stood := { row := orderCoversRow, standIns := [], harness := (true, "635b192546ee0f2133a7bd86778bdba3494b4084e8481cc058c097bc46ff9717"), looks := true }, kinds := [], alts := [], laidByText := true, laidKinds := [.data], laidTests := true, laidLooks := .later }
def OrderCoversCardSaid : Prop := Claim7.holds Tryd.pinned (.plain (OpenSpec.ofChange orderCoversSpec)) orderCoversCard

/-- THE TIED CARD OF 'provostlaw03.OrderReady'. -/
def orderReadyCard : Claim7 := { stood := { row := orderReadyRow, standIns := [], harness := (true, "635b192546ee0f2133a7bd86778bdba3494b4084e8481cc058c097bc46ff9717"), looks := true }, kinds := [], alts := [], laidByText := true, laidKinds := [.data], laidTests := true, laidLooks := .later }
def OrderReadyCardSaid : Prop := Claim7.holds Tryd.pinned (.plain (OpenSpec.ofChange orderReadySpec)) orderReadyCard

/-- THE SECOND FORM's CARD OF 'provostlaw03.OrderExact'. -/
def orderExactUptoCard : Claim7 := { stood := { row := orderExactUptoRow, standIns := [], harness := (true, "635b192546ee0f2133a7bd86778bdba3494b4084e8481cc058c097bc46ff9717"), looks := true }, kinds := [], alts := [], laidByText := true, laidKinds := [.data], laidTests := true, laidLooks := .later }
def OrderExactUptoCardSaid : Prop := Claim7.holds Tryd.pinned (.plain (OpenSpec.upto orderExactSpec)) orderExactUptoCard

/-- THE SECOND FORM's CARD OF 'provostlaw03.OrderRows'. -/
def orderRowsUptoCard : Claim7 := { stood := { row := orderRowsUptoRow, standIns := [], harness := (true, "635b192546ee0f2133a7bd86778bdba3494b4084e8481cc058c097bc46ff9717"), looks := true }, kinds := [], alts := [], laidByText := true, laidKinds := [.data], laidTests := true, laidLooks := .later }
def OrderRowsUptoCardSaid : Prop := Claim7.holds Tryd.pinned (.plain (OpenSpec.upto orderRowsSpec)) orderRowsUptoCard

/-- THE SECOND FORM's CARD OF 'provostlaw03.OrderCovers'. -/
def orderCoversUptoCard : Claim7 := { stood := { row := orderCoversUptoRow, standIns := [], harness := (true, "635b192546ee0f2133a7bd86778bdba3494b4084e8481cc058c097bc46ff9717"), looks := true }, kinds := [], alts := [], laidByText := true, laidKinds := [.data], laidTests := true, laidLooks := .later }
def OrderCoversUptoCardSaid : Prop := Claim7.holds Tryd.pinned (.plain (OpenSpec.upto orderCoversSpec)) orderCoversUptoCard

/-- THE SECOND FORM's CARD OF 'provostlaw03.OrderReady'. -/
def orderReadyUptoCard : Claim7 := { stood := { row := orderReadyUptoRow, standIns := [], harness := (true, "635b192546ee0f2133a7bd86778bdba3494b4084e8481cc058c097bc46ff9717"), looks := true }, kinds := [], alts := [], laidByText := true, laidKinds := [.data], laidTests := true, laidLooks := .later }
def OrderReadyUptoCardSaid : Prop := Claim7.holds Tryd.pinned (.plain (OpenSpec.upto orderReadySpec)) orderReadyUptoCard
end Rows
end Go.Proofs.YteiedppecijhfaaDoor
