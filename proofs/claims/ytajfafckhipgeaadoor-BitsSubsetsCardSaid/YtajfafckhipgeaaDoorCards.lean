/-
  DERIVED. GIVEN WITH THE SEED: THE CARDS: each row of YtajfafckhipgeaaDoorRows.lean that lists a variable, with what it lists TIED to the program's text (the seventh form; the later family's looks); each row that meets fmt, with fmt's text TOLD by the authors' own Lean function (tested against real Go, not proved from fmt's source: count such statements apart). THE CARD IS WHAT COUNTS. Prove the row's statement (the work); the ties are given (YtajfafckhipgeaaDoorTie.lean); close each card by the builder's one call (the guide's Derived/Test/ToyasCard.lean, 'card_holds'). Laid BY PROGRAM, IN A SANDBOX (cutbox-door.mjs). By AI agents, Wed Nov 11 2026. No macro, syntax, notation, axiom, sorry.
-/
import Derived.Test.YtajfafckhipgeaaDoorRows
import GoSem.ClaimSeven
namespace Go.Proofs.YtajfafckhipgeaaDoor
namespace Rows

/-- THE TIED CARD OF 'provostlaw01.BitsTwo'. -/
def bitsTwoCard : Claim7 := { stood := { row := bitsTwoRow, standIns := [], harness := (true, "44bd629bebc2cfbd73f2b218ab64671457ee3368a3bd65e38a3cb2eb084f72bb"), looks := false }, kinds := [], alts := [], laidByText := true, laidKinds := [.data, .data, .data], laidTests := true, laidLooks := .later }
def BitsTwoCardSaid : Prop := Claim7.holds Tryd.pinned (.plain (OpenSpec.ofChange bitsTwoSpec)) bitsTwoCard

/-- THE TIED CARD OF 'provostlaw01.BitsRank'. -/
def bitsRankCard : Claim7 := { stood := { row := bitsRankRow, standIns := [], harness := (true, "44bd629bebc2cfbd73f2b218ab64671457ee3368a3bd65e38a3cb2eb084f72bb"), looks := false }, kinds := [], alts := [], laidByText := true, laidKinds := [.data, .data, .data], laidTests := true, laidLooks := .later }
def BitsRankCardSaid : Prop := Claim7.holds Tryd.pinned (.plain (OpenSpec.ofChange bitsRankSpec)) bitsRankCard

/-- THE TIED CARD OF 'provostlaw01.BitsAll'. -/
def bitsAllCard : Claim7 := { stood := { row := bitsAllRow, standIns := [], harness := (true, "44bd629bebc2cfbd73f2b218ab64671457ee3368a3bd65e38a3cb2eb084f72bb"), looks := false }, kinds := [], alts := [], laidByText := true, laidKinds := [.data, .data, .data], laidTests := true, laidLooks := .later }
def BitsAllCardSaid : Prop := Claim7.holds Tryd.pinned (.plain (OpenSpec.ofChange bitsAllSpec)) bitsAllCard

/-- THE TIED CARD OF 'provostlaw01.BitsDown'. -/
def bitsDownCard : Claim7 := { stood := { row := bitsDownRow, standIns := [], harness := (true, "44bd629bebc2cfbd73f2b218ab64671457ee3368a3bd65e38a3cb2eb084f72bb"), looks := false }, kinds := [], alts := [], laidByText := true, laidKinds := [.data, .data, .data], laidTests := true, laidLooks := .later }
def BitsDownCardSaid : Prop := Claim7.holds Tryd.pinned (.plain (OpenSpec.ofChange bitsDownSpec)) bitsDownCard

/-- THE TIED CARD OF 'provostlaw01.BitsSubsets'. -/
def bitsSubsetsCard : Claim7 := { stood := { row := bitsSubsetsRow, standIns := [], harness := (true, "44bd629bebc2cfbd73f2b218ab64671457ee3368a3bd65e38a3cb2eb084f72bb"), looks := false }, kinds := [], alts := [], laidByText := true, laidKinds := [.data, .data, .data], laidTests := true, laidLooks := .later }
def BitsSubsetsCardSaid : Prop := Claim7.holds Tryd.pinned (.plain (OpenSpec.ofChange bitsSubsetsSpec)) bitsSubsetsCard

/-- THE SECOND FORM's CARD OF 'provostlaw01.BitsTwo'. -/
def bitsTwoUptoCard : Claim7 := { stood := { row := bitsTwoUptoRow, standIns := [], harness := (true, "44bd629bebc2cfbd73f2b218ab64671457ee3368a3bd65e38a3cb2eb084f72bb"), looks := false }, kinds := [], alts := [], laidByText := true, laidKinds := [.data, .data, .data], laidTests := true, laidLooks := .later }
def BitsTwoUptoCardSaid : Prop := Claim7.holds Tryd.pinned (.plain (OpenSpec.upto bitsTwoSpec)) bitsTwoUptoCard

/-- THE SECOND FORM's CARD OF 'provostlaw01.BitsRank'. -/
def bitsRankUptoCard : Claim7 := { stood := { row := bitsRankUptoRow, standIns := [], harness := (true, "44bd629bebc2cfbd73f2b218ab64671457ee3368a3bd65e38a3cb2eb084f72bb"), looks := false }, kinds := [], alts := [], laidByText := true, laidKinds := [.data, .data, .data], laidTests := true, laidLooks := .later }
def BitsRankUptoCardSaid : Prop := Claim7.holds Tryd.pinned (.plain (OpenSpec.upto bitsRankSpec)) bitsRankUptoCard

/-- THE SECOND FORM's CARD OF 'provostlaw01.BitsAll'. -/
def bitsAllUptoCard : Claim7 := { stood := { row := bitsAllUptoRow, standIns := [], harness := (true, "44bd629bebc2cfbd73f2b218ab64671457ee3368a3bd65e38a3cb2eb084f72bb"), looks := false }, kinds := [], alts := [], laidByText := true, laidKinds := [.data, .data, .data], laidTests := true, laidLooks := .later }
def BitsAllUptoCardSaid : Prop := Claim7.holds Tryd.pinned (.plain (OpenSpec.upto bitsAllSpec)) bitsAllUptoCard

/-- THE SECOND FORM's CARD OF 'provostlaw01.BitsDown'. -/
def bitsDownUptoCard : Claim7 := { stood := { row := bitsDownUptoRow, standIns := [], harness := (true, "44bd629bebc2cfbd73f2b218ab64671457ee3368a3bd65e38a3cb2eb084f72bb"), looks := false }, kinds := [], alts := [], laidByText := true, laidKinds := [.data, .data, .data], laidTests := true, laidLooks := .later }
def BitsDownUptoCardSaid : Prop := Claim7.holds Tryd.pinned (.plain (OpenSpec.upto bitsDownSpec)) bitsDownUptoCard

/-- THE SECOND FORM's CARD OF 'provostlaw01.BitsSubsets'. -/
def bitsSubsetsUptoCard : Claim7 := { stood := { row := bitsSubsetsUptoRow, standIns := [], harness := (true, "44bd629bebc2cfbd73f2b218ab64671457ee3368a3bd65e38a3cb2eb084f72bb"), looks := false }, kinds := [], alts := [], laidByText := true, laidKinds := [.data, .data, .data], laidTests := true, laidLooks := .later }
def BitsSubsetsUptoCardSaid : Prop := Claim7.holds Tryd.pinned (.plain (OpenSpec.upto bitsSubsetsSpec)) bitsSubsetsUptoCard
end Rows
end Go.Proofs.YtajfafckhipgeaaDoor
