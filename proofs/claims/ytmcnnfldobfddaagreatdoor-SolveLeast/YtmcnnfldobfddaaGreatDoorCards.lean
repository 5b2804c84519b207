/-
  DERIVED. GIVEN WITH THE SEED: THE CARDS: each row of YtmcnnfldobfddaaGreatDoorRows.lean that lists a variable, with what it lists TIED to the program's text (the seventh form; the later family's looks); each row that meets fmt, with fmt's text TOLD by the authors' own Lean function (tested against real Go, not proved from fmt's source: count such statements apart). THE CARD IS WHAT COUNTS. Prove the row's statement (the work); the ties are given (YtmcnnfldobfddaaGreatDoorTie.lean); close each card by the builder's one call (the guide's Derived/Test/ToyasCard.lean, 'card_holds'). Laid BY PROGRAM, IN A SANDBOX (cutbox-door.mjs). By AI agents, Wed Nov 11 2026. No macro, syntax, notation, axiom, sorry.
-/
import Derived.Test.YtmcnnfldobfddaaGreatDoorRows
import GoSem.ClaimSeven
namespace Go.Proofs.YtmcnnfldobfddaaGreatDoor
namespace Rows

/-- THE TIED CARD OF 'provostlaw12.SolveLeast'. -/
def solveLeastCard : Claim7 := { stood := { row := solveLeastRow, standIns := [], harness := (true, "b79f178c8cfc8647b592307cb4e25919f29858977cef7296c265ba5a75ac85b1"), looks := false }, kinds := [], alts := [], laidByText := true, laidKinds := [.data], laidTests := true, laidLooks := .later }
def SolveLeastCardSaid : Prop := Claim7.holds Tryz.pinned (.plain (OpenSpec.ofChange solveLeastSpec)) solveLeastCard

/-- THE TIED CARD OF 'provostlaw18.GateExact'. -/
def gateExactCard : Claim7 := { stood := { row := gateExactRow, standIns := [], harness := (true, "b79f178c8cfc8647b592307cb4e25919f29858977cef7296c265ba5a75ac85b1"), looks := false }, kinds := [], alts := [], laidByText := true, laidKinds := [.data], laidTests := true, laidLooks := .later }
def GateExactCardSaid : Prop := Claim7.holds Tryz.pinned (.plain (OpenSpec.ofChange gateExactSpec)) gateExactCard

/-- THE TIED CARD OF 'provostlaw18.GateFresh'. -/
def gateFreshCard : Claim7 := { stood := { row := gateFreshRow, standIns := [], harness := (true, "b79f178c8cfc8647b592307cb4e25919f29858977cef7296c265ba5a75ac85b1"), looks := false }, kinds := [], alts := [], laidByText := true, laidKinds := [.data], laidTests := true, laidLooks := .later }
def GateFreshCardSaid : Prop := Claim7.holds Tryz.pinned (.plain (OpenSpec.ofChange gateFreshSpec)) gateFreshCard

/-- THE TIED CARD OF 'provostlaw18.GateGauge'. -/
def gateGaugeCard : Claim7 := { stood := { row := gateGaugeRow, standIns := [], harness := (true, "b79f178c8cfc8647b592307cb4e25919f29858977cef7296c265ba5a75ac85b1"), looks := false }, kinds := [], alts := [], laidByText := true, laidKinds := [.data], laidTests := true, laidLooks := .later }
def GateGaugeCardSaid : Prop := Claim7.holds Tryz.pinned (.plain (OpenSpec.ofChange gateGaugeSpec)) gateGaugeCard

/-- THE TIED CARD OF 'provostlaw18.GateOwn'. -/
def gateOwnCard : Claim7 := { stood := { row := gateOwnRow, standIns := [], harness := (true, "b79f178c8cfc8647b592307cb4e25919f29858977cef7296c265ba5a75ac85b1"), looks := false }, kinds := [], alts := [], laidByText := true, laidKinds := [.data], laidTests := true, laidLooks := .later }
def GateOwnCardSaid : Prop := Claim7.holds Tryz.pinned (.plain (OpenSpec.ofChange gateOwnSpec)) gateOwnCard

/-- THE SECOND FORM's CARD OF 'provostlaw12.SolveLeast'. -/
def solveLeastUptoCard : Claim7 := { stood := { row := solveLeastUptoRow, standIns := [], harness := (true, "b79f178c8cfc8647b592307cb4e25919f29858977cef7296c265ba5a75ac85b1"), looks := false }, kinds := [], alts := [], laidByText := true, laidKinds := [.data], laidTests := true, laidLooks := .later }
def SolveLeastUptoCardSaid : Prop := Claim7.holds Tryz.pinned (.plain (OpenSpec.upto solveLeastSpec)) solveLeastUptoCard

/-- THE SECOND FORM's CARD OF 'provostlaw18.GateExact'. -/
def gateExactUptoCard : Claim7 := { stood := { row := gateExactUptoRow, standIns := [], harness := (true, "b79f178c8cfc8647b592307cb4e25919f29858977cef7296c265ba5a75ac85b1"), looks := false }, kinds := [], alts := [], laidByText := true, laidKinds := [.data], laidTests := true, laidLooks := .later }
def GateExactUptoCardSaid : Prop := Claim7.holds Tryz.pinned (.plain (OpenSpec.upto gateExactSpec)) gateExactUptoCard

/-- THE SECOND FORM's CARD OF 'provostlaw18.GateFresh'. -/
def gateFreshUptoCard : Claim7 := { stood := { row := gateFreshUptoRow, standIns := [], harness := (true, "b79f178c8cfc8647b592307cb4e25919f29858977cef7296c265ba5a75ac85b1"), looks := false }, kinds := [], alts := [], laidByText := true, laidKinds := [.data], laidTests := true, laidLooks := .later }
def GateFreshUptoCardSaid : Prop := Claim7.holds Tryz.pinned (.plain (OpenSpec.upto gateFreshSpec)) gateFreshUptoCard

/-- THE SECOND FORM's CARD OF 'provostlaw18.GateGauge'. -/
def gateGaugeUptoCard : Claim7 := { stood := { row := gateGaugeUptoRow, standIns := [], harness := (true, "b79f178c8cfc8647b592307cb4e25919f29858977cef7296c265ba5a75ac85b1"), looks := false }, kinds := [], alts := [], laidByText := true, laidKinds := [.data], laidTests := true, laidLooks := .later }
def GateGaugeUptoCardSaid : Prop := Claim7.holds Tryz.pinned (.plain (OpenSpec.upto gateGaugeSpec)) gateGaugeUptoCard

/-- THE SECOND FORM's CARD OF 'provostlaw18.GateOwn'. -/
def gateOwnUptoCard : Claim7 := { stood := { row := gateOwnUptoRow, standIns := [], harness := (true, "b79f178c8cfc8647b592307cb4e25919f29858977cef7296c265ba5a75ac85b1"), looks := false }, kinds := [], alts := [], laidByText := true, laidKinds := [.data], laidTests := true, laidLooks := .later }
def GateOwnUptoCardSaid : Prop := Claim7.holds Tryz.pinned (.plain (OpenSpec.upto gateOwnSpec)) gateOwnUptoCard
end Rows
end Go.Proofs.YtmcnnfldobfddaaGreatDoor
