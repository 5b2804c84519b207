/-
  DERIVED. GIVEN WITH THE SEED: THE CARDS: each row of YtnfebegmgeanhaaDoorRows.lean that lists a variable, with what it lists TIED to the program's text (the seventh form; the later family's looks); each row that meets fmt, with fmt's text TOLD by the authors' own Lean function (tested against real Go, not proved from fmt's source: count such statements apart). THE CARD IS WHAT COUNTS. Prove the row's statement (the work); the ties are given (YtnfebegmgeanhaaDoorTie.lean); close each card by the builder's one call (the guide's Derived/Test/ToyasCard.lean, 'card_holds'). Laid BY PROGRAM, IN A SANDBOX (cutbox-door.mjs). By AI agents, Wed Nov 11 2026. No macro, syntax, notation, axiom, sorry.
-/
import Derived.Test.YtnfebegmgeanhaaDoorRows
import GoSem.ClaimSeven
namespace Go.Proofs.YtnfebegmgeanhaaDoor
namespace Rows

/-- THE TIED CARD OF 'provostlaw18.GateWay'. -/
def gateWayCard : Claim7 := { stood := { row := gateWayRow, standIns := [], harness := (true, "23a85dc8040cdd417cf857af3329aeb15717a2251dde4738e9cdccf7cebcf350"), looks := false }, kinds := [], alts := [], laidByText := true, laidKinds := [.data], laidTests := true, laidLooks := .later }
def GateWayCardSaid : Prop := Claim7.holds Tryd.pinned (.plain (OpenSpec.ofChange gateWaySpec)) gateWayCard

/-- THE SECOND FORM's CARD OF 'provostlaw18.GateWay'. -/
def gateWayUptoCard : Claim7 := { stood := { row := gateWayUptoRow, standIns := [], harness := (true, "23a85dc8040cdd417cf857af3329aeb15717a2251dde4738e9cdccf7cebcf350"), looks := false }, kinds := [], alts := [], laidByText := true, laidKinds := [.data], laidTests := true, laidLooks := .later }
def GateWayUptoCardSaid : Prop := Claim7.holds Tryd.pinned (.plain (OpenSpec.upto gateWaySpec)) gateWayUptoCard
end Rows
end Go.Proofs.YtnfebegmgeanhaaDoor
