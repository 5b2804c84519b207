/-
  DERIVED. GIVEN WITH THE SEED: THE CARDS: each row of YtegpgjiccpglbaaDoorRows.lean that lists a variable, with what it lists TIED to the program's text (the seventh form; the later family's looks); each row that meets fmt, with fmt's text TOLD by the authors' own Lean function (tested against real Go, not proved from fmt's source: count such statements apart). THE CARD IS WHAT COUNTS. Prove the row's statement (the work); the ties are given (YtegpgjiccpglbaaDoorTie.lean); close each card by the builder's one call (the guide's Derived/Test/ToyasCard.lean, 'card_holds'). Laid BY PROGRAM, IN A SANDBOX (cutbox-door.mjs). By AI agents, Wed Nov 11 2026. No macro, syntax, notation, axiom, sorry.
-/
import Derived.Test.YtegpgjiccpglbaaDoorRows
import GoSem.ClaimSeven
namespace Go.Proofs.YtegpgjiccpglbaaDoor
namespace Rows

/-- THE TIED CARD OF 'provostlaw08.RankExact'. -/
def rankExactCard : Claim7 := { stood := { row := rankExactRow, standIns := [], harness := (true, "47eb1e666796caf33fc305dff4c4a828ee21f742223e9c2274f6ce545761ba63"), looks := false }, kinds := [], alts := [], laidByText := true, laidKinds := [.data], laidTests := true, laidLooks := .later }
def RankExactCardSaid : Prop := Claim7.holds Tryd.pinned (.plain (OpenSpec.ofChange rankExactSpec)) rankExactCard

/-- THE TIED CARD OF 'provostlaw08.RankReach'. -/
def rankReachCard : Claim7 := { stood := { row := rankReachRow, standIns := [], harness := (true, "47eb1e666796caf33fc305dff4c4a828ee21f742223e9c2274f6ce545761ba63"), looks := false }, kinds := [], alts := [], laidByText := true, laidKinds := [.data], laidTests := true, laidLooks := .later }
def RankReachCardSaid : Prop := Claim7.holds Tryd.pinned (.plain (OpenSpec.ofChange rankReachSpec)) rankReachCard

/-- THE TIED CARD OF 'provostlaw08.RankDepth'. -/
def rankDepthCard : Claim7 := { stood := { row := rankDepthRow, standIns := [], harness := (true, "47eb1e666796caf33fc305dff4c4a828ee21f742223e9c2274f6ce545761ba63"), looks := false }, kinds := [], alts := [], laidByText := true, laidKinds := [.data], laidTests := true, laidLooks := .later }
def RankDepthCardSaid : Prop := Claim7.holds Tryd.pinned (.plain (OpenSpec.ofChange rankDepthSpec)) rankDepthCard

/-- THE TIED CARD OF 'provostlaw08.RankGoes'. -/
def rankGoesCard : Claim7 := { stood := { row := rankGoesRow, standIns := [], harness := (true, "47eb1e666796caf33fc305dff4c4a828ee21f742223e9c2274f6ce545761ba63"), looks := false }, kinds := [], alts := [], laidByText := true, laidKinds := [.data], laidTests := true, laidLooks := .later }
def RankGoesCardSaid : Prop := Claim7.holds Tryd.pinned (.plain (OpenSpec.ofChange rankGoesSpec)) rankGoesCard

/-- THE SECOND FORM's CARD OF 'provostlaw08.RankExact'. -/
def rankExactUptoCard : Claim7 := { stood := { row := rankExactUptoRow, standIns := [], harness := (true, "47eb1e666796caf33fc305dff4c4a828ee21f742223e9c2274f6ce545761ba63"), looks := false }, kinds := [], alts := [], laidByText := true, laidKinds := [.data], laidTests := true, laidLooks := .later }
def RankExactUptoCardSaid : Prop := Claim7.holds Tryd.pinned (.plain (OpenSpec.upto rankExactSpec)) rankExactUptoCard

/-- THE SECOND FORM's CARD OF 'provostlaw08.RankReach'. -/
def rankReachUptoCard : Claim7 := { stood := { row := rankReachUptoRow, standIns := [], harness := (true, "47eb1e666796caf33fc305dff4c4a828ee21f742223e9c2274f6ce545761ba63"), looks := false }, kinds := [], alts := [], laidByText := true, laidKinds := [.data], laidTests := true, laidLooks := .later }
def RankReachUptoCardSaid : Prop := Claim7.holds Tryd.pinned (.plain (OpenSpec.upto rankReachSpec)) rankReachUptoCard

/-- THE SECOND FORM's CARD OF 'provostlaw08.RankDepth'. -/
def rankDepthUptoCard : Claim7 := { stood := { row := rankDepthUptoRow, standIns := [], harness := (true, "47eb1e666796caf33fc305dff4c4a828ee21f742223e9c2274f6ce545761ba63"), looks := false }, kinds := [], alts := [], laidByText := true, laidKinds := [.data], laidTests := true, laidLooks := .later }
def RankDepthUptoCardSaid : Prop := Claim7.holds Tryd.pinned (.plain (OpenSpec.upto rankDepthSpec)) rankDepthUptoCard

/-- THE SECOND FORM's CARD OF 'provostlaw08.RankGoes'. -/
def rankGoesUptoCard : Claim7 := { stood := { row := rankGoesUptoRow, standIns := [], harness := (true, "47eb1e666796caf33fc305dff4c4a828ee21f742223e9c2274f6ce545761ba63"), looks := false }, kinds := [], alts := [], laidByText := true, laidKinds := [.data], laidTests := true, laidLooks := .later }
def RankGoesUptoCardSaid : Prop := Claim7.holds Tryd.pinned (.plain (OpenSpec.upto rankGoesSpec)) rankGoesUptoCard
end Rows
end Go.Proofs.YtegpgjiccpglbaaDoor
