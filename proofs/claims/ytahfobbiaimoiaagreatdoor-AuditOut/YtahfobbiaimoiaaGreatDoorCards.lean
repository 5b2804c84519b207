/-
  DERIVED. GIVEN WITH THE SEED: THE CARDS: each row of YtahfobbiaimoiaaGreatDoorRows.lean that lists a variable, with what it lists TIED to the program's text (the seventh form; the later family's looks); each row that meets fmt, with fmt's text TOLD by the authors' own Lean function (tested against real Go, not proved from fmt's source: count such statements apart). THE CARD IS WHAT COUNTS. Prove the row's statement (the work); the ties are given (YtahfobbiaimoiaaGreatDoorTie.lean); close each card by the builder's one call (the guide's Derived/Test/ToyasCard.lean, 'card_holds'). Laid BY PROGRAM, IN A SANDBOX (cutbox-door.mjs). By AI agents, Wed Nov 11 2026. No macro, syntax, notation, axiom, sorry.
-/
import Derived.Test.YtahfobbiaimoiaaGreatDoorRows
import GoSem.ClaimSeven
namespace Go.Proofs.YtahfobbiaimoiaaGreatDoor
namespace Rows

/-- THE TIED CARD OF 'provostlaw23.AuditReplay'. -/
def auditReplayCard : Claim7 := { stood := { row := auditReplayRow, standIns := [], harness := (true, "bfa2b10f37284cab5a1e6d31d6cee7b0ab4362a41e4be7a7b12b1c15541848e2"), looks := false }, kinds := [], alts := [], laidByText := true, laidKinds := [.data], laidTests := true, laidLooks := .later }
def AuditReplayCardSaid : Prop := Claim7.holds Tryz.pinned (.plain (OpenSpec.ofChange auditReplaySpec)) auditReplayCard

/-- THE TIED CARD OF 'provostlaw23.AuditTells'. -/
def auditTellsCard : Claim7 := { stood := { row := auditTellsRow, standIns := [], harness := (true, "bfa2b10f37284cab5a1e6d31d6cee7b0ab4362a41e4be7a7b12b1c15541848e2"), looks := false }, kinds := [], alts := [], laidByText := true, laidKinds := [.data], laidTests := true, laidLooks := .later }
def AuditTellsCardSaid : Prop := Claim7.holds Tryz.pinned (.plain (OpenSpec.ofChange auditTellsSpec)) auditTellsCard

/-- THE TIED CARD OF 'provostlaw23.AuditBack'. -/
def auditBackCard : Claim7 := { stood := { row := auditBackRow, standIns := [], harness := (true, "bfa2b10f37284cab5a1e6d31d6cee7b0ab4362a41e4be7a7b12b1c15541848e2"), looks := false }, kinds := [], alts := [], laidByText := true, laidKinds := [.data], laidTests := true, laidLooks := .later }
def AuditBackCardSaid : Prop := Claim7.holds Tryz.pinned (.plain (OpenSpec.ofChange auditBackSpec)) auditBackCard

/-- THE TIED CARD OF 'provostlaw23.AuditOut'. -/
def auditOutCard : Claim7 := { stood := { row := auditOutRow, standIns := [], harness := (true, "bfa2b10f37284cab5a1e6d31d6cee7b0ab4362a41e4be7a7b12b1c15541848e2"), looks := false }, kinds := [], alts := [], laidByText := true, laidKinds := [.data], laidTests := true, laidLooks := .later }
def AuditOutCardSaid : Prop := Claim7.holds Tryz.pinned (.plain (OpenSpec.ofChange auditOutSpec)) auditOutCard

/-- THE TIED CARD OF 'provostlaw23.AuditKept'. -/
def auditKeptCard : Claim7 := { stood := { row := auditKeptRow, standIns := [], harness := (true, "bfa2b10f37284cab5a1e6d31d6cee7b0ab4362a41e4be7a7b12b1c15541848e2"), looks := false }, kinds := [], alts := [], laidByText := true, laidKinds := [.data], laidTests := true, laidLooks := .later }
def AuditKeptCardSaid : Prop := Claim7.holds Tryz.pinned (.plain (OpenSpec.ofChange auditKeptSpec)) auditKeptCard

/-- THE TIED CARD OF 'provostlaw23.AuditOwn'. -/
def auditOwnCard : Claim7 := { stood := { row := auditOwnRow, standIns := [], harness := (true, "bfa2b10f37284cab5a1e6d31d6cee7b0ab4362a41e4be7a7b12b1c15541848e2"), looks := false }, kinds := [], alts := [], laidByText := true, laidKinds := [.data], laidTests := true, laidLooks := .later }
def AuditOwnCardSaid : Prop := Claim7.holds Tryz.pinned (.plain (OpenSpec.ofChange auditOwnSpec)) auditOwnCard

/-- THE SECOND FORM's CARD OF 'provostlaw23.AuditReplay'. -/
def auditReplayUptoCard : Claim7 := { stood := { row := auditReplayUptoRow, standIns := [], harness := (true, "bfa2b10f37284cab5a1e6d31d6cee7b0ab4362a41e4be7a7b12b1c15541848e2"), looks := false }, kinds := [], alts := [], laidByText := true, laidKinds := [.data], laidTests := true, laidLooks := .later }
def AuditReplayUptoCardSaid : Prop := Claim7.holds Tryz.pinned (.plain (OpenSpec.upto auditReplaySpec)) auditReplayUptoCard

/-- THE SECOND FORM's CARD OF 'provostlaw23.AuditTells'. -/
def auditTellsUptoCard : Claim7 := { stood := { row := auditTellsUptoRow, standIns := [], harness := (true, "bfa2b10f37284cab5a1e6d31d6cee7b0ab4362a41e4be7a7b12b1c15541848e2"), looks := false }, kinds := [], alts := [], laidByText := true, laidKinds := [.data], laidTests := true, laidLooks := .later }
def AuditTellsUptoCardSaid : Prop := Claim7.holds Tryz.pinned (.plain (OpenSpec.upto auditTellsSpec)) auditTellsUptoCard

/-- THE SECOND FORM's CARD OF 'provostlaw23.AuditBack'. -/
def auditBackUptoCard : Claim7 := { stood := { row := auditBackUptoRow, standIns := [], harness := (true, "bfa2b10f37284cab5a1e6d31d6cee7b0ab4362a41e4be7a7b12b1c15541848e2"), looks := false }, kinds := [], alts := [], laidByText := true, laidKinds := [.data], laidTests := true, laidLooks := .later }
def AuditBackUptoCardSaid : Prop := Claim7.holds Tryz.pinned (.plain (OpenSpec.upto auditBackSpec)) auditBackUptoCard

/-- THE SECOND FORM's CARD OF 'provostlaw23.AuditOut'. -/
def auditOutUptoCard : Claim7 := { stood := { row := auditOutUptoRow, standIns := [], harness := (true, "bfa2b10f37284cab5a1e6d31d6cee7b0ab4362a41e4be7a7b12b1c15541848e2"), looks := false }, kinds := [], alts := [], laidByText := true, laidKinds := [.data], laidTests := true, laidLooks := .later }
def AuditOutUptoCardSaid : Prop := Claim7.holds Tryz.pinned (.plain (OpenSpec.upto auditOutSpec)) auditOutUptoCard

/-- THE SECOND FORM's CARD OF 'provostlaw23.AuditKept'. -/
def auditKeptUptoCard : Claim7 := { stood := { row := auditKeptUptoRow, standIns := [], harness := (true, "bfa2b10f37284cab5a1e6d31d6cee7b0ab4362a41e4be7a7b12b1c15541848e2"), looks := false }, kinds := [], alts := [], laidByText := true, laidKinds := [.data], laidTests := true, laidLooks := .later }
def AuditKeptUptoCardSaid : Prop := Claim7.holds Tryz.pinned (.plain (OpenSpec.upto auditKeptSpec)) auditKeptUptoCard

/-- THE SECOND FORM's CARD OF 'provostlaw23.AuditOwn'. -/
def auditOwnUptoCard : Claim7 := { stood := { row := auditOwnUptoRow, standIns := [], harness := (true, "bfa2b10f37284cab5a1e6d31d6cee7b0ab4362a41e4be7a7b12b1c15541848e2"), looks := false }, kinds := [], alts := [], laidByText := true, laidKinds := [.data], laidTests := true, laidLooks := .later }
def AuditOwnUptoCardSaid : Prop := Claim7.holds Tryz.pinned (.plain (OpenSpec.upto auditOwnSpec)) auditOwnUptoCard
end Rows
end Go.Proofs.YtahfobbiaimoiaaGreatDoor
