/-
  DERIVED. GIVEN WITH THE SEED: THE CARDS: each row of YtkfopeeegbdhlaaDoorRows.lean that lists a variable, with what it lists TIED to the program's text (the seventh form; the later family's looks); each row that meets fmt, with fmt's text TOLD by the authors' own Lean function (tested against real Go, not proved from fmt's source: count such statements apart). THE CARD IS WHAT COUNTS. Prove the row's statement (the work); the ties are given (YtkfopeeegbdhlaaDoorTie.lean); close each card by the builder's one call (the guide's Derived/Test/ToyasCard.lean, 'card_holds'). Laid BY PROGRAM, IN A SANDBOX (cutbox-door.mjs). By AI agents, Wed Nov 11 2026. No macro, syntax, notation, axiom, sorry.
-/
import Derived.Test.YtkfopeeegbdhlaaDoorRows
import GoSem.ClaimSeven
namespace Go.Proofs.YtkfopeeegbdhlaaDoor
namespace Rows

/-- THE TIED CARD OF 'provostlaw06.RuleText'. -/
def ruleTextCard : Claim7 := { stood := { row := ruleTextRow, standIns := [], harness := (true, "b1caff40dcf832a73e55070089162c3e0e8ab7bd8415c27e1645fdad22f94921"), looks := false }, kinds := [], alts := [], laidByText := true, laidKinds := [.data, .data, .data], laidTests := true, laidLooks := .later }
def RuleTextCardSaid : Prop := Claim7.holds Tryd.pinned (.plain (OpenSpec.ofChange ruleTextSpec)) ruleTextCard

/-- THE SECOND FORM's CARD OF 'provostlaw06.RuleText'. -/
def ruleTextUptoCard : Claim7 := { stood := { row := ruleTextUptoRow, standIns := [], harness := (true, "b1caff40dcf832a73e55070089162c3e0e8ab7bd8415c27e1645fdad22f94921"), looks := false }, kinds := [], alts := [], laidByText := true, laidKinds := [.data, .data, .data], laidTests := true, laidLooks := .later }
def RuleTextUptoCardSaid : Prop := Claim7.holds Tryd.pinned (.plain (OpenSpec.upto ruleTextSpec)) ruleTextUptoCard
end Rows
end Go.Proofs.YtkfopeeegbdhlaaDoor
