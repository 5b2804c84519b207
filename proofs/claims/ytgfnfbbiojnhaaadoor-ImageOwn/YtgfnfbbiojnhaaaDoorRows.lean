/-
  NARROWER THAN 'FOR EVERY INPUT', by the rows' own cells (each row's printed sentence says how): ImageWrite: laid · ImageRead: laid · ImageBack: laid · ImageOwn: laid.
  DERIVED. THE GIVEN ROWS OF THIS SEAT. 4 by the template 'for every input the law returns true; each argument reads behind the call as it read before'; 0 by the template 'total and deterministic' (their statements: YtgfnfbbiojnhaaaDoorTotals.lean).
  GIVEN WITH THE SEED: the statements are not yours to turn. If you find one false, say at which input.
  Laid BY PROGRAM, IN A SANDBOX (cutbox-rows.mjs): the forced cells as the released guide's own fill.sh prints them over the translation 056a5bd830929e1b… (all of the seat's roots in one cut). By AI agents, Wed Nov 11 2026. No macro, syntax, notation, axiom, sorry.
-/
import Derived.Test.YtgfnfbbiojnhaaaDoorChecked
import GoSem.Claim
import GoSem.ClaimJoined
import GoSem.ClaimMapViews
import Derived.JoinedTies
import Derived.KernelRfl
namespace Go.Proofs.YtgfnfbbiojnhaaaDoor
/- THE CELL 'sum', in the pinned program and in every row, IS THE sha256 OF THE DUMP (.gsa) THAT YtgfnfbbiojnhaaaDoorProg.lean LOADS. Nothing in Lean hashes anything: it is a label: what it is worth is what the hold of that sum in a sandbox is worth. -/
noncomputable def Tryd.pinned : Pinned := { name := "ytgfnfbbiojnhaaadoor", sum := "056a5bd830929e1b0a42487b9397004e3bcb8a9a3206496387b8f172904acff5", checked := Tryd.checked }
namespace Rows
def none {H : Type} : Left H := { results := [], args := [] }

/- WHAT THE LISTED PACKAGE-LEVEL VARIABLES READ AS WHEN THE CALL BEGINS. Each datum BY PROGRAM (the guide's laid-datum.mjs) off the statement by which the dump's own 'gosem.cut.vars' lays the variable. In a bare row this is a premise. The card (YtgfnfbbiojnhaaaDoorCards.lean) ties it to the program's text. -/
def laid_provost_image_longest {H : Type} : DataW H := .agg [.lit (.int .i64 255), .lit (.int .i64 255), .lit (.int .i64 255), .lit (.int .i64 65536)]
def laid_provost_image_widths {H : Type} : DataW H := .agg [.lit (.int .i64 1), .lit (.int .i64 1), .lit (.int .i64 1), .lit (.int .i64 4)]

/-- 'provostlaw21.ImageWrite': WHATEVER THE INPUT: true; the input reads as it did. -/
def imageWriteSpec : ChangeSpec := { name := "imageWrite", fn := fun _ => fun
  | [d] => { results := [.lit (.bool true)], args := [d] }
  | _ => none }
def imageWriteRow : OpenClaim := { program := "ytgfnfbbiojnhaaadoor", sum := "056a5bd830929e1b0a42487b9397004e3bcb8a9a3206496387b8f172904acff5", func := "provost/provostlaw21.ImageWrite", spec := "imageWrite", named := ["provost/image.widths", "provost/image.longest"], apart := false, laid := [("provost/image.longest", laid_provost_image_longest), ("provost/image.widths", laid_provost_image_widths)] }
def ImageWriteSaid : Prop := imageWriteRow.holds Tryd.pinned (OpenSpec.ofChange imageWriteSpec)

/-- ITS FALSE NEIGHBOUR: 'it returns false'. Refute it at one input. -/
def imageWriteWrong : ChangeSpec := { name := "imageWrite", fn := fun _ => fun
  | [d] => { results := [.lit (.bool false)], args := [d] }
  | _ => none }
def ImageWriteWrongFalsely : Prop := imageWriteRow.holds Tryd.pinned (OpenSpec.ofChange imageWriteWrong)

/-- 'provostlaw21.ImageRead': WHATEVER THE INPUT: true; the input reads as it did. -/
def imageReadSpec : ChangeSpec := { name := "imageRead", fn := fun _ => fun
  | [d] => { results := [.lit (.bool true)], args := [d] }
  | _ => none }
def imageReadRow : OpenClaim := { program := "ytgfnfbbiojnhaaadoor", sum := "056a5bd830929e1b0a42487b9397004e3bcb8a9a3206496387b8f172904acff5", func := "provost/provostlaw21.ImageRead", spec := "imageRead", named := ["provost/image.widths", "provost/image.longest"], apart := false, laid := [("provost/image.longest", laid_provost_image_longest), ("provost/image.widths", laid_provost_image_widths)] }
def ImageReadSaid : Prop := imageReadRow.holds Tryd.pinned (OpenSpec.ofChange imageReadSpec)

/-- ITS FALSE NEIGHBOUR: 'it returns false'. Refute it at one input. -/
def imageReadWrong : ChangeSpec := { name := "imageRead", fn := fun _ => fun
  | [d] => { results := [.lit (.bool false)], args := [d] }
  | _ => none }
def ImageReadWrongFalsely : Prop := imageReadRow.holds Tryd.pinned (OpenSpec.ofChange imageReadWrong)

/-- 'provostlaw21.ImageBack': WHATEVER THE INPUT: true; the input reads as it did. -/
def imageBackSpec : ChangeSpec := { name := "imageBack", fn := fun _ => fun
  | [d1, d2, d3] => { results := [.lit (.bool true)], args := [d1, d2, d3] }
  | _ => none }
def imageBackRow : OpenClaim := { program := "ytgfnfbbiojnhaaadoor", sum := "056a5bd830929e1b0a42487b9397004e3bcb8a9a3206496387b8f172904acff5", func := "provost/provostlaw21.ImageBack", spec := "imageBack", named := ["provost/image.widths", "provost/image.longest"], apart := false, laid := [("provost/image.longest", laid_provost_image_longest), ("provost/image.widths", laid_provost_image_widths)] }
def ImageBackSaid : Prop := imageBackRow.holds Tryd.pinned (OpenSpec.ofChange imageBackSpec)

/-- ITS FALSE NEIGHBOUR: 'it returns false'. Refute it at one input. -/
def imageBackWrong : ChangeSpec := { name := "imageBack", fn := fun _ => fun
  | [d1, d2, d3] => { results := [.lit (.bool false)], args := [d1, d2, d3] }
  | _ => none }
def ImageBackWrongFalsely : Prop := imageBackRow.holds Tryd.pinned (OpenSpec.ofChange imageBackWrong)

/-- 'provostlaw21.ImageOwn': WHATEVER THE INPUT: true; the input reads as it did. -/
def imageOwnSpec : ChangeSpec := { name := "imageOwn", fn := fun _ => fun
  | [d1, d2] => { results := [.lit (.bool true)], args := [d1, d2] }
  | _ => none }
def imageOwnRow : OpenClaim := { program := "ytgfnfbbiojnhaaadoor", sum := "056a5bd830929e1b0a42487b9397004e3bcb8a9a3206496387b8f172904acff5", func := "provost/provostlaw21.ImageOwn", spec := "imageOwn", recurses := true, named := ["provost/image.widths", "provost/image.longest"], apart := false, laid := [("provost/image.longest", laid_provost_image_longest), ("provost/image.widths", laid_provost_image_widths)] }
def ImageOwnSaid : Prop := imageOwnRow.holds Tryd.pinned (OpenSpec.ofChange imageOwnSpec)

/-- ITS FALSE NEIGHBOUR: 'it returns false'. Refute it at one input. -/
def imageOwnWrong : ChangeSpec := { name := "imageOwn", fn := fun _ => fun
  | [d1, d2] => { results := [.lit (.bool false)], args := [d1, d2] }
  | _ => none }
def ImageOwnWrongFalsely : Prop := imageOwnRow.holds Tryd.pinned (OpenSpec.ofChange imageOwnWrong)

/- THE SECOND FORM. 'bulk': how many values and letters a reading holds, each counted each time it is reached (what is shared counts as often as it is met; a slice's spare places count too). A statement '..UptoSaid' is the law's where the arguments, and the package variables that the reading takes, are together of bulk at most 1048576: NARROWER than '..Said'. Prove '..Said' where nothing that the law and all that it calls make is longer than what came in: it says more and counts as full. Else prove '..UptoSaid'. A law counts once. -/
mutual
def uptoBulk {H : Type} : DataW H → Nat
  | .lit (.string bytes) => bytes.length + 1
  | .lit _ => 1
  | .nil => 1
  | .ptr d => uptoBulk d + 1
  | .slice elems spare => uptoBulkAll elems + uptoBulkAll spare + 1
  | .agg parts => uptoBulkAll parts + 1
  | .iface _ d => uptoBulk d + 1
  | .map entries => uptoBulkEntries entries + 1
  | .held _ => 1
def uptoBulkAll {H : Type} : List (DataW H) → Nat
  | [] => 0
  | d :: r => uptoBulk d + uptoBulkAll r
def uptoBulkEntries {H : Type} : List (Lit × DataW H) → Nat
  | [] => 0
  | x :: r => uptoBulkEntry x + uptoBulkEntries r
def uptoBulkEntry {H : Type} : Lit × DataW H → Nat
  | (.string bytes, d) => bytes.length + uptoBulk d + 1
  | (_, d) => uptoBulk d + 1
 end
def uptoSmall : (H : Type) → List (DataW H) → Bool := fun _ ds => decide (uptoBulkAll ds ≤ 1048576)
def OpenSpec.upto (s : _root_.Go.ChangeSpec) : _root_.Go.OpenSpec := { _root_.Go.OpenSpec.ofChange s with cond := some uptoSmall }

/-- 'provostlaw21.ImageWrite', WHERE WHAT IT READS IS OF BULK AT MOST 1048576: true; the input reads as it did. -/
def imageWriteUptoRow : OpenClaim := { program := "ytgfnfbbiojnhaaadoor", sum := "056a5bd830929e1b0a42487b9397004e3bcb8a9a3206496387b8f172904acff5", func := "provost/provostlaw21.ImageWrite", spec := "imageWrite", named := ["provost/image.widths", "provost/image.longest"], apart := false, laid := [("provost/image.longest", laid_provost_image_longest), ("provost/image.widths", laid_provost_image_widths)], narrowed := true }
def ImageWriteUptoSaid : Prop := imageWriteUptoRow.holds Tryd.pinned (OpenSpec.upto imageWriteSpec)

/-- 'provostlaw21.ImageRead', WHERE WHAT IT READS IS OF BULK AT MOST 1048576: true; the input reads as it did. -/
def imageReadUptoRow : OpenClaim := { program := "ytgfnfbbiojnhaaadoor", sum := "056a5bd830929e1b0a42487b9397004e3bcb8a9a3206496387b8f172904acff5", func := "provost/provostlaw21.ImageRead", spec := "imageRead", named := ["provost/image.widths", "provost/image.longest"], apart := false, laid := [("provost/image.longest", laid_provost_image_longest), ("provost/image.widths", laid_provost_image_widths)], narrowed := true }
def ImageReadUptoSaid : Prop := imageReadUptoRow.holds Tryd.pinned (OpenSpec.upto imageReadSpec)

/-- 'provostlaw21.ImageBack', WHERE WHAT IT READS IS OF BULK AT MOST 1048576: true; the input reads as it did. -/
def imageBackUptoRow : OpenClaim := { program := "ytgfnfbbiojnhaaadoor", sum := "056a5bd830929e1b0a42487b9397004e3bcb8a9a3206496387b8f172904acff5", func := "provost/provostlaw21.ImageBack", spec := "imageBack", named := ["provost/image.widths", "provost/image.longest"], apart := false, laid := [("provost/image.longest", laid_provost_image_longest), ("provost/image.widths", laid_provost_image_widths)], narrowed := true }
def ImageBackUptoSaid : Prop := imageBackUptoRow.holds Tryd.pinned (OpenSpec.upto imageBackSpec)

/-- 'provostlaw21.ImageOwn', WHERE WHAT IT READS IS OF BULK AT MOST 1048576: true; the input reads as it did. -/
def imageOwnUptoRow : OpenClaim := { program := "ytgfnfbbiojnhaaadoor", sum := "056a5bd830929e1b0a42487b9397004e3bcb8a9a3206496387b8f172904acff5", func := "provost/provostlaw21.ImageOwn", spec := "imageOwn", recurses := true, named := ["provost/image.widths", "provost/image.longest"], apart := false, laid := [("provost/image.longest", laid_provost_image_longest), ("provost/image.widths", laid_provost_image_widths)], narrowed := true }
def ImageOwnUptoSaid : Prop := imageOwnUptoRow.holds Tryd.pinned (OpenSpec.upto imageOwnSpec)

end Rows
end Go.Proofs.YtgfnfbbiojnhaaaDoor
