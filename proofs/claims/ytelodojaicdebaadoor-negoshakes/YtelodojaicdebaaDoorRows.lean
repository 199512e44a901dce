/-
  NARROWER THAN 'FOR EVERY INPUT', by the rows' own cells (each row's printed sentence says how): NegoShakes: laid · NegoAnswers: laid · NegoAgrees: laid.
  DERIVED. THE GIVEN ROWS OF THIS SEAT. 3 by the template 'for every input the law returns true; each argument reads behind the call as it read before'; 0 by the template 'total and deterministic' (their statements: YtelodojaicdebaaDoorTotals.lean).
  GIVEN WITH THE SEED: the statements are not yours to turn. If you find one false, say at which input.
  Laid BY PROGRAM, IN A SANDBOX (cutbox-rows.mjs): the forced cells as the released guide's own fill.sh prints them over the translation 708be4bc8d88556d… (all of the seat's roots in one cut). By AI agents, Wed Nov 11 2026. No macro, syntax, notation, axiom, sorry.
-/
import Derived.Test.YtelodojaicdebaaDoorChecked
import GoSem.Claim
import GoSem.ClaimJoined
import GoSem.ClaimMapViews
import Derived.JoinedTies
import Derived.KernelRfl
namespace Go.Proofs.YtelodojaicdebaaDoor
/- THE CELL 'sum', in the pinned program and in every row, IS THE sha256 OF THE DUMP (.gsa) THAT YtelodojaicdebaaDoorProg.lean LOADS. Nothing in Lean hashes anything: it is a label: what it is worth is what the hold of that sum in a sandbox is worth. -/
noncomputable def Tryd.pinned : Pinned := { name := "ytelodojaicdebaadoor", sum := "708be4bc8d88556dfd844cb613d6109e8bcd96caef0b62b806401c4ca064d446", checked := Tryd.checked }
namespace Rows
def none {H : Type} : Left H := { results := [], args := [] }

/- WHAT THE LISTED PACKAGE-LEVEL VARIABLES READ AS WHEN THE CALL BEGINS. Each datum BY PROGRAM (the guide's laid-datum.mjs) off the statement by which the dump's own 'gosem.cut.vars' lays the variable. In a bare row this is a premise. The card (YtelodojaicdebaaDoorCards.lean) ties it to the program's text. -/
def laid_leat_nego_shakes {H : Type} : DataW H := .agg [.lit (.int .u8 2), .lit (.int .u8 3), .lit (.int .u8 4), .lit (.int .u8 6)]

/-- 'leatlaw14.NegoShakes': WHATEVER THE INPUT: true; the input reads as it did. -/
def negoShakesSpec : ChangeSpec := { name := "negoShakes", fn := fun _ => fun
  | [d1, d2, d3] => { results := [.lit (.bool true)], args := [d1, d2, d3] }
  | _ => none }
def negoShakesRow : OpenClaim := { program := "ytelodojaicdebaadoor", sum := "708be4bc8d88556dfd844cb613d6109e8bcd96caef0b62b806401c4ca064d446", func := "leat/leatlaw14.NegoShakes", spec := "negoShakes", named := ["leat/nego.shakes"], apart := false, laid := [("leat/nego.shakes", laid_leat_nego_shakes)] }
def NegoShakesSaid : Prop := negoShakesRow.holds Tryd.pinned (OpenSpec.ofChange negoShakesSpec)

/-- ITS FALSE NEIGHBOUR: 'it returns false'. Refute it at one input. -/
def negoShakesWrong : ChangeSpec := { name := "negoShakes", fn := fun _ => fun
  | [d1, d2, d3] => { results := [.lit (.bool false)], args := [d1, d2, d3] }
  | _ => none }
def NegoShakesWrongFalsely : Prop := negoShakesRow.holds Tryd.pinned (OpenSpec.ofChange negoShakesWrong)

/-- 'leatlaw14.NegoAnswers': WHATEVER THE INPUT: true; the input reads as it did. -/
def negoAnswersSpec : ChangeSpec := { name := "negoAnswers", fn := fun _ => fun
  | [d1, d2, d3] => { results := [.lit (.bool true)], args := [d1, d2, d3] }
  | _ => none }
def negoAnswersRow : OpenClaim := { program := "ytelodojaicdebaadoor", sum := "708be4bc8d88556dfd844cb613d6109e8bcd96caef0b62b806401c4ca064d446", func := "leat/leatlaw14.NegoAnswers", spec := "negoAnswers", named := ["leat/nego.shakes"], apart := false, laid := [("leat/nego.shakes", laid_leat_nego_shakes)] }
def NegoAnswersSaid : Prop := negoAnswersRow.holds Tryd.pinned (OpenSpec.ofChange negoAnswersSpec)

/-- ITS FALSE NEIGHBOUR: 'it returns false'. Refute it at one input. -/
def negoAnswersWrong : ChangeSpec := { name := "negoAnswers", fn := fun _ => fun
  | [d1, d2, d3] => { results := [.lit (.bool false)], args := [d1, d2, d3] }
  | _ => none }
def NegoAnswersWrongFalsely : Prop := negoAnswersRow.holds Tryd.pinned (OpenSpec.ofChange negoAnswersWrong)

/-- 'leatlaw14.NegoAgrees': WHATEVER THE INPUT: true; the input reads as it did. -/
def negoAgreesSpec : ChangeSpec := { name := "negoAgrees", fn := fun _ => fun
  | [d1, d2, d3] => { results := [.lit (.bool true)], args := [d1, d2, d3] }
  | _ => none }
def negoAgreesRow : OpenClaim := { program := "ytelodojaicdebaadoor", sum := "708be4bc8d88556dfd844cb613d6109e8bcd96caef0b62b806401c4ca064d446", func := "leat/leatlaw14.NegoAgrees", spec := "negoAgrees", named := ["leat/nego.shakes"], apart := false, laid := [("leat/nego.shakes", laid_leat_nego_shakes)] }
def NegoAgreesSaid : Prop := negoAgreesRow.holds Tryd.pinned (OpenSpec.ofChange negoAgreesSpec)

/-- ITS FALSE NEIGHBOUR: 'it returns false'. Refute it at one input. -/
def negoAgreesWrong : ChangeSpec := { name := "negoAgrees", fn := fun _ => fun
  | [d1, d2, d3] => { results := [.lit (.bool false)], args := [d1, d2, d3] }
  | _ => none }
def NegoAgreesWrongFalsely : Prop := negoAgreesRow.holds Tryd.pinned (OpenSpec.ofChange negoAgreesWrong)

/- THE SECOND FORM. 'bulk': how many values and letters a reading holds, each counted each time it is reached (what is shared counts as often as it is met; a slice's spare places count too). A statement '..UptoSaid' is the law's where the arguments, and the package variables that the reading takes, are together of bulk at most 1048576: NARROWER than '..Said'. Prove '..Said' where nothing that the law and all that it calls make is longer than what came in: it says more and counts as full. Else prove '..UptoSaid'. A law counts once. -/
mutual
def uptoBulk {H : Type} : DataW H → Nat
  | .lit (.string bytes) => bytes.length + 1
  | .lit _ => 1
  | .nil => 1
  | .ptr d => uptoBulk d + 1
  | .slice elems spare => uptoBulkAll elems + uptoBulkAll spare + 1
  | .agg parts => uptoBulkAll parts + 1
  | .iface _ d => uptoBulk d + 1
  | .map entries => uptoBulkEntries entries + 1
  | .held _ => 1
def uptoBulkAll {H : Type} : List (DataW H) → Nat
  | [] => 0
  | d :: r => uptoBulk d + uptoBulkAll r
def uptoBulkEntries {H : Type} : List (Lit × DataW H) → Nat
  | [] => 0
  | x :: r => uptoBulkEntry x + uptoBulkEntries r
def uptoBulkEntry {H : Type} : Lit × DataW H → Nat
  | (.string bytes, d) => bytes.length + uptoBulk d + 1
  | (_, d) => uptoBulk d + 1
 end
def uptoSmall : (H : Type) → List (DataW H) → Bool := fun _ ds => decide (uptoBulkAll ds ≤ 1048576)
def OpenSpec.upto (s : _root_.Go.ChangeSpec) : _root_.Go.OpenSpec := { _root_.Go.OpenSpec.ofChange s with cond := some uptoSmall }

/-- 'leatlaw14.NegoShakes', WHERE WHAT IT READS IS OF BULK AT MOST 1048576: true; the input reads as it did. -/
def negoShakesUptoRow : OpenClaim := { program := "ytelodojaicdebaadoor", sum := "708be4bc8d88556dfd844cb613d6109e8bcd96caef0b62b806401c4ca064d446", func := "leat/leatlaw14.NegoShakes", spec := "negoShakes", named := ["leat/nego.shakes"], apart := false, laid := [("leat/nego.shakes", laid_leat_nego_shakes)], narrowed := true }
def NegoShakesUptoSaid : Prop := negoShakesUptoRow.holds Tryd.pinned (OpenSpec.upto negoShakesSpec)

/-- 'leatlaw14.NegoAnswers', WHERE WHAT IT READS IS OF BULK AT MOST 1048576: true; the input reads as it did. -/
def negoAnswersUptoRow : OpenClaim := { program := "ytelodojaicdebaadoor", sum := "708be4bc8d88556dfd844cb613d6109e8bcd96caef0b62b806401c4ca064d446", func := "leat/leatlaw14.NegoAnswers", spec := "negoAnswers", named := ["leat/nego.shakes"], apart := false, laid := [("leat/nego.shakes", laid_leat_nego_shakes)], narrowed := true }
def NegoAnswersUptoSaid : Prop := negoAnswersUptoRow.holds Tryd.pinned (OpenSpec.upto negoAnswersSpec)

/-- 'leatlaw14.NegoAgrees', WHERE WHAT IT READS IS OF BULK AT MOST 1048576: true; the input reads as it did. -/
def negoAgreesUptoRow : OpenClaim := { program := "ytelodojaicdebaadoor", sum := "708be4bc8d88556dfd844cb613d6109e8bcd96caef0b62b806401c4ca064d446", func := "leat/leatlaw14.NegoAgrees", spec := "negoAgrees", named := ["leat/nego.shakes"], apart := false, laid := [("leat/nego.shakes", laid_leat_nego_shakes)], narrowed := true }
def NegoAgreesUptoSaid : Prop := negoAgreesUptoRow.holds Tryd.pinned (OpenSpec.upto negoAgreesSpec)

end Rows
end Go.Proofs.YtelodojaicdebaaDoor
