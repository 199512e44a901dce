/-
  NARROWER THAN 'FOR EVERY INPUT', by the rows' own cells (each row's printed sentence says how): EcnNames: laid · EcnPaths: laid.
  DERIVED. THE GIVEN ROWS OF THIS SEAT. 2 by the template 'for every input the law returns true; each argument reads behind the call as it read before'; 0 by the template 'total and deterministic' (their statements: YtfibjimahkpabaaDoorTotals.lean).
  GIVEN WITH THE SEED: the statements are not yours to turn. If you find one false, say at which input.
  Laid BY PROGRAM, IN A SANDBOX (cutbox-rows.mjs): the forced cells as the released guide's own fill.sh prints them over the translation 18372e1f901aeae6… (all of the seat's roots in one cut). By AI agents, Wed Nov 11 2026. No macro, syntax, notation, axiom, sorry.
-/
import Derived.Test.YtfibjimahkpabaaDoorChecked
import GoSem.Claim
import GoSem.ClaimJoined
import GoSem.ClaimMapViews
import Derived.JoinedTies
import Derived.KernelRfl
namespace Go.Proofs.YtfibjimahkpabaaDoor
/- THE CELL 'sum', in the pinned program and in every row, IS THE sha256 OF THE DUMP (.gsa) THAT YtfibjimahkpabaaDoorProg.lean LOADS. Nothing in Lean hashes anything: it is a label: what it is worth is what the hold of that sum in a sandbox is worth. -/
noncomputable def Tryd.pinned : Pinned := { name := "ytfibjimahkpabaadoor", sum := "18372e1f901aeae64591ff7ef5841f119255f325b04130aa009074bcd817a20d", checked := Tryd.checked }
namespace Rows
def none {H : Type} : Left H := { results := [], args := [] }

/- WHAT THE LISTED PACKAGE-LEVEL VARIABLES READ AS WHEN THE CALL BEGINS. Each datum BY PROGRAM (the guide's laid-datum.mjs) off the statement by which the dump's own 'gosem.cut.vars' lays the variable. In a bare row this is a premise. The card (YtfibjimahkpabaaDoorCards.lean) ties it to the program's text. -/
def laid_leat_ecn_names {H : Type} : DataW H := .agg [.lit (.string [110, 111, 116]), .lit (.string [101, 99, 116, 49]), .lit (.string [101, 99, 116, 48]), .lit (.string [99, 101])]

/-- 'leatlaw09.EcnNames': WHATEVER THE INPUT: true; the input reads as it did. -/
def ecnNamesSpec : ChangeSpec := { name := "ecnNames", fn := fun _ => fun
  | [d1, d2] => { results := [.lit (.bool true)], args := [d1, d2] }
  | _ => none }
def ecnNamesRow : OpenClaim := { program := "ytfibjimahkpabaadoor", sum := "18372e1f901aeae64591ff7ef5841f119255f325b04130aa009074bcd817a20d", func := "leat/leatlaw09.EcnNames", spec := "ecnNames", named := ["leat/ecn.names"], apart := false, laid := [("leat/ecn.names", laid_leat_ecn_names)] }
def EcnNamesSaid : Prop := ecnNamesRow.holds Tryd.pinned (OpenSpec.ofChange ecnNamesSpec)

/-- ITS FALSE NEIGHBOUR: 'it returns false'. Refute it at one input. -/
def ecnNamesWrong : ChangeSpec := { name := "ecnNames", fn := fun _ => fun
  | [d1, d2] => { results := [.lit (.bool false)], args := [d1, d2] }
  | _ => none }
def EcnNamesWrongFalsely : Prop := ecnNamesRow.holds Tryd.pinned (OpenSpec.ofChange ecnNamesWrong)

/-- 'leatlaw09.EcnPaths': WHATEVER THE INPUT: true; the input reads as it did. -/
def ecnPathsSpec : ChangeSpec := { name := "ecnPaths", fn := fun _ => fun
  | [d1, d2] => { results := [.lit (.bool true)], args := [d1, d2] }
  | _ => none }
def ecnPathsRow : OpenClaim := { program := "ytfibjimahkpabaadoor", sum := "18372e1f901aeae64591ff7ef5841f119255f325b04130aa009074bcd817a20d", func := "leat/leatlaw09.EcnPaths", spec := "ecnPaths", inPlace := ["internal/abi.NoEscape", "internal/bytealg.MakeNoZero"], named := ["leat/ecn.names"], apart := false, laid := [("leat/ecn.names", laid_leat_ecn_names)] }
def EcnPathsSaid : Prop := ecnPathsRow.holds Tryd.pinned (OpenSpec.ofChange ecnPathsSpec)

/-- ITS FALSE NEIGHBOUR: 'it returns false'. Refute it at one input. -/
def ecnPathsWrong : ChangeSpec := { name := "ecnPaths", fn := fun _ => fun
  | [d1, d2] => { results := [.lit (.bool false)], args := [d1, d2] }
  | _ => none }
def EcnPathsWrongFalsely : Prop := ecnPathsRow.holds Tryd.pinned (OpenSpec.ofChange ecnPathsWrong)

/- THE SECOND FORM. 'bulk': how many values and letters a reading holds, each counted each time it is reached (what is shared counts as often as it is met; a slice's spare places count too). A statement '..UptoSaid' is the law's where the arguments, and the package variables that the reading takes, are together of bulk at most 1048576: NARROWER than '..Said'. Prove '..Said' where nothing that the law and all that it calls make is longer than what came in: it says more and counts as full. Else prove '..UptoSaid'. A law counts once. -/
mutual
def uptoBulk {H : Type} : DataW H → Nat
  | .lit (.string bytes) => bytes.length + 1
  | .lit _ => 1
  | .nil => 1
  | .ptr d => uptoBulk d + 1
  | .slice elems spare => uptoBulkAll elems + uptoBulkAll spare + 1
  | .agg parts => uptoBulkAll parts + 1
  | .iface _ d => uptoBulk d + 1
  | .map entries => uptoBulkEntries entries + 1
  | .held _ => 1
def uptoBulkAll {H : Type} : List (DataW H) → Nat
  | [] => 0
  | d :: r => uptoBulk d + uptoBulkAll r
def uptoBulkEntries {H : Type} : List (Lit × DataW H) → Nat
  | [] => 0
  | x :: r => uptoBulkEntry x + uptoBulkEntries r
def uptoBulkEntry {H : Type} : Lit × DataW H → Nat
  | (.string bytes, d) => bytes.length + uptoBulk d + 1
  | (_, d) => uptoBulk d + 1
 end
def uptoSmall : (H : Type) → List (DataW H) → Bool := fun _ ds => decide (uptoBulkAll ds ≤ 1048576)
def OpenSpec.upto (s : _root_.Go.ChangeSpec) : _root_.Go.OpenSpec := { _root_.Go.OpenSpec.ofChange s with cond := some uptoSmall }

/-- 'leatlaw09.EcnNames', WHERE WHAT IT READS IS OF BULK AT MOST 1048576: true; the input reads as it did. -/
def ecnNamesUptoRow : OpenClaim := { program := "ytfibjimahkpabaadoor", sum := "18372e1f901aeae64591ff7ef5841f119255f325b04130aa009074bcd817a20d", func := "leat/leatlaw09.EcnNames", spec := "ecnNames", named := ["leat/ecn.names"], apart := false, laid := [("leat/ecn.names", laid_leat_ecn_names)], narrowed := true }
def EcnNamesUptoSaid : Prop := ecnNamesUptoRow.holds Tryd.pinned (OpenSpec.upto ecnNamesSpec)

/-- 'leatlaw09.EcnPaths', WHERE WHAT IT READS IS OF BULK AT MOST 1048576: true; the input reads as it did. -/
def ecnPathsUptoRow : OpenClaim := { program := "ytfibjimahkpabaadoor", sum := "18372e1f901aeae64591ff7ef5841f119255f325b04130aa009074bcd817a20d", func := "leat/leatlaw09.EcnPaths", spec := "ecnPaths", inPlace := ["internal/abi.NoEscape", "internal/bytealg.MakeNoZero"], named := ["leat/ecn.names"], apart := false, laid := [("leat/ecn.names", laid_leat_ecn_names)], narrowed := true }
def EcnPathsUptoSaid : Prop := ecnPathsUptoRow.holds Tryd.pinned (OpenSpec.upto ecnPathsSpec)

end Rows
end Go.Proofs.YtfibjimahkpabaaDoor
