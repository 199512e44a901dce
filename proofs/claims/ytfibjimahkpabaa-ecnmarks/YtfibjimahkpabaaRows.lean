/-
  No cell of these rows narrows 'for every input' (looked for: loops, veiled, ifaces, maps, wideKeys, modest, calm, conditions, laid).
  DERIVED. THE GIVEN ROWS OF THIS SEAT. 3 by the template 'for every input the law returns true; each argument reads behind the call as it read before'; 0 by the template 'total and deterministic' (their statements: YtfibjimahkpabaaTotals.lean).
  GIVEN WITH THE SEED: the statements are not yours to turn. If you find one false, say at which input.
  Laid BY PROGRAM, IN A SANDBOX (cutbox-rows.mjs): the forced cells as the released guide's own fill.sh prints them over the translation 2ac1ddd95ab77afa… (all of the seat's roots in one cut). By AI agents, Wed Nov 11 2026. No macro, syntax, notation, axiom, sorry.
-/
import Derived.Test.YtfibjimahkpabaaChecked
import GoSem.Claim
import GoSem.ClaimJoined
import GoSem.ClaimMapViews
import Derived.JoinedTies
import Derived.KernelRfl
namespace Go.Proofs.Ytfibjimahkpabaa
/- THE CELL 'sum', in the pinned program and in every row, IS THE sha256 OF THE DUMP (.gsa) THAT YtfibjimahkpabaaProg.lean LOADS. Nothing in Lean hashes anything: it is a label: what it is worth is what the hold of that sum in a sandbox is worth. -/
noncomputable def Try.pinned : Pinned := { name := "ytfibjimahkpabaa", sum := "2ac1ddd95ab77afa1e5d5a4e282c17feee53bb836b56ee9e7b3a000053bf1bfb", checked := Try.checked }
namespace Rows
def none {H : Type} : Left H := { results := [], args := [] }

/-- 'leatlaw09.EcnPuts': WHATEVER THE INPUT: true; the input reads as it did. -/
def ecnPutsSpec : ChangeSpec := { name := "ecnPuts", fn := fun _ => fun
  | [d1, d2] => { results := [.lit (.bool true)], args := [d1, d2] }
  | _ => none }
def ecnPutsRow : OpenClaim := { program := "ytfibjimahkpabaa", sum := "2ac1ddd95ab77afa1e5d5a4e282c17feee53bb836b56ee9e7b3a000053bf1bfb", func := "leat/leatlaw09.EcnPuts", spec := "ecnPuts", apart := false }
def EcnPutsSaid : Prop := ecnPutsRow.holds Try.pinned (OpenSpec.ofChange ecnPutsSpec)

/-- ITS FALSE NEIGHBOUR: 'it returns false'. Refute it at one input. -/
def ecnPutsWrong : ChangeSpec := { name := "ecnPuts", fn := fun _ => fun
  | [d1, d2] => { results := [.lit (.bool false)], args := [d1, d2] }
  | _ => none }
def EcnPutsWrongFalsely : Prop := ecnPutsRow.holds Try.pinned (OpenSpec.ofChange ecnPutsWrong)

/-- 'leatlaw09.EcnMarks': WHATEVER THE INPUT: true; the input reads as it did. -/
def ecnMarksSpec : ChangeSpec := { name := "ecnMarks", fn := fun _ => fun
  | [d1, d2] => { results := [.lit (.bool true)], args := [d1, d2] }
  | _ => none }
def ecnMarksRow : OpenClaim := { program := "ytfibjimahkpabaa", sum := "2ac1ddd95ab77afa1e5d5a4e282c17feee53bb836b56ee9e7b3a000053bf1bfb", func := "leat/leatlaw09.EcnMarks", spec := "ecnMarks", apart := false }
def EcnMarksSaid : Prop := ecnMarksRow.holds Try.pinned (OpenSpec.ofChange ecnMarksSpec)

/-- ITS FALSE NEIGHBOUR: 'it returns false'. Refute it at one input. -/
def ecnMarksWrong : ChangeSpec := { name := "ecnMarks", fn := fun _ => fun
  | [d1, d2] => { results := [.lit (.bool false)], args := [d1, d2] }
  | _ => none }
def EcnMarksWrongFalsely : Prop := ecnMarksRow.holds Try.pinned (OpenSpec.ofChange ecnMarksWrong)

/-- 'leatlaw09.EcnStays': WHATEVER THE INPUT: true; the input reads as it did. -/
def ecnStaysSpec : ChangeSpec := { name := "ecnStays", fn := fun _ => fun
  | [d] => { results := [.lit (.bool true)], args := [d] }
  | _ => none }
def ecnStaysRow : OpenClaim := { program := "ytfibjimahkpabaa", sum := "2ac1ddd95ab77afa1e5d5a4e282c17feee53bb836b56ee9e7b3a000053bf1bfb", func := "leat/leatlaw09.EcnStays", spec := "ecnStays", apart := false }
def EcnStaysSaid : Prop := ecnStaysRow.holds Try.pinned (OpenSpec.ofChange ecnStaysSpec)

/-- ITS FALSE NEIGHBOUR: 'it returns false'. Refute it at one input. -/
def ecnStaysWrong : ChangeSpec := { name := "ecnStays", fn := fun _ => fun
  | [d] => { results := [.lit (.bool false)], args := [d] }
  | _ => none }
def EcnStaysWrongFalsely : Prop := ecnStaysRow.holds Try.pinned (OpenSpec.ofChange ecnStaysWrong)

/- THE SECOND FORM. 'bulk': how many values and letters a reading holds, each counted each time it is reached (what is shared counts as often as it is met; a slice's spare places count too). A statement '..UptoSaid' is the law's where the arguments, and the package variables that the reading takes, are together of bulk at most 1048576: NARROWER than '..Said'. Prove '..Said' where nothing that the law and all that it calls make is longer than what came in: it says more and counts as full. Else prove '..UptoSaid'. A law counts once. -/
mutual
def uptoBulk {H : Type} : DataW H → Nat
  | .lit (.string bytes) => bytes.length + 1
  | .lit _ => 1
  | .nil => 1
  | .ptr d => uptoBulk d + 1
  | .slice elems spare => uptoBulkAll elems + uptoBulkAll spare + 1
  | .agg parts => uptoBulkAll parts + 1
  | .iface _ d => uptoBulk d + 1
  | .map entries => uptoBulkEntries entries + 1
  | .held _ => 1
def uptoBulkAll {H : Type} : List (DataW H) → Nat
  | [] => 0
  | d :: r => uptoBulk d + uptoBulkAll r
def uptoBulkEntries {H : Type} : List (Lit × DataW H) → Nat
  | [] => 0
  | x :: r => uptoBulkEntry x + uptoBulkEntries r
def uptoBulkEntry {H : Type} : Lit × DataW H → Nat
  | (.string bytes, d) => bytes.length + uptoBulk d + 1
  | (_, d) => uptoBulk d + 1
 end
def uptoSmall : (H : Type) → List (DataW H) → Bool := fun _ ds => decide (uptoBulkAll ds ≤ 1048576)
def OpenSpec.upto (s : _root_.Go.ChangeSpec) : _root_.Go.OpenSpec := { _root_.Go.OpenSpec.ofChange s with cond := some uptoSmall }

/-- 'leatlaw09.EcnPuts', WHERE WHAT IT READS IS OF BULK AT MOST 1048576: true; the input reads as it did. -/
def ecnPutsUptoRow : OpenClaim := { program := "ytfibjimahkpabaa", sum := "2ac1ddd95ab77afa1e5d5a4e282c17feee53bb836b56ee9e7b3a000053bf1bfb", func := "leat/leatlaw09.EcnPuts", spec := "ecnPuts", apart := false, narrowed := true }
def EcnPutsUptoSaid : Prop := ecnPutsUptoRow.holds Try.pinned (OpenSpec.upto ecnPutsSpec)

/-- 'leatlaw09.EcnMarks', WHERE WHAT IT READS IS OF BULK AT MOST 1048576: true; the input reads as it did. -/
def ecnMarksUptoRow : OpenClaim := { program := "ytfibjimahkpabaa", sum := "2ac1ddd95ab77afa1e5d5a4e282c17feee53bb836b56ee9e7b3a000053bf1bfb", func := "leat/leatlaw09.EcnMarks", spec := "ecnMarks", apart := false, narrowed := true }
def EcnMarksUptoSaid : Prop := ecnMarksUptoRow.holds Try.pinned (OpenSpec.upto ecnMarksSpec)

/-- 'leatlaw09.EcnStays', WHERE WHAT IT READS IS OF BULK AT MOST 1048576: true; the input reads as it did. -/
def ecnStaysUptoRow : OpenClaim := { program := "ytfibjimahkpabaa", sum := "2ac1ddd95ab77afa1e5d5a4e282c17feee53bb836b56ee9e7b3a000053bf1bfb", func := "leat/leatlaw09.EcnStays", spec := "ecnStays", apart := false, narrowed := true }
def EcnStaysUptoSaid : Prop := ecnStaysUptoRow.holds Try.pinned (OpenSpec.upto ecnStaysSpec)

end Rows
end Go.Proofs.Ytfibjimahkpabaa
