/-
  No cell of these rows narrows 'for every input' (looked for: loops, veiled, ifaces, maps, wideKeys, modest, calm, conditions, laid).
  DERIVED. THE GIVEN ROWS OF THIS SEAT. 5 by the template 'for every input the law returns true; each argument reads behind the call as it read before'; 0 by the template 'total and deterministic' (their statements: YtfoaaoigkdbjmaaTotals.lean).
  GIVEN WITH THE SEED: the statements are not yours to turn. If you find one false, say at which input.
  Laid BY PROGRAM, IN A SANDBOX (cutbox-rows.mjs): the forced cells as the released guide's own fill.sh prints them over the translation c3d3e63846b1d14c… (all of the seat's roots in one cut). By AI agents, Wed Nov 11 2026. No macro, syntax, notation, axiom, sorry.
-/
import Derived.Test.YtfoaaoigkdbjmaaChecked
import GoSem.Claim
import GoSem.ClaimJoined
import GoSem.ClaimMapViews
import Derived.JoinedTies
import Derived.KernelRfl
namespace Go.Proofs.Ytfoaaoigkdbjmaa
/- THE CELL 'sum', in the pinned program and in every row, IS THE sha256 OF THE DUMP (.gsa) THAT YtfoaaoigkdbjmaaProg.lean LOADS. Nothing in Lean hashes anything: it is a label: what it is worth is what the hold of that sum in a sandbox is worth. -/
noncomputable def Try.pinned : Pinned := { name := "ytfoaaoigkdbjmaa", sum := "c3d3e63846b1d14c5bdcb1ec25d8fea030be5e0db15971a3b983f1a8cb5f0a0a", checked := Try.checked }
namespace Rows
def none {H : Type} : Left H := { results := [], args := [] }

/-- 'leatlaw11.FlagsEncodes': WHATEVER THE INPUT: true; the input reads as it did. -/
def flagsEncodesSpec : ChangeSpec := { name := "flagsEncodes", fn := fun _ => fun
  | [d] => { results := [.lit (.bool true)], args := [d] }
  | _ => none }
def flagsEncodesRow : OpenClaim := { program := "ytfoaaoigkdbjmaa", sum := "c3d3e63846b1d14c5bdcb1ec25d8fea030be5e0db15971a3b983f1a8cb5f0a0a", func := "leat/leatlaw11.FlagsEncodes", spec := "flagsEncodes", recurses := true, apart := false }
def FlagsEncodesSaid : Prop := flagsEncodesRow.holds Try.pinned (OpenSpec.ofChange flagsEncodesSpec)

/-- ITS FALSE NEIGHBOUR: 'it returns false'. Refute it at one input. -/
def flagsEncodesWrong : ChangeSpec := { name := "flagsEncodes", fn := fun _ => fun
  | [d] => { results := [.lit (.bool false)], args := [d] }
  | _ => none }
def FlagsEncodesWrongFalsely : Prop := flagsEncodesRow.holds Try.pinned (OpenSpec.ofChange flagsEncodesWrong)

/-- 'leatlaw11.FlagsDecodes': WHATEVER THE INPUT: true; the input reads as it did. -/
def flagsDecodesSpec : ChangeSpec := { name := "flagsDecodes", fn := fun _ => fun
  | [d] => { results := [.lit (.bool true)], args := [d] }
  | _ => none }
def flagsDecodesRow : OpenClaim := { program := "ytfoaaoigkdbjmaa", sum := "c3d3e63846b1d14c5bdcb1ec25d8fea030be5e0db15971a3b983f1a8cb5f0a0a", func := "leat/leatlaw11.FlagsDecodes", spec := "flagsDecodes", apart := false }
def FlagsDecodesSaid : Prop := flagsDecodesRow.holds Try.pinned (OpenSpec.ofChange flagsDecodesSpec)

/-- ITS FALSE NEIGHBOUR: 'it returns false'. Refute it at one input. -/
def flagsDecodesWrong : ChangeSpec := { name := "flagsDecodes", fn := fun _ => fun
  | [d] => { results := [.lit (.bool false)], args := [d] }
  | _ => none }
def FlagsDecodesWrongFalsely : Prop := flagsDecodesRow.holds Try.pinned (OpenSpec.ofChange flagsDecodesWrong)

/-- 'leatlaw11.FlagsBits': WHATEVER THE INPUT: true; the input reads as it did. -/
def flagsBitsSpec : ChangeSpec := { name := "flagsBits", fn := fun _ => fun
  | [d1, d2, d3] => { results := [.lit (.bool true)], args := [d1, d2, d3] }
  | _ => none }
def flagsBitsRow : OpenClaim := { program := "ytfoaaoigkdbjmaa", sum := "c3d3e63846b1d14c5bdcb1ec25d8fea030be5e0db15971a3b983f1a8cb5f0a0a", func := "leat/leatlaw11.FlagsBits", spec := "flagsBits", apart := false }
def FlagsBitsSaid : Prop := flagsBitsRow.holds Try.pinned (OpenSpec.ofChange flagsBitsSpec)

/-- ITS FALSE NEIGHBOUR: 'it returns false'. Refute it at one input. -/
def flagsBitsWrong : ChangeSpec := { name := "flagsBits", fn := fun _ => fun
  | [d1, d2, d3] => { results := [.lit (.bool false)], args := [d1, d2, d3] }
  | _ => none }
def FlagsBitsWrongFalsely : Prop := flagsBitsRow.holds Try.pinned (OpenSpec.ofChange flagsBitsWrong)

/-- 'leatlaw11.FlagsBack': WHATEVER THE INPUT: true; the input reads as it did. -/
def flagsBackSpec : ChangeSpec := { name := "flagsBack", fn := fun _ => fun
  | [d1, d2] => { results := [.lit (.bool true)], args := [d1, d2] }
  | _ => none }
def flagsBackRow : OpenClaim := { program := "ytfoaaoigkdbjmaa", sum := "c3d3e63846b1d14c5bdcb1ec25d8fea030be5e0db15971a3b983f1a8cb5f0a0a", func := "leat/leatlaw11.FlagsBack", spec := "flagsBack", apart := false }
def FlagsBackSaid : Prop := flagsBackRow.holds Try.pinned (OpenSpec.ofChange flagsBackSpec)

/-- ITS FALSE NEIGHBOUR: 'it returns false'. Refute it at one input. -/
def flagsBackWrong : ChangeSpec := { name := "flagsBack", fn := fun _ => fun
  | [d1, d2] => { results := [.lit (.bool false)], args := [d1, d2] }
  | _ => none }
def FlagsBackWrongFalsely : Prop := flagsBackRow.holds Try.pinned (OpenSpec.ofChange flagsBackWrong)

/-- 'leatlaw11.FlagsText': WHATEVER THE INPUT: true; the input reads as it did. -/
def flagsTextSpec : ChangeSpec := { name := "flagsText", fn := fun _ => fun
  | [d1, d2] => { results := [.lit (.bool true)], args := [d1, d2] }
  | _ => none }
def flagsTextRow : OpenClaim := { program := "ytfoaaoigkdbjmaa", sum := "c3d3e63846b1d14c5bdcb1ec25d8fea030be5e0db15971a3b983f1a8cb5f0a0a", func := "leat/leatlaw11.FlagsText", spec := "flagsText", apart := false }
def FlagsTextSaid : Prop := flagsTextRow.holds Try.pinned (OpenSpec.ofChange flagsTextSpec)

/-- ITS FALSE NEIGHBOUR: 'it returns false'. Refute it at one input. -/
def flagsTextWrong : ChangeSpec := { name := "flagsText", fn := fun _ => fun
  | [d1, d2] => { results := [.lit (.bool false)], args := [d1, d2] }
  | _ => none }
def FlagsTextWrongFalsely : Prop := flagsTextRow.holds Try.pinned (OpenSpec.ofChange flagsTextWrong)

/- THE SECOND FORM. 'bulk': how many values and letters a reading holds, each counted each time it is reached (what is shared counts as often as it is met; a slice's spare places count too). A statement '..UptoSaid' is the law's where the arguments, and the package variables that the reading takes, are together of bulk at most 1048576: NARROWER than '..Said'. Prove '..Said' where nothing that the law and all that it calls make is longer than what came in: it says more and counts as full. Else prove '..UptoSaid'. A law counts once. -/
mutual
def uptoBulk {H : Type} : DataW H → Nat
  | .lit (.string bytes) => bytes.length + 1
  | .lit _ => 1
  | .nil => 1
  | .ptr d => uptoBulk d + 1
  | .slice elems spare => uptoBulkAll elems + uptoBulkAll spare + 1
  | .agg parts => uptoBulkAll parts + 1
  | .iface _ d => uptoBulk d + 1
  | .map entries => uptoBulkEntries entries + 1
  | .held _ => 1
def uptoBulkAll {H : Type} : List (DataW H) → Nat
  | [] => 0
  | d :: r => uptoBulk d + uptoBulkAll r
def uptoBulkEntries {H : Type} : List (Lit × DataW H) → Nat
  | [] => 0
  | x :: r => uptoBulkEntry x + uptoBulkEntries r
def uptoBulkEntry {H : Type} : Lit × DataW H → Nat
  | (.string bytes, d) => bytes.length + uptoBulk d + 1
  | (_, d) => uptoBulk d + 1
 end
def uptoSmall : (H : Type) → List (DataW H) → Bool := fun _ ds => decide (uptoBulkAll ds ≤ 1048576)
def OpenSpec.upto (s : _root_.Go.ChangeSpec) : _root_.Go.OpenSpec := { _root_.Go.OpenSpec.ofChange s with cond := some uptoSmall }

/-- 'leatlaw11.FlagsEncodes', WHERE WHAT IT READS IS OF BULK AT MOST 1048576: true; the input reads as it did. -/
def flagsEncodesUptoRow : OpenClaim := { program := "ytfoaaoigkdbjmaa", sum := "c3d3e63846b1d14c5bdcb1ec25d8fea030be5e0db15971a3b983f1a8cb5f0a0a", func := "leat/leatlaw11.FlagsEncodes", spec := "flagsEncodes", recurses := true, apart := false, narrowed := true }
def FlagsEncodesUptoSaid : Prop := flagsEncodesUptoRow.holds Try.pinned (OpenSpec.upto flagsEncodesSpec)

/-- 'leatlaw11.FlagsDecodes', WHERE WHAT IT READS IS OF BULK AT MOST 1048576: true; the input reads as it did. -/
def flagsDecodesUptoRow : OpenClaim := { program := "ytfoaaoigkdbjmaa", sum := "c3d3e63846b1d14c5bdcb1ec25d8fea030be5e0db15971a3b983f1a8cb5f0a0a", func := "leat/leatlaw11.FlagsDecodes", spec := "flagsDecodes", apart := false, narrowed := true }
def FlagsDecodesUptoSaid : Prop := flagsDecodesUptoRow.holds Try.pinned (OpenSpec.upto flagsDecodesSpec)

/-- 'leatlaw11.FlagsBits', WHERE WHAT IT READS IS OF BULK AT MOST 1048576: true; the input reads as it did. -/
def flagsBitsUptoRow : OpenClaim := { program := "ytfoaaoigkdbjmaa", sum := "c3d3e63846b1d14c5bdcb1ec25d8fea030be5e0db15971a3b983f1a8cb5f0a0a", func := "leat/leatlaw11.FlagsBits", spec := "flagsBits", apart := false, narrowed := true }
def FlagsBitsUptoSaid : Prop := flagsBitsUptoRow.holds Try.pinned (OpenSpec.upto flagsBitsSpec)

/-- 'leatlaw11.FlagsBack', WHERE WHAT IT READS IS OF BULK AT MOST 1048576: true; the input reads as it did. -/
def flagsBackUptoRow : OpenClaim := { program := "ytfoaaoigkdbjmaa", sum := "c3d3e63846b1d14c5bdcb1ec25d8fea030be5e0db15971a3b983f1a8cb5f0a0a", func := "leat/leatlaw11.FlagsBack", spec := "flagsBack", apart := false, narrowed := true }
def FlagsBackUptoSaid : Prop := flagsBackUptoRow.holds Try.pinned (OpenSpec.upto flagsBackSpec)

/-- 'leatlaw11.FlagsText', WHERE WHAT IT READS IS OF BULK AT MOST 1048576: true; the input reads as it did. -/
def flagsTextUptoRow : OpenClaim := { program := "ytfoaaoigkdbjmaa", sum := "c3d3e63846b1d14c5bdcb1ec25d8fea030be5e0db15971a3b983f1a8cb5f0a0a", func := "leat/leatlaw11.FlagsText", spec := "flagsText", apart := false, narrowed := true }
def FlagsTextUptoSaid : Prop := flagsTextUptoRow.holds Try.pinned (OpenSpec.upto flagsTextSpec)

end Rows
end Go.Proofs.Ytfoaaoigkdbjmaa
