/-
  No cell of these rows narrows 'for every input' (looked for: loops, veiled, ifaces, maps, wideKeys, modest, calm, conditions, laid).
  DERIVED. THE GIVEN ROWS OF THIS SEAT. 4 by the template 'for every input the law returns true; each argument reads behind the call as it read before'; 0 by the template 'total and deterministic' (their statements: YtellpppkbbbadaaTotals.lean).
  GIVEN WITH THE SEED: the statements are not yours to turn. If you find one false, say at which input.
  Laid BY PROGRAM, IN A SANDBOX (cutbox-rows.mjs): the forced cells as the released guide's own fill.sh prints them over the translation 6177979cedf54ad8… (all of the seat's roots in one cut). By AI agents, Wed Nov 11 2026. No macro, syntax, notation, axiom, sorry.
-/
import Derived.Test.YtellpppkbbbadaaChecked
import GoSem.Claim
import GoSem.ClaimJoined
import GoSem.ClaimMapViews
import Derived.JoinedTies
import Derived.KernelRfl
namespace Go.Proofs.Ytellpppkbbbadaa
/- THE CELL 'sum', in the pinned program and in every row, IS THE sha256 OF THE DUMP (.gsa) THAT YtellpppkbbbadaaProg.lean LOADS. Nothing in Lean hashes anything: it is a label: what it is worth is what the hold of that sum in a sandbox is worth. -/
noncomputable def Try.pinned : Pinned := { name := "ytellpppkbbbadaa", sum := "6177979cedf54ad81c2aa8e9c37fa1cdfb269fdb162d01f884e12dc7f1951e73", checked := Try.checked }
namespace Rows
def none {H : Type} : Left H := { results := [], args := [] }

/-- 'leatlaw03.SerialCuts': WHATEVER THE INPUT: true; the input reads as it did. -/
def serialCutsSpec : ChangeSpec := { name := "serialCuts", fn := fun _ => fun
  | [d1, d2, d3] => { results := [.lit (.bool true)], args := [d1, d2, d3] }
  | _ => none }
def serialCutsRow : OpenClaim := { program := "ytellpppkbbbadaa", sum := "6177979cedf54ad81c2aa8e9c37fa1cdfb269fdb162d01f884e12dc7f1951e73", func := "leat/leatlaw03.SerialCuts", spec := "serialCuts", unfollowed := true, recurses := true, apart := false }
def SerialCutsSaid : Prop := serialCutsRow.holds Try.pinned (OpenSpec.ofChange serialCutsSpec)

/-- ITS FALSE NEIGHBOUR: 'it returns false'. Refute it at one input. -/
def serialCutsWrong : ChangeSpec := { name := "serialCuts", fn := fun _ => fun
  | [d1, d2, d3] => { results := [.lit (.bool false)], args := [d1, d2, d3] }
  | _ => none }
def SerialCutsWrongFalsely : Prop := serialCutsRow.holds Try.pinned (OpenSpec.ofChange serialCutsWrong)

/-- 'leatlaw03.SerialDiffs': WHATEVER THE INPUT: true; the input reads as it did. -/
def serialDiffsSpec : ChangeSpec := { name := "serialDiffs", fn := fun _ => fun
  | [d1, d2, d3] => { results := [.lit (.bool true)], args := [d1, d2, d3] }
  | _ => none }
def serialDiffsRow : OpenClaim := { program := "ytellpppkbbbadaa", sum := "6177979cedf54ad81c2aa8e9c37fa1cdfb269fdb162d01f884e12dc7f1951e73", func := "leat/leatlaw03.SerialDiffs", spec := "serialDiffs", unfollowed := true, recurses := true, apart := false }
def SerialDiffsSaid : Prop := serialDiffsRow.holds Try.pinned (OpenSpec.ofChange serialDiffsSpec)

/-- ITS FALSE NEIGHBOUR: 'it returns false'. Refute it at one input. -/
def serialDiffsWrong : ChangeSpec := { name := "serialDiffs", fn := fun _ => fun
  | [d1, d2, d3] => { results := [.lit (.bool false)], args := [d1, d2, d3] }
  | _ => none }
def SerialDiffsWrongFalsely : Prop := serialDiffsRow.holds Try.pinned (OpenSpec.ofChange serialDiffsWrong)

/-- 'leatlaw03.SerialUnwraps': WHATEVER THE INPUT: true; the input reads as it did. -/
def serialUnwrapsSpec : ChangeSpec := { name := "serialUnwraps", fn := fun _ => fun
  | [d1, d2, d3] => { results := [.lit (.bool true)], args := [d1, d2, d3] }
  | _ => none }
def serialUnwrapsRow : OpenClaim := { program := "ytellpppkbbbadaa", sum := "6177979cedf54ad81c2aa8e9c37fa1cdfb269fdb162d01f884e12dc7f1951e73", func := "leat/leatlaw03.SerialUnwraps", spec := "serialUnwraps", unfollowed := true, recurses := true, apart := false }
def SerialUnwrapsSaid : Prop := serialUnwrapsRow.holds Try.pinned (OpenSpec.ofChange serialUnwrapsSpec)

/-- ITS FALSE NEIGHBOUR: 'it returns false'. Refute it at one input. -/
def serialUnwrapsWrong : ChangeSpec := { name := "serialUnwraps", fn := fun _ => fun
  | [d1, d2, d3] => { results := [.lit (.bool false)], args := [d1, d2, d3] }
  | _ => none }
def SerialUnwrapsWrongFalsely : Prop := serialUnwrapsRow.holds Try.pinned (OpenSpec.ofChange serialUnwrapsWrong)

/-- 'leatlaw03.SerialBack': WHATEVER THE INPUT: true; the input reads as it did. -/
def serialBackSpec : ChangeSpec := { name := "serialBack", fn := fun _ => fun
  | [d1, d2, d3] => { results := [.lit (.bool true)], args := [d1, d2, d3] }
  | _ => none }
def serialBackRow : OpenClaim := { program := "ytellpppkbbbadaa", sum := "6177979cedf54ad81c2aa8e9c37fa1cdfb269fdb162d01f884e12dc7f1951e73", func := "leat/leatlaw03.SerialBack", spec := "serialBack", unfollowed := true, recurses := true, apart := false }
def SerialBackSaid : Prop := serialBackRow.holds Try.pinned (OpenSpec.ofChange serialBackSpec)

/-- ITS FALSE NEIGHBOUR: 'it returns false'. Refute it at one input. -/
def serialBackWrong : ChangeSpec := { name := "serialBack", fn := fun _ => fun
  | [d1, d2, d3] => { results := [.lit (.bool false)], args := [d1, d2, d3] }
  | _ => none }
def SerialBackWrongFalsely : Prop := serialBackRow.holds Try.pinned (OpenSpec.ofChange serialBackWrong)

/- THE SECOND FORM. 'bulk': how many values and letters a reading holds, each counted each time it is reached (what is shared counts as often as it is met; a slice's spare places count too). A statement '..UptoSaid' is the law's where the arguments, and the package variables that the reading takes, are together of bulk at most 1048576: NARROWER than '..Said'. Prove '..Said' where nothing that the law and all that it calls make is longer than what came in: it says more and counts as full. Else prove '..UptoSaid'. A law counts once. -/
mutual
def uptoBulk {H : Type} : DataW H → Nat
  | .lit (.string bytes) => bytes.length + 1
  | .lit _ => 1
  | .nil => 1
  | .ptr d => uptoBulk d + 1
  | .slice elems spare => uptoBulkAll elems + uptoBulkAll spare + 1
  | .agg parts => uptoBulkAll parts + 1
  | .iface _ d => uptoBulk d + 1
  | .map entries => uptoBulkEntries entries + 1
  | .held _ => 1
def uptoBulkAll {H : Type} : List (DataW H) → Nat
  | [] => 0
  | d :: r => uptoBulk d + uptoBulkAll r
def uptoBulkEntries {H : Type} : List (Lit × DataW H) → Nat
  | [] => 0
  | x :: r => uptoBulkEntry x + uptoBulkEntries r
def uptoBulkEntry {H : Type} : Lit × DataW H → Nat
  | (.string bytes, d) => bytes.length + uptoBulk d + 1
  | (_, d) => uptoBulk d + 1
 end
def uptoSmall : (H : Type) → List (DataW H) → Bool := fun _ ds => decide (uptoBulkAll ds ≤ 1048576)
def OpenSpec.upto (s : _root_.Go.ChangeSpec) : _root_.Go.OpenSpec := { _root_.Go.OpenSpec.ofChange s with cond := some uptoSmall }

/-- 'leatlaw03.SerialCuts', WHERE WHAT IT READS IS OF BULK AT MOST 1048576: true; the input reads as it did. -/
def serialCutsUptoRow : OpenClaim := { program := "ytellpppkbbbadaa", sum := "6177979cedf54ad81c2aa8e9c37fa1cdfb269fdb162d01f884e12dc7f1951e73", func := "leat/leatlaw03.SerialCuts", spec := "serialCuts", unfollowed := true, recurses := true, apart := false, narrowed := true }
def SerialCutsUptoSaid : Prop := serialCutsUptoRow.holds Try.pinned (OpenSpec.upto serialCutsSpec)

/-- 'leatlaw03.SerialDiffs', WHERE WHAT IT READS IS OF BULK AT MOST 1048576: true; the input reads as it did. -/
def serialDiffsUptoRow : OpenClaim := { program := "ytellpppkbbbadaa", sum := "6177979cedf54ad81c2aa8e9c37fa1cdfb269fdb162d01f884e12dc7f1951e73", func := "leat/leatlaw03.SerialDiffs", spec := "serialDiffs", unfollowed := true, recurses := true, apart := false, narrowed := true }
def SerialDiffsUptoSaid : Prop := serialDiffsUptoRow.holds Try.pinned (OpenSpec.upto serialDiffsSpec)

/-- 'leatlaw03.SerialUnwraps', WHERE WHAT IT READS IS OF BULK AT MOST 1048576: true; the input reads as it did. -/
def serialUnwrapsUptoRow : OpenClaim := { program := "ytellpppkbbbadaa", sum := "6177979cedf54ad81c2aa8e9c37fa1cdfb269fdb162d01f884e12dc7f1951e73", func := "leat/leatlaw03.SerialUnwraps", spec := "serialUnwraps", unfollowed := true, recurses := true, apart := false, narrowed := true }
def SerialUnwrapsUptoSaid : Prop := serialUnwrapsUptoRow.holds Try.pinned (OpenSpec.upto serialUnwrapsSpec)

/-- 'leatlaw03.SerialBack', WHERE WHAT IT READS IS OF BULK AT MOST 1048576: true; the input reads as it did. -/
def serialBackUptoRow : OpenClaim := { program := "ytellpppkbbbadaa", sum := "6177979cedf54ad81c2aa8e9c37fa1cdfb269fdb162d01f884e12dc7f1951e73", func := "leat/leatlaw03.SerialBack", spec := "serialBack", unfollowed := true, recurses := true, apart := false, narrowed := true }
def SerialBackUptoSaid : Prop := serialBackUptoRow.holds Try.pinned (OpenSpec.upto serialBackSpec)

end Rows
end Go.Proofs.Ytellpppkbbbadaa
