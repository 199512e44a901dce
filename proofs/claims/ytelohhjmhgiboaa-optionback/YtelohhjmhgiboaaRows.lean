/-
  No cell of these rows narrows 'for every input' (looked for: loops, veiled, ifaces, maps, wideKeys, modest, calm, conditions, laid).
  DERIVED. THE GIVEN ROWS OF THIS SEAT. 4 by the template 'for every input the law returns true; each argument reads behind the call as it read before'; 0 by the template 'total and deterministic' (their statements: YtelohhjmhgiboaaTotals.lean).
  GIVEN WITH THE SEED: the statements are not yours to turn. If you find one false, say at which input.
  Laid BY PROGRAM, IN A SANDBOX (cutbox-rows.mjs): the forced cells as the released guide's own fill.sh prints them over the translation 068c9ff0e5adfd7c… (all of the seat's roots in one cut). By AI agents, Wed Nov 11 2026. No macro, syntax, notation, axiom, sorry.
-/
import Derived.Test.YtelohhjmhgiboaaChecked
import GoSem.Claim
import GoSem.ClaimJoined
import GoSem.ClaimMapViews
import Derived.JoinedTies
import Derived.KernelRfl
namespace Go.Proofs.Ytelohhjmhgiboaa
/- THE CELL 'sum', in the pinned program and in every row, IS THE sha256 OF THE DUMP (.gsa) THAT YtelohhjmhgiboaaProg.lean LOADS. Nothing in Lean hashes anything: it is a label: what it is worth is what the hold of that sum in a sandbox is worth. -/
noncomputable def Try.pinned : Pinned := { name := "ytelohhjmhgiboaa", sum := "068c9ff0e5adfd7ca824665617f18e289c17a9b9d6ae2763a4b223618e4da7e6", checked := Try.checked }
namespace Rows
def none {H : Type} : Left H := { results := [], args := [] }

/-- 'leatlaw12.OptionParses': WHATEVER THE INPUT: true; the input reads as it did. -/
def optionParsesSpec : ChangeSpec := { name := "optionParses", fn := fun _ => fun
  | [d] => { results := [.lit (.bool true)], args := [d] }
  | _ => none }
def optionParsesRow : OpenClaim := { program := "ytelohhjmhgiboaa", sum := "068c9ff0e5adfd7ca824665617f18e289c17a9b9d6ae2763a4b223618e4da7e6", func := "leat/leatlaw12.OptionParses", spec := "optionParses", unfollowed := true, recurses := true, apart := false }
def OptionParsesSaid : Prop := optionParsesRow.holds Try.pinned (OpenSpec.ofChange optionParsesSpec)

/-- ITS FALSE NEIGHBOUR: 'it returns false'. Refute it at one input. -/
def optionParsesWrong : ChangeSpec := { name := "optionParses", fn := fun _ => fun
  | [d] => { results := [.lit (.bool false)], args := [d] }
  | _ => none }
def OptionParsesWrongFalsely : Prop := optionParsesRow.holds Try.pinned (OpenSpec.ofChange optionParsesWrong)

/-- 'leatlaw12.OptionPrints': WHATEVER THE INPUT: true; the input reads as it did. -/
def optionPrintsSpec : ChangeSpec := { name := "optionPrints", fn := fun _ => fun
  | [d1, d2] => { results := [.lit (.bool true)], args := [d1, d2] }
  | _ => none }
def optionPrintsRow : OpenClaim := { program := "ytelohhjmhgiboaa", sum := "068c9ff0e5adfd7ca824665617f18e289c17a9b9d6ae2763a4b223618e4da7e6", func := "leat/leatlaw12.OptionPrints", spec := "optionPrints", unfollowed := true, recurses := true, apart := false }
def OptionPrintsSaid : Prop := optionPrintsRow.holds Try.pinned (OpenSpec.ofChange optionPrintsSpec)

/-- ITS FALSE NEIGHBOUR: 'it returns false'. Refute it at one input. -/
def optionPrintsWrong : ChangeSpec := { name := "optionPrints", fn := fun _ => fun
  | [d1, d2] => { results := [.lit (.bool false)], args := [d1, d2] }
  | _ => none }
def OptionPrintsWrongFalsely : Prop := optionPrintsRow.holds Try.pinned (OpenSpec.ofChange optionPrintsWrong)

/-- 'leatlaw12.OptionCounts': WHATEVER THE INPUT: true; the input reads as it did. -/
def optionCountsSpec : ChangeSpec := { name := "optionCounts", fn := fun _ => fun
  | [d1, d2, d3] => { results := [.lit (.bool true)], args := [d1, d2, d3] }
  | _ => none }
def optionCountsRow : OpenClaim := { program := "ytelohhjmhgiboaa", sum := "068c9ff0e5adfd7ca824665617f18e289c17a9b9d6ae2763a4b223618e4da7e6", func := "leat/leatlaw12.OptionCounts", spec := "optionCounts", unfollowed := true, recurses := true, apart := false }
def OptionCountsSaid : Prop := optionCountsRow.holds Try.pinned (OpenSpec.ofChange optionCountsSpec)

/-- ITS FALSE NEIGHBOUR: 'it returns false'. Refute it at one input. -/
def optionCountsWrong : ChangeSpec := { name := "optionCounts", fn := fun _ => fun
  | [d1, d2, d3] => { results := [.lit (.bool false)], args := [d1, d2, d3] }
  | _ => none }
def OptionCountsWrongFalsely : Prop := optionCountsRow.holds Try.pinned (OpenSpec.ofChange optionCountsWrong)

/-- 'leatlaw12.OptionBack': WHATEVER THE INPUT: true; the input reads as it did. -/
def optionBackSpec : ChangeSpec := { name := "optionBack", fn := fun _ => fun
  | [d1, d2] => { results := [.lit (.bool true)], args := [d1, d2] }
  | _ => none }
def optionBackRow : OpenClaim := { program := "ytelohhjmhgiboaa", sum := "068c9ff0e5adfd7ca824665617f18e289c17a9b9d6ae2763a4b223618e4da7e6", func := "leat/leatlaw12.OptionBack", spec := "optionBack", unfollowed := true, recurses := true, apart := false }
def OptionBackSaid : Prop := optionBackRow.holds Try.pinned (OpenSpec.ofChange optionBackSpec)

/-- ITS FALSE NEIGHBOUR: 'it returns false'. Refute it at one input. -/
def optionBackWrong : ChangeSpec := { name := "optionBack", fn := fun _ => fun
  | [d1, d2] => { results := [.lit (.bool false)], args := [d1, d2] }
  | _ => none }
def OptionBackWrongFalsely : Prop := optionBackRow.holds Try.pinned (OpenSpec.ofChange optionBackWrong)

/- THE SECOND FORM. 'bulk': how many values and letters a reading holds, each counted each time it is reached (what is shared counts as often as it is met; a slice's spare places count too). A statement '..UptoSaid' is the law's where the arguments, and the package variables that the reading takes, are together of bulk at most 1048576: NARROWER than '..Said'. Prove '..Said' where nothing that the law and all that it calls make is longer than what came in: it says more and counts as full. Else prove '..UptoSaid'. A law counts once. -/
mutual
def uptoBulk {H : Type} : DataW H → Nat
  | .lit (.string bytes) => bytes.length + 1
  | .lit _ => 1
  | .nil => 1
  | .ptr d => uptoBulk d + 1
  | .slice elems spare => uptoBulkAll elems + uptoBulkAll spare + 1
  | .agg parts => uptoBulkAll parts + 1
  | .iface _ d => uptoBulk d + 1
  | .map entries => uptoBulkEntries entries + 1
  | .held _ => 1
def uptoBulkAll {H : Type} : List (DataW H) → Nat
  | [] => 0
  | d :: r => uptoBulk d + uptoBulkAll r
def uptoBulkEntries {H : Type} : List (Lit × DataW H) → Nat
  | [] => 0
  | x :: r => uptoBulkEntry x + uptoBulkEntries r
def uptoBulkEntry {H : Type} : Lit × DataW H → Nat
  | (.string bytes, d) => bytes.length + uptoBulk d + 1
  | (_, d) => uptoBulk d + 1
 end
def uptoSmall : (H : Type) → List (DataW H) → Bool := fun _ ds => decide (uptoBulkAll ds ≤ 1048576)
def OpenSpec.upto (s : _root_.Go.ChangeSpec) : _root_.Go.OpenSpec := { _root_.Go.OpenSpec.ofChange s with cond := some uptoSmall }

/-- 'leatlaw12.OptionParses', WHERE WHAT IT READS IS OF BULK AT MOST 1048576: true; the input reads as it did. -/
def optionParsesUptoRow : OpenClaim := { program := "ytelohhjmhgiboaa", sum := "068c9ff0e5adfd7ca824665617f18e289c17a9b9d6ae2763a4b223618e4da7e6", func := "leat/leatlaw12.OptionParses", spec := "optionParses", unfollowed := true, recurses := true, apart := false, narrowed := true }
def OptionParsesUptoSaid : Prop := optionParsesUptoRow.holds Try.pinned (OpenSpec.upto optionParsesSpec)

/-- 'leatlaw12.OptionPrints', WHERE WHAT IT READS IS OF BULK AT MOST 1048576: true; the input reads as it did. -/
def optionPrintsUptoRow : OpenClaim := { program := "ytelohhjmhgiboaa", sum := "068c9ff0e5adfd7ca824665617f18e289c17a9b9d6ae2763a4b223618e4da7e6", func := "leat/leatlaw12.OptionPrints", spec := "optionPrints", unfollowed := true, recurses := true, apart := false, narrowed := true }
def OptionPrintsUptoSaid : Prop := optionPrintsUptoRow.holds Try.pinned (OpenSpec.upto optionPrintsSpec)

/-- 'leatlaw12.OptionCounts', WHERE WHAT IT READS IS OF BULK AT MOST 1048576: true; the input reads as it did. -/
def optionCountsUptoRow : OpenClaim := { program := "ytelohhjmhgiboaa", sum := "068c9ff0e5adfd7ca824665617f18e289c17a9b9d6ae2763a4b223618e4da7e6", func := "leat/leatlaw12.OptionCounts", spec := "optionCounts", unfollowed := true, recurses := true, apart := false, narrowed := true }
def OptionCountsUptoSaid : Prop := optionCountsUptoRow.holds Try.pinned (OpenSpec.upto optionCountsSpec)

/-- 'leatlaw12.OptionBack', WHERE WHAT IT READS IS OF BULK AT MOST 1048576: true; the input reads as it did. -/
def optionBackUptoRow : OpenClaim := { program := "ytelohhjmhgiboaa", sum := "068c9ff0e5adfd7ca824665617f18e289c17a9b9d6ae2763a4b223618e4da7e6", func := "leat/leatlaw12.OptionBack", spec := "optionBack", unfollowed := true, recurses := true, apart := false, narrowed := true }
def OptionBackUptoSaid : Prop := optionBackUptoRow.holds Try.pinned (OpenSpec.upto optionBackSpec)

end Rows
end Go.Proofs.Ytelohhjmhgiboaa
