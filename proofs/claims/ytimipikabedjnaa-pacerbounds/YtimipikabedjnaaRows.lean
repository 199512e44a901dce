/-
  No cell of these rows narrows 'for every input' (looked for: loops, veiled, ifaces, maps, wideKeys, modest, calm, conditions, laid).
  DERIVED. THE GIVEN ROWS OF THIS SEAT. 4 by the template 'for every input the law returns true; each argument reads behind the call as it read before'; 0 by the template 'total and deterministic' (their statements: YtimipikabedjnaaTotals.lean).
  GIVEN WITH THE SEED: the statements are not yours to turn. If you find one false, say at which input.
  Laid BY PROGRAM, IN A SANDBOX (cutbox-rows.mjs): the forced cells as the released guide's own fill.sh prints them over the translation 29da700d9d429dc8… (all of the seat's roots in one cut). By AI agents, Wed Nov 11 2026. No macro, syntax, notation, axiom, sorry.
-/
import Derived.Test.YtimipikabedjnaaChecked
import GoSem.Claim
import GoSem.ClaimJoined
import GoSem.ClaimMapViews
import Derived.JoinedTies
import Derived.KernelRfl
namespace Go.Proofs.Ytimipikabedjnaa
/- THE CELL 'sum', in the pinned program and in every row, IS THE sha256 OF THE DUMP (.gsa) THAT YtimipikabedjnaaProg.lean LOADS. Nothing in Lean hashes anything: it is a label: what it is worth is what the hold of that sum in a sandbox is worth. -/
noncomputable def Try.pinned : Pinned := { name := "ytimipikabedjnaa", sum := "29da700d9d429dc8aca4bfe61d3ff4b07c17288230ba9fce04983b76fbe0bf2b", checked := Try.checked }
namespace Rows
def none {H : Type} : Left H := { results := [], args := [] }

/-- 'leatlaw23.PacerFills': WHATEVER THE INPUT: true; the input reads as it did. -/
def pacerFillsSpec : ChangeSpec := { name := "pacerFills", fn := fun _ => fun
  | [d1, d2, d3] => { results := [.lit (.bool true)], args := [d1, d2, d3] }
  | _ => none }
def pacerFillsRow : OpenClaim := { program := "ytimipikabedjnaa", sum := "29da700d9d429dc8aca4bfe61d3ff4b07c17288230ba9fce04983b76fbe0bf2b", func := "leat/leatlaw23.PacerFills", spec := "pacerFills", unfollowed := true, recurses := true, apart := false }
def PacerFillsSaid : Prop := pacerFillsRow.holds Try.pinned (OpenSpec.ofChange pacerFillsSpec)

/-- ITS FALSE NEIGHBOUR: 'it returns false'. Refute it at one input. -/
def pacerFillsWrong : ChangeSpec := { name := "pacerFills", fn := fun _ => fun
  | [d1, d2, d3] => { results := [.lit (.bool false)], args := [d1, d2, d3] }
  | _ => none }
def PacerFillsWrongFalsely : Prop := pacerFillsRow.holds Try.pinned (OpenSpec.ofChange pacerFillsWrong)

/-- 'leatlaw23.PacerTells': WHATEVER THE INPUT: true; the input reads as it did. -/
def pacerTellsSpec : ChangeSpec := { name := "pacerTells", fn := fun _ => fun
  | [d1, d2, d3] => { results := [.lit (.bool true)], args := [d1, d2, d3] }
  | _ => none }
def pacerTellsRow : OpenClaim := { program := "ytimipikabedjnaa", sum := "29da700d9d429dc8aca4bfe61d3ff4b07c17288230ba9fce04983b76fbe0bf2b", func := "leat/leatlaw23.PacerTells", spec := "pacerTells", unfollowed := true, recurses := true, apart := false }
def PacerTellsSaid : Prop := pacerTellsRow.holds Try.pinned (OpenSpec.ofChange pacerTellsSpec)

/-- ITS FALSE NEIGHBOUR: 'it returns false'. Refute it at one input. -/
def pacerTellsWrong : ChangeSpec := { name := "pacerTells", fn := fun _ => fun
  | [d1, d2, d3] => { results := [.lit (.bool false)], args := [d1, d2, d3] }
  | _ => none }
def PacerTellsWrongFalsely : Prop := pacerTellsRow.holds Try.pinned (OpenSpec.ofChange pacerTellsWrong)

/-- 'leatlaw23.PacerFirst': WHATEVER THE INPUT: true; the input reads as it did. -/
def pacerFirstSpec : ChangeSpec := { name := "pacerFirst", fn := fun _ => fun
  | [d1, d2, d3] => { results := [.lit (.bool true)], args := [d1, d2, d3] }
  | _ => none }
def pacerFirstRow : OpenClaim := { program := "ytimipikabedjnaa", sum := "29da700d9d429dc8aca4bfe61d3ff4b07c17288230ba9fce04983b76fbe0bf2b", func := "leat/leatlaw23.PacerFirst", spec := "pacerFirst", unfollowed := true, recurses := true, apart := false }
def PacerFirstSaid : Prop := pacerFirstRow.holds Try.pinned (OpenSpec.ofChange pacerFirstSpec)

/-- ITS FALSE NEIGHBOUR: 'it returns false'. Refute it at one input. -/
def pacerFirstWrong : ChangeSpec := { name := "pacerFirst", fn := fun _ => fun
  | [d1, d2, d3] => { results := [.lit (.bool false)], args := [d1, d2, d3] }
  | _ => none }
def PacerFirstWrongFalsely : Prop := pacerFirstRow.holds Try.pinned (OpenSpec.ofChange pacerFirstWrong)

/-- 'leatlaw23.PacerBounds': WHATEVER THE INPUT: true; the input reads as it did. -/
def pacerBoundsSpec : ChangeSpec := { name := "pacerBounds", fn := fun _ => fun
  | [d1, d2, d3] => { results := [.lit (.bool true)], args := [d1, d2, d3] }
  | _ => none }
def pacerBoundsRow : OpenClaim := { program := "ytimipikabedjnaa", sum := "29da700d9d429dc8aca4bfe61d3ff4b07c17288230ba9fce04983b76fbe0bf2b", func := "leat/leatlaw23.PacerBounds", spec := "pacerBounds", unfollowed := true, recurses := true, apart := false }
def PacerBoundsSaid : Prop := pacerBoundsRow.holds Try.pinned (OpenSpec.ofChange pacerBoundsSpec)

/-- ITS FALSE NEIGHBOUR: 'it returns false'. Refute it at one input. -/
def pacerBoundsWrong : ChangeSpec := { name := "pacerBounds", fn := fun _ => fun
  | [d1, d2, d3] => { results := [.lit (.bool false)], args := [d1, d2, d3] }
  | _ => none }
def PacerBoundsWrongFalsely : Prop := pacerBoundsRow.holds Try.pinned (OpenSpec.ofChange pacerBoundsWrong)

/- THE SECOND FORM. 'bulk': how many values and letters a reading holds, each counted each time it is reached (what is shared counts as often as it is met; a slice's spare places count too). A statement '..UptoSaid' is the law's where the arguments, and the package variables that the reading takes, are together of bulk at most 1048576: NARROWER than '..Said'. Prove '..Said' where nothing that the law and all that it calls make is longer than what came in: it says more and counts as full. Else prove '..UptoSaid'. A law counts once. -/
mutual
def uptoBulk {H : Type} : DataW H → Nat
  | .lit (.string bytes) => bytes.length + 1
  | .lit _ => 1
  | .nil => 1
  | .ptr d => uptoBulk d + 1
  | .slice elems spare => uptoBulkAll elems + uptoBulkAll spare + 1
  | .agg parts => uptoBulkAll parts + 1
  | .iface _ d => uptoBulk d + 1
  | .map entries => uptoBulkEntries entries + 1
  | .held _ => 1
def uptoBulkAll {H : Type} : List (DataW H) → Nat
  | [] => 0
  | d :: r => uptoBulk d + uptoBulkAll r
def uptoBulkEntries {H : Type} : List (Lit × DataW H) → Nat
  | [] => 0
  | x :: r => uptoBulkEntry x + uptoBulkEntries r
def uptoBulkEntry {H : Type} : Lit × DataW H → Nat
  | (.string bytes, d) => bytes.length + uptoBulk d + 1
  | (_, d) => uptoBulk d + 1
 end
def uptoSmall : (H : Type) → List (DataW H) → Bool := fun _ ds => decide (uptoBulkAll ds ≤ 1048576)
def OpenSpec.upto (s : _root_.Go.ChangeSpec) : _root_.Go.OpenSpec := { _root_.Go.OpenSpec.ofChange s with cond := some uptoSmall }

/-- 'leatlaw23.PacerFills', WHERE WHAT IT READS IS OF BULK AT MOST 1048576: true; the input reads as it did. -/
def pacerFillsUptoRow : OpenClaim := { program := "ytimipikabedjnaa", sum := "29da700d9d429dc8aca4bfe61d3ff4b07c17288230ba9fce04983b76fbe0bf2b", func := "leat/leatlaw23.PacerFills", spec := "pacerFills", unfollowed := true, recurses := true, apart := false, narrowed := true }
def PacerFillsUptoSaid : Prop := pacerFillsUptoRow.holds Try.pinned (OpenSpec.upto pacerFillsSpec)

/-- 'leatlaw23.PacerTells', WHERE WHAT IT READS IS OF BULK AT MOST 1048576: true; the input reads as it did. -/
def pacerTellsUptoRow : OpenClaim := { program := "ytimipikabedjnaa", sum := "29da700d9d429dc8aca4bfe61d3ff4b07c17288230ba9fce04983b76fbe0bf2b", func := "leat/leatlaw23.PacerTells", spec := "pacerTells", unfollowed := true, recurses := true, apart := false, narrowed := true }
def PacerTellsUptoSaid : Prop := pacerTellsUptoRow.holds Try.pinned (OpenSpec.upto pacerTellsSpec)

/-- 'leatlaw23.PacerFirst', WHERE WHAT IT READS IS OF BULK AT MOST 1048576: true; the input reads as it did. -/
def pacerFirstUptoRow : OpenClaim := { program := "ytimipikabedjnaa", sum := "29da700d9d429dc8aca4bfe61d3ff4b07c17288230ba9fce04983b76fbe0bf2b", func := "leat/leatlaw23.PacerFirst", spec := "pacerFirst", unfollowed := true, recurses := true, apart := false, narrowed := true }
def PacerFirstUptoSaid : Prop := pacerFirstUptoRow.holds Try.pinned (OpenSpec.upto pacerFirstSpec)

/-- 'leatlaw23.PacerBounds', WHERE WHAT IT READS IS OF BULK AT MOST 1048576: true; the input reads as it did. -/
def pacerBoundsUptoRow : OpenClaim := { program := "ytimipikabedjnaa", sum := "29da700d9d429dc8aca4bfe61d3ff4b07c17288230ba9fce04983b76fbe0bf2b", func := "leat/leatlaw23.PacerBounds", spec := "pacerBounds", unfollowed := true, recurses := true, apart := false, narrowed := true }
def PacerBoundsUptoSaid : Prop := pacerBoundsUptoRow.holds Try.pinned (OpenSpec.upto pacerBoundsSpec)

end Rows
end Go.Proofs.Ytimipikabedjnaa
