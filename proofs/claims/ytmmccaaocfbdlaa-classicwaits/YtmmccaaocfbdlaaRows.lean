/-
  No cell of these rows narrows 'for every input' (looked for: loops, veiled, ifaces, maps, wideKeys, modest, calm, conditions, laid).
  DERIVED. THE GIVEN ROWS OF THIS SEAT. 2 by the template 'for every input the law returns true; each argument reads behind the call as it read before'; 0 by the template 'total and deterministic' (their statements: YtmmccaaocfbdlaaTotals.lean).
  GIVEN WITH THE SEED: the statements are not yours to turn. If you find one false, say at which input.
  Laid BY PROGRAM, IN A SANDBOX (cutbox-rows.mjs): the forced cells as the released guide's own fill.sh prints them over the translation 47a3b554f23e84eb… (all of the seat's roots in one cut). By AI agents, Wed Nov 11 2026. No macro, syntax, notation, axiom, sorry.
-/
import Derived.Test.YtmmccaaocfbdlaaChecked
import GoSem.Claim
import GoSem.ClaimJoined
import GoSem.ClaimMapViews
import Derived.JoinedTies
import Derived.KernelRfl
namespace Go.Proofs.Ytmmccaaocfbdlaa
/- THE CELL 'sum', in the pinned program and in every row, IS THE sha256 OF THE DUMP (.gsa) THAT YtmmccaaocfbdlaaProg.lean LOADS. Nothing in Lean hashes anything: it is a label: what it is worth is what the hold of that sum in a sandbox is worth. -/
noncomputable def Try.pinned : Pinned := { name := "ytmmccaaocfbdlaa", sum := "47a3b554f23e84ebb24966351ead6cbcb67bc471bf4a56cb4580203ad21f1401", checked := Try.checked }
namespace Rows
def none {H : Type} : Left H := { results := [], args := [] }

/-- 'leatlaw27.ClassicRounds': WHATEVER THE INPUT: true; the input reads as it did. -/
def classicRoundsSpec : ChangeSpec := { name := "classicRounds", fn := fun _ => fun
  | [d1, d2, d3] => { results := [.lit (.bool true)], args := [d1, d2, d3] }
  | _ => none }
def classicRoundsRow : OpenClaim := { program := "ytmmccaaocfbdlaa", sum := "47a3b554f23e84ebb24966351ead6cbcb67bc471bf4a56cb4580203ad21f1401", func := "leat/leatlaw27.ClassicRounds", spec := "classicRounds", unfollowed := true, recurses := true, named := ["math/bits.divideError", "math/bits.overflowError"], apart := false }
def ClassicRoundsSaid : Prop := classicRoundsRow.holds Try.pinned (OpenSpec.ofChange classicRoundsSpec)

/-- ITS FALSE NEIGHBOUR: 'it returns false'. Refute it at one input. -/
def classicRoundsWrong : ChangeSpec := { name := "classicRounds", fn := fun _ => fun
  | [d1, d2, d3] => { results := [.lit (.bool false)], args := [d1, d2, d3] }
  | _ => none }
def ClassicRoundsWrongFalsely : Prop := classicRoundsRow.holds Try.pinned (OpenSpec.ofChange classicRoundsWrong)

/-- 'leatlaw27.ClassicWaits': WHATEVER THE INPUT: true; the input reads as it did. -/
def classicWaitsSpec : ChangeSpec := { name := "classicWaits", fn := fun _ => fun
  | [d1, d2] => { results := [.lit (.bool true)], args := [d1, d2] }
  | _ => none }
def classicWaitsRow : OpenClaim := { program := "ytmmccaaocfbdlaa", sum := "47a3b554f23e84ebb24966351ead6cbcb67bc471bf4a56cb4580203ad21f1401", func := "leat/leatlaw27.ClassicWaits", spec := "classicWaits", unfollowed := true, recurses := true, named := ["math/bits.divideError", "math/bits.overflowError"], apart := false }
def ClassicWaitsSaid : Prop := classicWaitsRow.holds Try.pinned (OpenSpec.ofChange classicWaitsSpec)

/-- ITS FALSE NEIGHBOUR: 'it returns false'. Refute it at one input. -/
def classicWaitsWrong : ChangeSpec := { name := "classicWaits", fn := fun _ => fun
  | [d1, d2] => { results := [.lit (.bool false)], args := [d1, d2] }
  | _ => none }
def ClassicWaitsWrongFalsely : Prop := classicWaitsRow.holds Try.pinned (OpenSpec.ofChange classicWaitsWrong)

/- THE SECOND FORM. 'bulk': how many values and letters a reading holds, each counted each time it is reached (what is shared counts as often as it is met; a slice's spare places count too). A statement '..UptoSaid' is the law's where the arguments, and the package variables that the reading takes, are together of bulk at most 1048576: NARROWER than '..Said'. Prove '..Said' where nothing that the law and all that it calls make is longer than what came in: it says more and counts as full. Else prove '..UptoSaid'. A law counts once. -/
mutual
def uptoBulk {H : Type} : DataW H → Nat
  | .lit (.string bytes) => bytes.length + 1
  | .lit _ => 1
  | .nil => 1
  | .ptr d => uptoBulk d + 1
  | .slice elems spare => uptoBulkAll elems + uptoBulkAll spare + 1
  | .agg parts => uptoBulkAll parts + 1
  | .iface _ d => uptoBulk d + 1
  | .map entries => uptoBulkEntries entries + 1
  | .held _ => 1
def uptoBulkAll {H : Type} : List (DataW H) → Nat
  | [] => 0
  | d :: r => uptoBulk d + uptoBulkAll r
def uptoBulkEntries {H : Type} : List (Lit × DataW H) → Nat
  | [] => 0
  | x :: r => uptoBulkEntry x + uptoBulkEntries r
def uptoBulkEntry {H : Type} : Lit × DataW H → Nat
  | (.string bytes, d) => bytes.length + uptoBulk d + 1
  | (_, d) => uptoBulk d + 1
 end
def uptoSmall : (H : Type) → List (DataW H) → Bool := fun _ ds => decide (uptoBulkAll ds ≤ 1048576)
def OpenSpec.upto (s : _root_.Go.ChangeSpec) : _root_.Go.OpenSpec := { _root_.Go.OpenSpec.ofChange s with cond := some uptoSmall }

/-- 'leatlaw27.ClassicRounds', WHERE WHAT IT READS IS OF BULK AT MOST 1048576: true; the input reads as it did. -/
def classicRoundsUptoRow : OpenClaim := { program := "ytmmccaaocfbdlaa", sum := "47a3b554f23e84ebb24966351ead6cbcb67bc471bf4a56cb4580203ad21f1401", func := "leat/leatlaw27.ClassicRounds", spec := "classicRounds", unfollowed := true, recurses := true, named := ["math/bits.divideError", "math/bits.overflowError"], apart := false, narrowed := true }
def ClassicRoundsUptoSaid : Prop := classicRoundsUptoRow.holds Try.pinned (OpenSpec.upto classicRoundsSpec)

/-- 'leatlaw27.ClassicWaits', WHERE WHAT IT READS IS OF BULK AT MOST 1048576: true; the input reads as it did. -/
def classicWaitsUptoRow : OpenClaim := { program := "ytmmccaaocfbdlaa", sum := "47a3b554f23e84ebb24966351ead6cbcb67bc471bf4a56cb4580203ad21f1401", func := "leat/leatlaw27.ClassicWaits", spec := "classicWaits", unfollowed := true, recurses := true, named := ["math/bits.divideError", "math/bits.overflowError"], apart := false, narrowed := true }
def ClassicWaitsUptoSaid : Prop := classicWaitsUptoRow.holds Try.pinned (OpenSpec.upto classicWaitsSpec)

end Rows
end Go.Proofs.Ytmmccaaocfbdlaa
