/-
  No cell of these rows narrows 'for every input' (looked for: loops, veiled, ifaces, maps, wideKeys, modest, calm, conditions, laid).
  DERIVED. THE GIVEN ROWS OF THIS SEAT. 4 by the template 'for every input the law returns true; each argument reads behind the call as it read before'; 0 by the template 'total and deterministic' (their statements: YtniegmfdkpbijaaTotals.lean).
  GIVEN WITH THE SEED: the statements are not yours to turn. If you find one false, say at which input.
  Laid BY PROGRAM, IN A SANDBOX (cutbox-rows.mjs): the forced cells as the released guide's own fill.sh prints them over the translation 09c624f77480e6a4… (all of the seat's roots in one cut). By AI agents, Wed Nov 11 2026. No macro, syntax, notation, axiom, sorry.
-/
import Derived.Test.YtniegmfdkpbijaaChecked
import GoSem.Claim
import GoSem.ClaimJoined
import GoSem.ClaimMapViews
import Derived.JoinedTies
import Derived.KernelRfl
namespace Go.Proofs.Ytniegmfdkpbijaa
/- THE CELL 'sum', in the pinned program and in every row, IS THE sha256 OF THE DUMP (.gsa) THAT YtniegmfdkpbijaaProg.lean LOADS. Nothing in Lean hashes anything: it is a label: what it is worth is what the hold of that sum in a sandbox is worth. -/
noncomputable def Try.pinned : Pinned := { name := "ytniegmfdkpbijaa", sum := "09c624f77480e6a4f9949df4b6b8fbd72dbfe3e65e51cf45561058075487bd6b", checked := Try.checked }
namespace Rows
def none {H : Type} : Left H := { results := [], args := [] }

/-- 'leatlaw16.AceSteps': WHATEVER THE INPUT: true; the input reads as it did. -/
def aceStepsSpec : ChangeSpec := { name := "aceSteps", fn := fun _ => fun
  | [d1, d2] => { results := [.lit (.bool true)], args := [d1, d2] }
  | _ => none }
def aceStepsRow : OpenClaim := { program := "ytniegmfdkpbijaa", sum := "09c624f77480e6a4f9949df4b6b8fbd72dbfe3e65e51cf45561058075487bd6b", func := "leat/leatlaw16.AceSteps", spec := "aceSteps", apart := false }
def AceStepsSaid : Prop := aceStepsRow.holds Try.pinned (OpenSpec.ofChange aceStepsSpec)

/-- ITS FALSE NEIGHBOUR: 'it returns false'. Refute it at one input. -/
def aceStepsWrong : ChangeSpec := { name := "aceSteps", fn := fun _ => fun
  | [d1, d2] => { results := [.lit (.bool false)], args := [d1, d2] }
  | _ => none }
def AceStepsWrongFalsely : Prop := aceStepsRow.holds Try.pinned (OpenSpec.ofChange aceStepsWrong)

/-- 'leatlaw16.AceGuesses': WHATEVER THE INPUT: true; the input reads as it did. -/
def aceGuessesSpec : ChangeSpec := { name := "aceGuesses", fn := fun _ => fun
  | [d1, d2, d3] => { results := [.lit (.bool true)], args := [d1, d2, d3] }
  | _ => none }
def aceGuessesRow : OpenClaim := { program := "ytniegmfdkpbijaa", sum := "09c624f77480e6a4f9949df4b6b8fbd72dbfe3e65e51cf45561058075487bd6b", func := "leat/leatlaw16.AceGuesses", spec := "aceGuesses", apart := false }
def AceGuessesSaid : Prop := aceGuessesRow.holds Try.pinned (OpenSpec.ofChange aceGuessesSpec)

/-- ITS FALSE NEIGHBOUR: 'it returns false'. Refute it at one input. -/
def aceGuessesWrong : ChangeSpec := { name := "aceGuesses", fn := fun _ => fun
  | [d1, d2, d3] => { results := [.lit (.bool false)], args := [d1, d2, d3] }
  | _ => none }
def AceGuessesWrongFalsely : Prop := aceGuessesRow.holds Try.pinned (OpenSpec.ofChange aceGuessesWrong)

/-- 'leatlaw16.AceFew': WHATEVER THE INPUT: true; the input reads as it did. -/
def aceFewSpec : ChangeSpec := { name := "aceFew", fn := fun _ => fun
  | [d1, d2] => { results := [.lit (.bool true)], args := [d1, d2] }
  | _ => none }
def aceFewRow : OpenClaim := { program := "ytniegmfdkpbijaa", sum := "09c624f77480e6a4f9949df4b6b8fbd72dbfe3e65e51cf45561058075487bd6b", func := "leat/leatlaw16.AceFew", spec := "aceFew", apart := false }
def AceFewSaid : Prop := aceFewRow.holds Try.pinned (OpenSpec.ofChange aceFewSpec)

/-- ITS FALSE NEIGHBOUR: 'it returns false'. Refute it at one input. -/
def aceFewWrong : ChangeSpec := { name := "aceFew", fn := fun _ => fun
  | [d1, d2] => { results := [.lit (.bool false)], args := [d1, d2] }
  | _ => none }
def AceFewWrongFalsely : Prop := aceFewRow.holds Try.pinned (OpenSpec.ofChange aceFewWrong)

/-- 'leatlaw16.AceFull': WHATEVER THE INPUT: true; the input reads as it did. -/
def aceFullSpec : ChangeSpec := { name := "aceFull", fn := fun _ => fun
  | [d1, d2, d3] => { results := [.lit (.bool true)], args := [d1, d2, d3] }
  | _ => none }
def aceFullRow : OpenClaim := { program := "ytniegmfdkpbijaa", sum := "09c624f77480e6a4f9949df4b6b8fbd72dbfe3e65e51cf45561058075487bd6b", func := "leat/leatlaw16.AceFull", spec := "aceFull", apart := false }
def AceFullSaid : Prop := aceFullRow.holds Try.pinned (OpenSpec.ofChange aceFullSpec)

/-- ITS FALSE NEIGHBOUR: 'it returns false'. Refute it at one input. -/
def aceFullWrong : ChangeSpec := { name := "aceFull", fn := fun _ => fun
  | [d1, d2, d3] => { results := [.lit (.bool false)], args := [d1, d2, d3] }
  | _ => none }
def AceFullWrongFalsely : Prop := aceFullRow.holds Try.pinned (OpenSpec.ofChange aceFullWrong)

/- THE SECOND FORM. 'bulk': how many values and letters a reading holds, each counted each time it is reached (what is shared counts as often as it is met; a slice's spare places count too). A statement '..UptoSaid' is the law's where the arguments, and the package variables that the reading takes, are together of bulk at most 1048576: NARROWER than '..Said'. Prove '..Said' where nothing that the law and all that it calls make is longer than what came in: it says more and counts as full. Else prove '..UptoSaid'. A law counts once. -/
mutual
def uptoBulk {H : Type} : DataW H → Nat
  | .lit (.string bytes) => bytes.length + 1
  | .lit _ => 1
  | .nil => 1
  | .ptr d => uptoBulk d + 1
  | .slice elems spare => uptoBulkAll elems + uptoBulkAll spare + 1
  | .agg parts => uptoBulkAll parts + 1
  | .iface _ d => uptoBulk d + 1
  | .map entries => uptoBulkEntries entries + 1
  | .held _ => 1
def uptoBulkAll {H : Type} : List (DataW H) → Nat
  | [] => 0
  | d :: r => uptoBulk d + uptoBulkAll r
def uptoBulkEntries {H : Type} : List (Lit × DataW H) → Nat
  | [] => 0
  | x :: r => uptoBulkEntry x + uptoBulkEntries r
def uptoBulkEntry {H : Type} : Lit × DataW H → Nat
  | (.string bytes, d) => bytes.length + uptoBulk d + 1
  | (_, d) => uptoBulk d + 1
 end
def uptoSmall : (H : Type) → List (DataW H) → Bool := fun _ ds => decide (uptoBulkAll ds ≤ 1048576)
def OpenSpec.upto (s : _root_.Go.ChangeSpec) : _root_.Go.OpenSpec := { _root_.Go.OpenSpec.ofChange s with cond := some uptoSmall }

/-- 'leatlaw16.AceSteps', WHERE WHAT IT READS IS OF BULK AT MOST 1048576: true; the input reads as it did. -/
def aceStepsUptoRow : OpenClaim := { program := "ytniegmfdkpbijaa", sum := "09c624f77480e6a4f9949df4b6b8fbd72dbfe3e65e51cf45561058075487bd6b", func := "leat/leatlaw16.AceSteps", spec := "aceSteps", apart := false, narrowed := true }
def AceStepsUptoSaid : Prop := aceStepsUptoRow.holds Try.pinned (OpenSpec.upto aceStepsSpec)

/-- 'leatlaw16.AceGuesses', WHERE WHAT IT READS IS OF BULK AT MOST 1048576: true; the input reads as it did. -/
def aceGuessesUptoRow : OpenClaim := { program := "ytniegmfdkpbijaa", sum := "09c624f77480e6a4f9949df4b6b8fbd72dbfe3e65e51cf45561058075487bd6b", func := "leat/leatlaw16.AceGuesses", spec := "aceGuesses", apart := false, narrowed := true }
def AceGuessesUptoSaid : Prop := aceGuessesUptoRow.holds Try.pinned (OpenSpec.upto aceGuessesSpec)

/-- 'leatlaw16.AceFew', WHERE WHAT IT READS IS OF BULK AT MOST 1048576: true; the input reads as it did. -/
def aceFewUptoRow : OpenClaim := { program := "ytniegmfdkpbijaa", sum := "09c624f77480e6a4f9949df4b6b8fbd72dbfe3e65e51cf45561058075487bd6b", func := "leat/leatlaw16.AceFew", spec := "aceFew", apart := false, narrowed := true }
def AceFewUptoSaid : Prop := aceFewUptoRow.holds Try.pinned (OpenSpec.upto aceFewSpec)

/-- 'leatlaw16.AceFull', WHERE WHAT IT READS IS OF BULK AT MOST 1048576: true; the input reads as it did. -/
def aceFullUptoRow : OpenClaim := { program := "ytniegmfdkpbijaa", sum := "09c624f77480e6a4f9949df4b6b8fbd72dbfe3e65e51cf45561058075487bd6b", func := "leat/leatlaw16.AceFull", spec := "aceFull", apart := false, narrowed := true }
def AceFullUptoSaid : Prop := aceFullUptoRow.holds Try.pinned (OpenSpec.upto aceFullSpec)

end Rows
end Go.Proofs.Ytniegmfdkpbijaa
