/-
  No cell of these rows narrows 'for every input' (looked for: loops, veiled, ifaces, maps, wideKeys, modest, calm, conditions, laid).
  DERIVED. THE GIVEN ROWS OF THIS SEAT. 4 by the template 'for every input the law returns true; each argument reads behind the call as it read before'; 0 by the template 'total and deterministic' (their statements: YtdicpocoolmoeaaTotals.lean).
  GIVEN WITH THE SEED: the statements are not yours to turn. If you find one false, say at which input.
  Laid BY PROGRAM, IN A SANDBOX (cutbox-rows.mjs): the forced cells as the released guide's own fill.sh prints them over the translation 2a7e78a99f3c49dd… (all of the seat's roots in one cut). By AI agents, Wed Nov 11 2026. No macro, syntax, notation, axiom, sorry.
-/
import Derived.Test.YtdicpocoolmoeaaChecked
import GoSem.Claim
import GoSem.ClaimJoined
import GoSem.ClaimMapViews
import Derived.JoinedTies
import Derived.KernelRfl
namespace Go.Proofs.Ytdicpocoolmoeaa
/- THE CELL 'sum', in the pinned program and in every row, IS THE sha256 OF THE DUMP (.gsa) THAT YtdicpocoolmoeaaProg.lean LOADS. Nothing in Lean hashes anything: it is a label: what it is worth is what the hold of that sum in a sandbox is worth. -/
noncomputable def Try.pinned : Pinned := { name := "ytdicpocoolmoeaa", sum := "2a7e78a99f3c49ddcc2ac26c1476a716909bf37395eb6cba04a39d9f2b8548c2", checked := Try.checked }
namespace Rows
def none {H : Type} : Left H := { results := [], args := [] }

/-- 'leatlaw08.DicePlays': WHATEVER THE INPUT: true; the input reads as it did. -/
def dicePlaysSpec : ChangeSpec := { name := "dicePlays", fn := fun _ => fun
  | [d1, d2] => { results := [.lit (.bool true)], args := [d1, d2] }
  | _ => none }
def dicePlaysRow : OpenClaim := { program := "ytdicpocoolmoeaa", sum := "2a7e78a99f3c49ddcc2ac26c1476a716909bf37395eb6cba04a39d9f2b8548c2", func := "leat/leatlaw08.DicePlays", spec := "dicePlays", unfollowed := true, recurses := true, apart := false }
def DicePlaysSaid : Prop := dicePlaysRow.holds Try.pinned (OpenSpec.ofChange dicePlaysSpec)

/-- ITS FALSE NEIGHBOUR: 'it returns false'. Refute it at one input. -/
def dicePlaysWrong : ChangeSpec := { name := "dicePlays", fn := fun _ => fun
  | [d1, d2] => { results := [.lit (.bool false)], args := [d1, d2] }
  | _ => none }
def DicePlaysWrongFalsely : Prop := dicePlaysRow.holds Try.pinned (OpenSpec.ofChange dicePlaysWrong)

/-- 'leatlaw08.DiceSpreads': WHATEVER THE INPUT: true; the input reads as it did. -/
def diceSpreadsSpec : ChangeSpec := { name := "diceSpreads", fn := fun _ => fun
  | [d1, d2] => { results := [.lit (.bool true)], args := [d1, d2] }
  | _ => none }
def diceSpreadsRow : OpenClaim := { program := "ytdicpocoolmoeaa", sum := "2a7e78a99f3c49ddcc2ac26c1476a716909bf37395eb6cba04a39d9f2b8548c2", func := "leat/leatlaw08.DiceSpreads", spec := "diceSpreads", unfollowed := true, recurses := true, apart := false }
def DiceSpreadsSaid : Prop := diceSpreadsRow.holds Try.pinned (OpenSpec.ofChange diceSpreadsSpec)

/-- ITS FALSE NEIGHBOUR: 'it returns false'. Refute it at one input. -/
def diceSpreadsWrong : ChangeSpec := { name := "diceSpreads", fn := fun _ => fun
  | [d1, d2] => { results := [.lit (.bool false)], args := [d1, d2] }
  | _ => none }
def DiceSpreadsWrongFalsely : Prop := diceSpreadsRow.holds Try.pinned (OpenSpec.ofChange diceSpreadsWrong)

/-- 'leatlaw08.DiceRises': WHATEVER THE INPUT: true; the input reads as it did. -/
def diceRisesSpec : ChangeSpec := { name := "diceRises", fn := fun _ => fun
  | [d1, d2, d3] => { results := [.lit (.bool true)], args := [d1, d2, d3] }
  | _ => none }
def diceRisesRow : OpenClaim := { program := "ytdicpocoolmoeaa", sum := "2a7e78a99f3c49ddcc2ac26c1476a716909bf37395eb6cba04a39d9f2b8548c2", func := "leat/leatlaw08.DiceRises", spec := "diceRises", unfollowed := true, recurses := true, apart := false }
def DiceRisesSaid : Prop := diceRisesRow.holds Try.pinned (OpenSpec.ofChange diceRisesSpec)

/-- ITS FALSE NEIGHBOUR: 'it returns false'. Refute it at one input. -/
def diceRisesWrong : ChangeSpec := { name := "diceRises", fn := fun _ => fun
  | [d1, d2, d3] => { results := [.lit (.bool false)], args := [d1, d2, d3] }
  | _ => none }
def DiceRisesWrongFalsely : Prop := diceRisesRow.holds Try.pinned (OpenSpec.ofChange diceRisesWrong)

/-- 'leatlaw08.DiceGaps': WHATEVER THE INPUT: true; the input reads as it did. -/
def diceGapsSpec : ChangeSpec := { name := "diceGaps", fn := fun _ => fun
  | [d1, d2] => { results := [.lit (.bool true)], args := [d1, d2] }
  | _ => none }
def diceGapsRow : OpenClaim := { program := "ytdicpocoolmoeaa", sum := "2a7e78a99f3c49ddcc2ac26c1476a716909bf37395eb6cba04a39d9f2b8548c2", func := "leat/leatlaw08.DiceGaps", spec := "diceGaps", unfollowed := true, recurses := true, apart := false }
def DiceGapsSaid : Prop := diceGapsRow.holds Try.pinned (OpenSpec.ofChange diceGapsSpec)

/-- ITS FALSE NEIGHBOUR: 'it returns false'. Refute it at one input. -/
def diceGapsWrong : ChangeSpec := { name := "diceGaps", fn := fun _ => fun
  | [d1, d2] => { results := [.lit (.bool false)], args := [d1, d2] }
  | _ => none }
def DiceGapsWrongFalsely : Prop := diceGapsRow.holds Try.pinned (OpenSpec.ofChange diceGapsWrong)

/- THE SECOND FORM. 'bulk': how many values and letters a reading holds, each counted each time it is reached (what is shared counts as often as it is met; a slice's spare places count too). A statement '..UptoSaid' is the law's where the arguments, and the package variables that the reading takes, are together of bulk at most 1048576: NARROWER than '..Said'. Prove '..Said' where nothing that the law and all that it calls make is longer than what came in: it says more and counts as full. Else prove '..UptoSaid'. A law counts once. -/
mutual
def uptoBulk {H : Type} : DataW H → Nat
  | .lit (.string bytes) => bytes.length + 1
  | .lit _ => 1
  | .nil => 1
  | .ptr d => uptoBulk d + 1
  | .slice elems spare => uptoBulkAll elems + uptoBulkAll spare + 1
  | .agg parts => uptoBulkAll parts + 1
  | .iface _ d => uptoBulk d + 1
  | .map entries => uptoBulkEntries entries + 1
  | .held _ => 1
def uptoBulkAll {H : Type} : List (DataW H) → Nat
  | [] => 0
  | d :: r => uptoBulk d + uptoBulkAll r
def uptoBulkEntries {H : Type} : List (Lit × DataW H) → Nat
  | [] => 0
  | x :: r => uptoBulkEntry x + uptoBulkEntries r
def uptoBulkEntry {H : Type} : Lit × DataW H → Nat
  | (.string bytes, d) => bytes.length + uptoBulk d + 1
  | (_, d) => uptoBulk d + 1
 end
def uptoSmall : (H : Type) → List (DataW H) → Bool := fun _ ds => decide (uptoBulkAll ds ≤ 1048576)
def OpenSpec.upto (s : _root_.Go.ChangeSpec) : _root_.Go.OpenSpec := { _root_.Go.OpenSpec.ofChange s with cond := some uptoSmall }

/-- 'leatlaw08.DicePlays', WHERE WHAT IT READS IS OF BULK AT MOST 1048576: true; the input reads as it did. -/
def dicePlaysUptoRow : OpenClaim := { program := "ytdicpocoolmoeaa", sum := "2a7e78a99f3c49ddcc2ac26c1476a716909bf37395eb6cba04a39d9f2b8548c2", func := "leat/leatlaw08.DicePlays", spec := "dicePlays", unfollowed := true, recurses := true, apart := false, narrowed := true }
def DicePlaysUptoSaid : Prop := dicePlaysUptoRow.holds Try.pinned (OpenSpec.upto dicePlaysSpec)

/-- 'leatlaw08.DiceSpreads', WHERE WHAT IT READS IS OF BULK AT MOST 1048576: true; the input reads as it did. -/
def diceSpreadsUptoRow : OpenClaim := { program := "ytdicpocoolmoeaa", sum := "2a7e78a99f3c49ddcc2ac26c1476a716909bf37395eb6cba04a39d9f2b8548c2", func := "leat/leatlaw08.DiceSpreads", spec := "diceSpreads", unfollowed := true, recurses := true, apart := false, narrowed := true }
def DiceSpreadsUptoSaid : Prop := diceSpreadsUptoRow.holds Try.pinned (OpenSpec.upto diceSpreadsSpec)

/-- 'leatlaw08.DiceRises', WHERE WHAT IT READS IS OF BULK AT MOST 1048576: true; the input reads as it did. -/
def diceRisesUptoRow : OpenClaim := { program := "ytdicpocoolmoeaa", sum := "2a7e78a99f3c49ddcc2ac26c1476a716909bf37395eb6cba04a39d9f2b8548c2", func := "leat/leatlaw08.DiceRises", spec := "diceRises", unfollowed := true, recurses := true, apart := false, narrowed := true }
def DiceRisesUptoSaid : Prop := diceRisesUptoRow.holds Try.pinned (OpenSpec.upto diceRisesSpec)

/-- 'leatlaw08.DiceGaps', WHERE WHAT IT READS IS OF BULK AT MOST 1048576: true; the input reads as it did. -/
def diceGapsUptoRow : OpenClaim := { program := "ytdicpocoolmoeaa", sum := "2a7e78a99f3c49ddcc2ac26c1476a716909bf37395eb6cba04a39d9f2b8548c2", func := "leat/leatlaw08.DiceGaps", spec := "diceGaps", unfollowed := true, recurses := true, apart := false, narrowed := true }
def DiceGapsUptoSaid : Prop := diceGapsUptoRow.holds Try.pinned (OpenSpec.upto diceGapsSpec)

end Rows
end Go.Proofs.Ytdicpocoolmoeaa
