/-
  No cell of these rows narrows 'for every input' (looked for: loops, veiled, ifaces, maps, wideKeys, modest, calm, conditions, laid).
  DERIVED. THE GIVEN ROWS OF THIS SEAT. 3 by the template 'for every input the law returns true; each argument reads behind the call as it read before'; 0 by the template 'total and deterministic' (their statements: YtdlfgpjmokbddaaTotals.lean).
  GIVEN WITH THE SEED: the statements are not yours to turn. If you find one false, say at which input.
  Laid BY PROGRAM, IN A SANDBOX (cutbox-rows.mjs): the forced cells as the released guide's own fill.sh prints them over the translation fd87b4ddac3a9758… (all of the seat's roots in one cut). By AI agents, Wed Nov 11 2026. No macro, syntax, notation, axiom, sorry.
-/
import Derived.Test.YtdlfgpjmokbddaaChecked
import GoSem.Claim
import GoSem.ClaimJoined
import GoSem.ClaimMapViews
import Derived.JoinedTies
import Derived.KernelRfl
namespace Go.Proofs.Ytdlfgpjmokbddaa
/- THE CELL 'sum', in the pinned program and in every row, IS THE sha256 OF THE DUMP (.gsa) THAT YtdlfgpjmokbddaaProg.lean LOADS. Nothing in Lean hashes anything: it is a label: what it is worth is what the hold of that sum in a sandbox is worth. -/
noncomputable def Try.pinned : Pinned := { name := "ytdlfgpjmokbddaa", sum := "fd87b4ddac3a9758f71f8c978b4878fe2c9f35b8b5927c0288628070ca7dd854", checked := Try.checked }
namespace Rows
def none {H : Type} : Left H := { results := [], args := [] }

/-- 'leatlaw18.FreshTakes': WHATEVER THE INPUT: true; the input reads as it did. -/
def freshTakesSpec : ChangeSpec := { name := "freshTakes", fn := fun _ => fun
  | [d] => { results := [.lit (.bool true)], args := [d] }
  | _ => none }
def freshTakesRow : OpenClaim := { program := "ytdlfgpjmokbddaa", sum := "fd87b4ddac3a9758f71f8c978b4878fe2c9f35b8b5927c0288628070ca7dd854", func := "leat/leatlaw18.FreshTakes", spec := "freshTakes", unfollowed := true, recurses := true, apart := false }
def FreshTakesSaid : Prop := freshTakesRow.holds Try.pinned (OpenSpec.ofChange freshTakesSpec)

/-- ITS FALSE NEIGHBOUR: 'it returns false'. Refute it at one input. -/
def freshTakesWrong : ChangeSpec := { name := "freshTakes", fn := fun _ => fun
  | [d] => { results := [.lit (.bool false)], args := [d] }
  | _ => none }
def FreshTakesWrongFalsely : Prop := freshTakesRow.holds Try.pinned (OpenSpec.ofChange freshTakesWrong)

/-- 'leatlaw18.FreshNewest': WHATEVER THE INPUT: true; the input reads as it did. -/
def freshNewestSpec : ChangeSpec := { name := "freshNewest", fn := fun _ => fun
  | [d1, d2] => { results := [.lit (.bool true)], args := [d1, d2] }
  | _ => none }
def freshNewestRow : OpenClaim := { program := "ytdlfgpjmokbddaa", sum := "fd87b4ddac3a9758f71f8c978b4878fe2c9f35b8b5927c0288628070ca7dd854", func := "leat/leatlaw18.FreshNewest", spec := "freshNewest", unfollowed := true, recurses := true, apart := false }
def FreshNewestSaid : Prop := freshNewestRow.holds Try.pinned (OpenSpec.ofChange freshNewestSpec)

/-- ITS FALSE NEIGHBOUR: 'it returns false'. Refute it at one input. -/
def freshNewestWrong : ChangeSpec := { name := "freshNewest", fn := fun _ => fun
  | [d1, d2] => { results := [.lit (.bool false)], args := [d1, d2] }
  | _ => none }
def FreshNewestWrongFalsely : Prop := freshNewestRow.holds Try.pinned (OpenSpec.ofChange freshNewestWrong)

/-- 'leatlaw18.FreshNil': WHATEVER THE INPUT: true; the input reads as it did. -/
def freshNilSpec : ChangeSpec := { name := "freshNil", fn := fun _ => fun
  | [d] => { results := [.lit (.bool true)], args := [d] }
  | _ => none }
def freshNilRow : OpenClaim := { program := "ytdlfgpjmokbddaa", sum := "fd87b4ddac3a9758f71f8c978b4878fe2c9f35b8b5927c0288628070ca7dd854", func := "leat/leatlaw18.FreshNil", spec := "freshNil", unfollowed := true, recurses := true, apart := false }
def FreshNilSaid : Prop := freshNilRow.holds Try.pinned (OpenSpec.ofChange freshNilSpec)

/-- ITS FALSE NEIGHBOUR: 'it returns false'. Refute it at one input. -/
def freshNilWrong : ChangeSpec := { name := "freshNil", fn := fun _ => fun
  | [d] => { results := [.lit (.bool false)], args := [d] }
  | _ => none }
def FreshNilWrongFalsely : Prop := freshNilRow.holds Try.pinned (OpenSpec.ofChange freshNilWrong)

/- THE SECOND FORM. 'bulk': how many values and letters a reading holds, each counted each time it is reached (what is shared counts as often as it is met; a slice's spare places count too). A statement '..UptoSaid' is the law's where the arguments, and the package variables that the reading takes, are together of bulk at most 1048576: NARROWER than '..Said'. Prove '..Said' where nothing that the law and all that it calls make is longer than what came in: it says more and counts as full. Else prove '..UptoSaid'. A law counts once. -/
mutual
def uptoBulk {H : Type} : DataW H → Nat
  | .lit (.string bytes) => bytes.length + 1
  | .lit _ => 1
  | .nil => 1
  | .ptr d => uptoBulk d + 1
  | .slice elems spare => uptoBulkAll elems + uptoBulkAll spare + 1
  | .agg parts => uptoBulkAll parts + 1
  | .iface _ d => uptoBulk d + 1
  | .map entries => uptoBulkEntries entries + 1
  | .held _ => 1
def uptoBulkAll {H : Type} : List (DataW H) → Nat
  | [] => 0
  | d :: r => uptoBulk d + uptoBulkAll r
def uptoBulkEntries {H : Type} : List (Lit × DataW H) → Nat
  | [] => 0
  | x :: r => uptoBulkEntry x + uptoBulkEntries r
def uptoBulkEntry {H : Type} : Lit × DataW H → Nat
  | (.string bytes, d) => bytes.length + uptoBulk d + 1
  | (_, d) => uptoBulk d + 1
 end
def uptoSmall : (H : Type) → List (DataW H) → Bool := fun _ ds => decide (uptoBulkAll ds ≤ 1048576)
def OpenSpec.upto (s : _root_.Go.ChangeSpec) : _root_.Go.OpenSpec := { _root_.Go.OpenSpec.ofChange s with cond := some uptoSmall }

/-- 'leatlaw18.FreshTakes', WHERE WHAT IT READS IS OF BULK AT MOST 1048576: true; the input reads as it did. -/
def freshTakesUptoRow : OpenClaim := { program := "ytdlfgpjmokbddaa", sum := "fd87b4ddac3a9758f71f8c978b4878fe2c9f35b8b5927c0288628070ca7dd854", func := "leat/leatlaw18.FreshTakes", spec := "freshTakes", unfollowed := true, recurses := true, apart := false, narrowed := true }
def FreshTakesUptoSaid : Prop := freshTakesUptoRow.holds Try.pinned (OpenSpec.upto freshTakesSpec)

/-- 'leatlaw18.FreshNewest', WHERE WHAT IT READS IS OF BULK AT MOST 1048576: true; the input reads as it did. -/
def freshNewestUptoRow : OpenClaim := { program := "ytdlfgpjmokbddaa", sum := "fd87b4ddac3a9758f71f8c978b4878fe2c9f35b8b5927c0288628070ca7dd854", func := "leat/leatlaw18.FreshNewest", spec := "freshNewest", unfollowed := true, recurses := true, apart := false, narrowed := true }
def FreshNewestUptoSaid : Prop := freshNewestUptoRow.holds Try.pinned (OpenSpec.upto freshNewestSpec)

/-- 'leatlaw18.FreshNil', WHERE WHAT IT READS IS OF BULK AT MOST 1048576: true; the input reads as it did. -/
def freshNilUptoRow : OpenClaim := { program := "ytdlfgpjmokbddaa", sum := "fd87b4ddac3a9758f71f8c978b4878fe2c9f35b8b5927c0288628070ca7dd854", func := "leat/leatlaw18.FreshNil", spec := "freshNil", unfollowed := true, recurses := true, apart := false, narrowed := true }
def FreshNilUptoSaid : Prop := freshNilUptoRow.holds Try.pinned (OpenSpec.upto freshNilSpec)

end Rows
end Go.Proofs.Ytdlfgpjmokbddaa
