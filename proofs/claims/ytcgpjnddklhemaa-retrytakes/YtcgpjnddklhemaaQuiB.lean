/- A region that draws its order, whose operations only read and whose callees leave alone what is there: one walk, in the order of the text, over the class of the worlds that have all old blocks as they were. -/
import Derived.Test.YtcgpjnddklhemaaMem
import Derived.Shelf.SlSortCmp.QuietGrown
namespace Go.Proofs.Ytcgpjnddklhemaa
open Go.ChangeShapes Go.WideShapes Go.ChangeAt Go.RowKit
set_option linter.unusedVariables false

/-- A world behind w in which all that was there is as it was. -/
structure BelowBy (w : World) where
  now : World
  low : Below w.heap.size w now
instance (w : World) : Inhabited (BelowBy w) := ⟨⟨w, new_refl w⟩⟩
theorem wp_region_quiet_below {P : Program} {id : Nat} {Q : Exit → Act → World → Prop} {a : Act} {w : World} {l : List Oper} (hm : P.follows .mixedOrders = true) (hB : Region.lexB .any l.toArray = true)
    (h : wpQuiet P l.toArray (fun w' => ∃ p : BelowBy w, w' = p.now) (fun a' => ∀ w', (∃ p : BelowBy w, w' = p.now) → Q .normal a' w') l a) : (Code.region id l.toArray true).wp P Q a w :=
  wp_region_quiet (C := fun w' => ∃ p : BelowBy w, w' = p.now) hm hB ⟨⟨w.drew, new_drew (new_refl w)⟩, rfl⟩ (by simpa using h)
theorem cell_by {w : World} {a : Addr} {v : Value} (h : w.cell? a = some v) (p : BelowBy w) : p.now.cell? a = some v := cell_kept p.low h
theorem calls_by {P : Program} {f : FuncId} {args : Array Value} {w : World} {p : BelowBy w} {v : Value}
    (h : Calls P f args p.now fun e w' => e = .returned v ∧ Below p.now.heap.size p.now w') : Calls P f args p.now fun e w'' => e = .returned v ∧ ∃ q : BelowBy w, w'' = q.now :=
  h.mono fun _ w' ⟨he, hb⟩ => ⟨he, ⟨w', new_then p.low hb⟩, rfl⟩
theorem calls_by_same {P : Program} {f : FuncId} {args : Array Value} {w : World} {p : BelowBy w} {v : Value}
    (h : Calls P f args p.now fun e w' => e = .returned v ∧ p.now = w') : Calls P f args p.now fun e w'' => e = .returned v ∧ ∃ q : BelowBy w, w'' = q.now :=
  h.mono fun _ w' ⟨he, hb⟩ => ⟨he, p, hb.symm⟩
end Go.Proofs.Ytcgpjnddklhemaa
