/- A region that draws its order, walked by hand: the condition on the world may grow as the walk goes on. -/
import Derived.Test.YtbfghiocfognlaaMem
import Derived.Deep.RegionHeld3
namespace Go.Proofs.Ytbfghiocfognlaa
open Go.RowKit
set_option linter.unusedVariables false

/-- The condition may be taken stronger from here on. -/
theorem wpAnyH_grow {P : Program} {md : Region.Mode} {ops : Array Oper} {Q : Exit → Act → World → Prop} {S S' : World → Prop} (h : ∀ w, S' w → S w) :
    ∀ (fuel : Nat) (listed : Array Bool) (a : Act) (w : World), wpAnyH P md ops Q S' fuel listed a w → wpAnyH P md ops Q S fuel listed a w
  | 0, _, _, _, x => x
  | fuel + 1, _, _, _, x => ⟨x.1, fun i hi => wpOp_mono (fun a' w' h' => ⟨h _ h'.1, wpAnyH_grow h fuel _ a' w' h'.2⟩) (x.2 i hi)⟩
/-- Behind a call that made memory: what is there now stays. -/
theorem wpAnyH_since {P : Program} {md : Region.Mode} {ops : Array Oper} {Q : Exit → Act → World → Prop} {w0 w1 : World} (B : Below w0.heap.size w0 w1) {fuel : Nat} {listed : Array Bool} {a : Act} {w : World}
    (h : wpAnyH P md ops Q (fun w' => Below w1.heap.size w1 w') fuel listed a w) : wpAnyH P md ops Q (fun w' => Below w0.heap.size w0 w') fuel listed a w :=
  wpAnyH_grow (fun w' h' => new_then B h') fuel listed a w h
end Go.Proofs.Ytbfghiocfognlaa
