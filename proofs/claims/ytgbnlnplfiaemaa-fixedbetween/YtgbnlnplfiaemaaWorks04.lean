/- The chapter's examples of layer 4. -/
import Derived.Test.YtgbnlnplfiaemaaFixB
namespace Go.Proofs.Ytgbnlnplfiaemaa
open Go.ChangeShapes Go.WideShapes Go.ChangeAt Go.RowKit

theorem works04_any (w : World) : Calls Try.prog 11 #[] w fun e w' => e = .returned (.bool true) ∧ Below w.heap.size w w' := by
  have e1 : rto 1 4 = 262144 := by decide
  have e2 : prs 10 (shr 524288) = 5 := by decide
  have e3 : twd 0 16 4 = 1 := by decide
  have L := new_refl w
  go_enter Try.func11, Try.ntmps11
  go_wp2_with (first
    | (go_at_call 7; refine (ratio_any _ _ _ (by omega) (by omega)).mono ?_; rintro e w1 ⟨rfl, B⟩; replace L := new_then L B)
    | (go_at_call 9; refine (part_any _ _ _ (by omega)).mono ?_; rintro e w2 ⟨rfl, B⟩; replace L := new_then L B)
    | (go_at_call 16; refine (toward_any _ _ _ _ (by omega) (by omega) (by omega)).mono ?_; rintro e w3 ⟨rfl, B⟩; replace L := new_then L B))
  go_ret
  exact ⟨rfl, L⟩
end Go.Proofs.Ytgbnlnplfiaemaa
