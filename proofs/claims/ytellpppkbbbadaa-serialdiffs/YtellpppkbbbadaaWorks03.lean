/- The chapter's examples of layer 3. -/
import Derived.Test.YtellpppkbbbadaaSerB
namespace Go.Proofs.Ytellpppkbbbadaa
open Go.ChangeShapes Go.WideShapes Go.ChangeAt Go.RowKit

theorem works03_any (w : World) : Calls Try.prog 13 #[] w fun e w' => e = .returned (.bool true) ∧ Below w.heap.size w w' := by
  have e1 : dif 1 7 3 = 2 := by decide
  have e2 : near 15 = 15 := by decide
  have e3 : dif 1 15 3 = 2 := by decide
  have L := new_refl w
  go_enter Try.func13, Try.ntmps13
  go_wp2_with (first | (go_at_call 15; refine (diff_any _ _ _ _ (by omega) (by omega) (by omega)).mono ?_; rintro e w1 ⟨rfl, B⟩; replace L := new_then L B) | (go_at_call 17; refine (unwrap_any _ _ _ _ (by omega) (by omega) (by omega)).mono ?_; rintro e w2 ⟨rfl, B⟩; replace L := new_then L B))
  go_ret
  exact ⟨rfl, L⟩
end Go.Proofs.Ytellpppkbbbadaa
