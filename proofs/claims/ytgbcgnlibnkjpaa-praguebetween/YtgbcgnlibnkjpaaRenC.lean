/- Package reno: what begins anew; growing fast, and by a share. -/
import Derived.Test.YtgbcgnlibnkjpaaRenB
namespace Go.Proofs.Ytgbcgnlibnkjpaa
open Go.ChangeShapes Go.WideShapes Go.ChangeAt Go.RowKit
set_option linter.unusedVariables false

theorem hlv_one (x : Int) : hlv x (upto 1 63) = x / 2 := by
  have : upto 1 63 = 1 := by decide
  rw [this]; rfl
theorem rn_far {wr : World} {g p i : Nat} {v : Value} (h : wr.cell? ⟨p, i, none⟩ = some v) (hp : p ≠ g) (a b c : Value) :
    (((wr.setCell ⟨g, 0, none⟩ a).setCell ⟨g, 1, none⟩ b).setCell ⟨g, 2, none⟩ c).cell? ⟨p, i, none⟩ = some v := by
  have e (k : Nat) : (⟨g, k, none⟩ : Addr) ≠ ⟨p, i, none⟩ := fun e => hp (by injection e with e1; exact e1.symm)
  rw [World.cell?_setCell_other _ _ _ _ (e 2), World.cell?_setCell_other _ _ _ _ (e 1), World.cell?_setCell_other _ _ _ _ (e 0)]
  exact h
end Go.Proofs.Ytgbcgnlibnkjpaa
