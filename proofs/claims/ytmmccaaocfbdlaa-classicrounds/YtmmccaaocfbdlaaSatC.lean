/- Products of package sat and of the document's own answers are those of whole numbers, kept at their ends. -/
import Derived.Test.YtmmccaaocfbdlaaSatB
import Derived.Test.YtmmccaaocfbdlaaBitsA
namespace Go.Proofs.Ytmmccaaocfbdlaa
open Go.ChangeShapes Go.WideShapes Go.ChangeAt Go.RowKit

/-- The size of a number. -/
def absI (a : Int) : Int := if a < 0 then -a else a
theorem absI_bd (a : Int) (h : -9223372036854775808 ≤ a ∧ a ≤ 9223372036854775807) : 0 ≤ absI a ∧ absI a ≤ 9223372036854775808 := by
  unfold absI; split <;> omega

theorem mul_abs (a b : Int) : (decide (a < 0) = decide (b < 0) → absI a * absI b = a * b) ∧ (decide (a < 0) ≠ decide (b < 0) → absI a * absI b = -(a * b)) := by
  unfold absI
  by_cases h : a < 0 <;> by_cases h' : b < 0 <;> simp [h, h', Int.neg_mul, Int.mul_neg]

theorem differ {p q : Bool} (h : (!(p == q)) = true) : p ≠ q := by cases p <;> cases q <;> simp_all
theorem alike {p q : Bool} (h : (!(p == q)) = false) : p = q := by cases p <;> cases q <;> simp_all
end Go.Proofs.Ytmmccaaocfbdlaa
