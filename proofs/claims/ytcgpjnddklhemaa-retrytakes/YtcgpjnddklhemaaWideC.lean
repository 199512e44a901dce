/- Products by a third number, in package wide, downwards and upwards. -/
import Derived.Test.YtcgpjnddklhemaaWideB
namespace Go.Proofs.Ytcgpjnddklhemaa
open Go.ChangeShapes Go.WideShapes Go.ChangeAt Go.RowKit
set_option linter.unusedVariables false

/-- a times b by c, downwards or upwards. -/
def mdQ (a b c : Int) (up : Bool) : Int := a * b / c + (if up = true ∧ 0 < a * b % c then 1 else 0)
/-- The document's MulDiv: the number, and the error. -/
def mdV (a b c : Int) (up : Bool) : Int := if a < 0 ∨ b < 0 ∨ c ≤ 0 then 0 else if 9223372036854775807 < mdQ a b c up then 0 else mdQ a b c up
def mdE (a b c : Int) (up : Bool) : Int := if a < 0 ∨ b < 0 ∨ c ≤ 0 then 1 else if 9223372036854775807 < mdQ a b c up then 8 else 0

theorem quo_bd (a b c : Int) (ha : 0 ≤ a ∧ a ≤ 9223372036854775807) (hb : 0 ≤ b ∧ b ≤ 9223372036854775807) (hc : 0 < c) : 0 ≤ a * b / c ∧ a * b / c ≤ 85070591730234615847396907784232501249 ∧ 0 ≤ a * b % c := by
  have p0 : 0 ≤ a * b := Int.mul_nonneg ha.1 hb.1
  have p1 : a * b ≤ 9223372036854775807 * 9223372036854775807 := Int.mul_le_mul ha.2 hb.2 hb.1 (by omega)
  exact ⟨Int.ediv_nonneg p0 (by omega), Int.le_trans (Int.ediv_le_self c p0) p1, Int.emod_nonneg _ (by omega)⟩


theorem nar_md (a b c q : Int) (up : Bool) (h : ¬ (a < 0 ∨ b < 0 ∨ c ≤ 0)) (hq : q = mdQ a b c up) : narV (hi64 q) (lo64 q) = mdV a b c up ∧ narE (hi64 q) (lo64 q) = mdE a b c up := by
  unfold narV narE mdV mdE
  rw [wn_halves, if_neg h, if_neg h, hq]
  exact ⟨rfl, rfl⟩

theorem wsum_one (q : Int) (h : 0 ≤ q) (h' : q ≤ 85070591730234615847396907784232501249) : wsum (hi64 q) (lo64 q) 0 1 = q + 1 := by
  unfold wsum
  rw [wn_halves]
  unfold wn
  omega
end Go.Proofs.Ytcgpjnddklhemaa
