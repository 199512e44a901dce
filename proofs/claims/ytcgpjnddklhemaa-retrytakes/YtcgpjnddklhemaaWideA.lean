/- Products, sums and the order of wide numbers, in package wide. -/
import Derived.Test.YtcgpjnddklhemaaBitsA
namespace Go.Proofs.Ytcgpjnddklhemaa
open Go.ChangeShapes Go.WideShapes Go.ChangeAt Go.RowKit
set_option linter.unusedVariables false

/-- A wide number as a value. -/
abbrev wv (h l : Int) : Value := .agg #[.int .u64 h, .int .u64 l]

/-- The number that a wide one stands for. -/
def wn (h l : Int) : Int := 18446744073709551616 * h + l
/-- The sum of two wide numbers, modulo 2^128; whether it goes beyond. -/
def wsum (a b c d : Int) : Int := (wn a b + wn c d) % 340282366920938463463374607431768211456
def wover (a b c d : Int) : Bool := decide (340282366920938463463374607431768211456 ≤ wn a b + wn c d)

theorem sum_hi (a b c d : Int) (_ : 0 ≤ b ∧ b ≤ 18446744073709551615) (_ : 0 ≤ d ∧ d ≤ 18446744073709551615) : (a + c + (b + d) / 18446744073709551616) % 18446744073709551616 = hi64 (wsum a b c d) := by
  unfold hi64 wsum wn; omega
theorem sum_lo (a b c d : Int) : (b + d) % 18446744073709551616 = lo64 (wsum a b c d) := by
  unfold lo64 wsum wn; omega
theorem sum_over (a b c d : Int) (_ : 0 ≤ b ∧ b ≤ 18446744073709551615) (_ : 0 ≤ d ∧ d ≤ 18446744073709551615) : decide (0 < (a + c + (b + d) / 18446744073709551616) / 18446744073709551616) = wover a b c d := by
  unfold wover wn; rw [decide_eq_decide]; omega
theorem hi_bd (n : Int) (h : 0 ≤ n) (h' : n < 340282366920938463463374607431768211456) : 0 ≤ hi64 n ∧ hi64 n ≤ 18446744073709551615 := by unfold hi64; omega
theorem lo_bd (n : Int) : 0 ≤ lo64 n ∧ lo64 n ≤ 18446744073709551615 := by unfold lo64; omega
theorem wn_bd (h l : Int) (_ : 0 ≤ h ∧ h ≤ 18446744073709551615) (_ : 0 ≤ l ∧ l ≤ 18446744073709551615) : 0 ≤ wn h l ∧ wn h l < 340282366920938463463374607431768211456 := by unfold wn; omega
theorem mul_bd (a b : Int) (ha : 0 ≤ a ∧ a ≤ 18446744073709551615) (hb : 0 ≤ b ∧ b ≤ 18446744073709551615) : 0 ≤ a * b ∧ a * b ≤ 340282366920938463426481119284349108225 := by
  refine ⟨Int.mul_nonneg ha.1 hb.1, ?_⟩
  calc a * b ≤ 18446744073709551615 * b := Int.mul_le_mul_of_nonneg_right ha.2 hb.1
    _ ≤ 18446744073709551615 * 18446744073709551615 := Int.mul_le_mul_of_nonneg_left hb.2 (by omega)
    _ = 340282366920938463426481119284349108225 := by decide
theorem wn_halves (n : Int) : wn (hi64 n) (lo64 n) = n := halves n

theorem ret_wide {a b c d : Int} {p q : Bool} (h : a = b) (h' : c = d) (h'' : p = q) : Ending.returned (.tuple #[wv a c, .bool p]) = .returned (.tuple #[wv b d, .bool q]) := by rw [h, h', h'']

/-- The order of two numbers: -1, 0 or 1. -/
def cmpI (m n : Int) : Int := if m < n then -1 else if m = n then 0 else 1
end Go.Proofs.Ytcgpjnddklhemaa
