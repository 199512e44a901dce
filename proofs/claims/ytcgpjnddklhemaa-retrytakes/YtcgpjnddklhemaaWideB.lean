/- Quotients of wide numbers, in package wide. -/
import Derived.Test.YtcgpjnddklhemaaWideA
import Derived.Test.YtcgpjnddklhemaaBitsF
namespace Go.Proofs.Ytcgpjnddklhemaa
open Go.ChangeShapes Go.WideShapes Go.ChangeAt Go.RowKit
set_option linter.unusedVariables false

theorem quo_halves (a b d : Int) (ha : 0 ≤ a) (hb : 0 ≤ b ∧ b ≤ 18446744073709551615) (hd : 0 < d) :
    a / d = hi64 (wn a b / d) ∧ (18446744073709551616 * (a % d) + b) / d = lo64 (wn a b / d) ∧ (18446744073709551616 * (a % d) + b) % d = wn a b % d := by
  have e := Int.mul_ediv_add_emod a d
  have m0 : 0 ≤ a % d := Int.emod_nonneg a (by omega)
  have m1 : a % d < d := Int.emod_lt_of_pos a hd
  have n : wn a b = 18446744073709551616 * (a % d) + b + d * (18446744073709551616 * (a / d)) := by
    unfold wn; rw [Int.mul_left_comm]; omega
  have x0 : 0 ≤ (18446744073709551616 * (a % d) + b) / d := Int.ediv_nonneg (by omega) (by omega)
  have x1 : (18446744073709551616 * (a % d) + b) / d < 18446744073709551616 := Int.ediv_lt_of_lt_mul hd (by omega)
  rw [n, Int.add_mul_ediv_left _ _ (by omega), Int.add_mul_emod_self_left]
  unfold hi64 lo64
  refine ⟨by omega, by omega, rfl⟩

theorem ret_quo {a b c d p q : Int} (h : a = b) (h' : c = d) (h'' : p = q) : Ending.returned (.tuple #[wv a c, .int .u64 p]) = .returned (.tuple #[wv b d, .int .u64 q]) := by rw [h, h', h'']

/-- A wide number, made an int64 if it fits: the number, and the error. -/
def narV (h l : Int) : Int := if 9223372036854775807 < wn h l then 0 else wn h l
def narE (h l : Int) : Int := if 9223372036854775807 < wn h l then 8 else 0

theorem cmp_gt (m n : Int) : (0 < cmpI m n) ↔ n < m := by unfold cmpI; split <;> (try split) <;> omega
end Go.Proofs.Ytcgpjnddklhemaa
