/- The sums, differences, negatives and sizes of package sat and of the document's own answers are the whole number, kept at the ends of int64. -/
import Derived.Test.YtcgpjnddklhemaaBase
namespace Go.Proofs.Ytcgpjnddklhemaa
open Go.ChangeShapes Go.WideShapes Go.ChangeAt Go.RowKit

/-- A whole number, kept at the ends of int64. -/
def sat64 (n : Int) : Int := if 9223372036854775807 < n then 9223372036854775807 else if n < -9223372036854775808 then -9223372036854775808 else n

theorem sat64_mid (n : Int) (h : -9223372036854775808 ≤ n) (h' : n ≤ 9223372036854775807) : sat64 n = n := by
  unfold sat64; rw [if_neg (by omega), if_neg (by omega)]
theorem sat64_hi (n : Int) (h : 9223372036854775807 ≤ n) : sat64 n = 9223372036854775807 := by
  unfold sat64; split <;> (try split) <;> omega
theorem sat64_lo (n : Int) (h : n ≤ -9223372036854775808) : sat64 n = -9223372036854775808 := by
  unfold sat64; split <;> (try split) <;> omega
theorem sat64_bd (n : Int) : -9223372036854775808 ≤ sat64 n ∧ sat64 n ≤ 9223372036854775807 := by
  unfold sat64; split <;> (try split) <;> omega
end Go.Proofs.Ytcgpjnddklhemaa
