/- The sums, differences, negatives and sizes of package sat and of the document's own answers are the whole number, kept at the ends of int64. -/
import Derived.Test.YtgbcgnlibnkjpaaBase
namespace Go.Proofs.Ytgbcgnlibnkjpaa
open Go.ChangeShapes Go.WideShapes Go.ChangeAt Go.RowKit

/-- A whole number, kept at the ends of int64. -/
def sat64 (n : Int) : Int := if 9223372036854775807 < n then 9223372036854775807 else if n < -9223372036854775808 then -9223372036854775808 else n

theorem sat64_mid (n : Int) (h : -9223372036854775808 ≤ n) (h' : n ≤ 9223372036854775807) : sat64 n = n := by
  unfold sat64; rw [if_neg (by omega), if_neg (by omega)]
theorem sat64_hi (n : Int) (h : 9223372036854775807 ≤ n) : sat64 n = 9223372036854775807 := by
  unfold sat64; split <;> (try split) <;> omega
theorem sat64_lo (n : Int) (h : n ≤ -9223372036854775808) : sat64 n = -9223372036854775808 := by
  unfold sat64; split <;> (try split) <;> omega
theorem sat64_bd (n : Int) : -9223372036854775808 ≤ sat64 n ∧ sat64 n ≤ 9223372036854775807 := by
  unfold sat64; split <;> (try split) <;> omega

theorem satAdd_any (a b : Int) (w : World) (_ha : -9223372036854775808 ≤ a ∧ a ≤ 9223372036854775807) (_hb : -9223372036854775808 ≤ b ∧ b ≤ 9223372036854775807) :
    Calls Try.prog 30 #[.int .i64 a, .int .i64 b] w fun e w' => e = .returned (.int .i64 (sat64 (a + b))) ∧ w = w' := by
  go_enter Try.func30, Try.ntmps30
  go_wp2
  all_goals go_ret
  all_goals exact ⟨ret_int (by unfold sat64; split <;> (try split) <;> omega), rfl⟩

theorem satSub_any (a b : Int) (w : World) (_ha : -9223372036854775808 ≤ a ∧ a ≤ 9223372036854775807) (_hb : -9223372036854775808 ≤ b ∧ b ≤ 9223372036854775807) :
    Calls Try.prog 31 #[.int .i64 a, .int .i64 b] w fun e w' => e = .returned (.int .i64 (sat64 (a - b))) ∧ w = w' := by
  go_enter Try.func31, Try.ntmps31
  go_wp2
  all_goals go_ret
  all_goals exact ⟨ret_int (by unfold sat64; split <;> (try split) <;> omega), rfl⟩

theorem satNeg_any (a : Int) (w : World) (_ha : -9223372036854775808 ≤ a ∧ a ≤ 9223372036854775807) :
    Calls Try.prog 56 #[.int .i64 a] w fun e w' => e = .returned (.int .i64 (sat64 (-a))) ∧ w = w' := by
  go_enter Try.func56, Try.ntmps56
  go_wp2_with (go_at_call 31; refine (satSub_any _ _ _ (by omega) (by omega)).mono ?_; rintro e w' ⟨rfl, rfl⟩)
  all_goals go_ret
  all_goals exact ⟨ret_int (by unfold sat64; split <;> (try split) <;> omega), rfl⟩
end Go.Proofs.Ytgbcgnlibnkjpaa
