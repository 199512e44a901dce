/- The sums, differences, negatives and sizes of package sat and of the document's own answers are the whole number, kept at the ends of int64. -/
import Derived.Test.YtmmccaaocfbdlaaBase
namespace Go.Proofs.Ytmmccaaocfbdlaa
open Go.ChangeShapes Go.WideShapes Go.ChangeAt Go.RowKit

/-- A whole number, kept at the ends of int64. -/
def sat64 (n : Int) : Int := if 9223372036854775807 < n then 9223372036854775807 else if n < -9223372036854775808 then -9223372036854775808 else n

theorem sat64_mid (n : Int) (h : -9223372036854775808 ≤ n) (h' : n ≤ 9223372036854775807) : sat64 n = n := by
  unfold sat64; rw [if_neg (by omega), if_neg (by omega)]
theorem sat64_hi (n : Int) (h : 9223372036854775807 ≤ n) : sat64 n = 9223372036854775807 := by
  unfold sat64; split <;> (try split) <;> omega
theorem sat64_lo (n : Int) (h : n ≤ -9223372036854775808) : sat64 n = -9223372036854775808 := by
  unfold sat64; split <;> (try split) <;> omega
theorem sat64_bd (n : Int) : -9223372036854775808 ≤ sat64 n ∧ sat64 n ≤ 9223372036854775807 := by
  unfold sat64; split <;> (try split) <;> omega

theorem satAdd_any (a b : Int) (w : World) (_ha : -9223372036854775808 ≤ a ∧ a ≤ 9223372036854775807) (_hb : -9223372036854775808 ≤ b ∧ b ≤ 9223372036854775807) :
    Calls Try.prog 27 #[.int .i64 a, .int .i64 b] w fun e w' => e = .returned (.int .i64 (sat64 (a + b))) ∧ w = w' := by
  go_enter Try.func27, Try.ntmps27
  go_wp2
  all_goals go_ret
  all_goals exact ⟨ret_int (by unfold sat64; split <;> (try split) <;> omega), rfl⟩

theorem refAdd_any (a b : Int) (w : World) (_ha : -9223372036854775808 ≤ a ∧ a ≤ 9223372036854775807) (_hb : -9223372036854775808 ≤ b ∧ b ≤ 9223372036854775807) :
    Calls Try.prog 18 #[.int .i64 a, .int .i64 b] w fun e w' => e = .returned (.int .i64 (sat64 (a + b))) ∧ w = w' := by
  go_enter Try.func18, Try.ntmps18
  go_wp2
  all_goals go_ret
  all_goals exact ⟨ret_int (by unfold sat64; split <;> (try split) <;> omega), rfl⟩

theorem satSub_any (a b : Int) (w : World) (_ha : -9223372036854775808 ≤ a ∧ a ≤ 9223372036854775807) (_hb : -9223372036854775808 ≤ b ∧ b ≤ 9223372036854775807) :
    Calls Try.prog 25 #[.int .i64 a, .int .i64 b] w fun e w' => e = .returned (.int .i64 (sat64 (a - b))) ∧ w = w' := by
  go_enter Try.func25, Try.ntmps25
  go_wp2
  all_goals go_ret
  all_goals exact ⟨ret_int (by unfold sat64; split <;> (try split) <;> omega), rfl⟩

theorem refSub_any (a b : Int) (w : World) (_ha : -9223372036854775808 ≤ a ∧ a ≤ 9223372036854775807) (_hb : -9223372036854775808 ≤ b ∧ b ≤ 9223372036854775807) :
    Calls Try.prog 13 #[.int .i64 a, .int .i64 b] w fun e w' => e = .returned (.int .i64 (sat64 (a - b))) ∧ w = w' := by
  by_cases hm : -9223372036854775808 < b
  · go_enter Try.func13, Try.ntmps13
    go_wp2_with (go_at_call 18; refine (refAdd_any _ _ _ (by omega) (by omega)).mono ?_; rintro e w' ⟨rfl, rfl⟩)
    all_goals go_ret
    all_goals exact ⟨ret_int (by rw [Int.sub_eq_add_neg]), rfl⟩
  · obtain rfl : b = -9223372036854775808 := by omega
    by_cases h0 : 0 ≤ a
    all_goals
      go_enter Try.func13, Try.ntmps13
      go_wp2_with fail
      go_ret
      exact ⟨ret_int (by unfold sat64; split <;> (try split) <;> omega), rfl⟩

theorem satNeg_any (a : Int) (w : World) (_ha : -9223372036854775808 ≤ a ∧ a ≤ 9223372036854775807) :
    Calls Try.prog 39 #[.int .i64 a] w fun e w' => e = .returned (.int .i64 (sat64 (-a))) ∧ w = w' := by
  go_enter Try.func39, Try.ntmps39
  go_wp2_with (go_at_call 25; refine (satSub_any _ _ _ (by omega) (by omega)).mono ?_; rintro e w' ⟨rfl, rfl⟩)
  all_goals go_ret
  all_goals exact ⟨ret_int (by unfold sat64; split <;> (try split) <;> omega), rfl⟩

theorem refNeg_any (a : Int) (w : World) (_ha : -9223372036854775808 ≤ a ∧ a ≤ 9223372036854775807) :
    Calls Try.prog 28 #[.int .i64 a] w fun e w' => e = .returned (.int .i64 (sat64 (-a))) ∧ w = w' := by
  by_cases hm : -9223372036854775808 < a
  · go_enter Try.func28, Try.ntmps28
    go_wp2
    go_ret
    exact ⟨ret_int (sat64_mid _ (by omega) (by omega)).symm, rfl⟩
  · obtain rfl : a = -9223372036854775808 := by omega
    go_enter Try.func28, Try.ntmps28
    go_wp2
    go_ret
    exact ⟨ret_int (sat64_hi _ (by omega)).symm, rfl⟩
end Go.Proofs.Ytmmccaaocfbdlaa
