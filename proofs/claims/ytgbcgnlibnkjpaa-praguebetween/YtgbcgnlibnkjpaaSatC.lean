/- Products of package sat and of the document's own answers are those of whole numbers, kept at their ends. -/
import Derived.Test.YtgbcgnlibnkjpaaSatB
import Derived.Test.YtgbcgnlibnkjpaaBitsA
namespace Go.Proofs.Ytgbcgnlibnkjpaa
open Go.ChangeShapes Go.WideShapes Go.ChangeAt Go.RowKit

/-- The size of a number. -/
def absI (a : Int) : Int := if a < 0 then -a else a
theorem absI_bd (a : Int) (h : -9223372036854775808 ≤ a ∧ a ≤ 9223372036854775807) : 0 ≤ absI a ∧ absI a ≤ 9223372036854775808 := by
  unfold absI; split <;> omega

theorem sizeOf_any (a : Int) (w : World) (_ha : -9223372036854775808 ≤ a ∧ a ≤ 9223372036854775807) :
    Calls Try.prog 53 #[.int .i64 a] w fun e w' => e = .returned (.int .u64 (absI a)) ∧ w = w' := by
  by_cases h : a < 0
  · go_enter Try.func53, Try.ntmps53
    go_wp2
    go_ret
    refine ⟨ret_int ?_, rfl⟩
    rw [absI, if_pos h]; simp only [IntKind.wrap_u64]; omega
  · go_enter Try.func53, Try.ntmps53
    go_wp2
    go_ret
    refine ⟨ret_int ?_, rfl⟩
    rw [absI, if_neg (by omega)]

theorem above_any (h l : Int) (w : World) (_hh : 0 ≤ h ∧ h ≤ 18446744073709551615) (_hl : 0 ≤ l ∧ l ≤ 18446744073709551615) :
    Calls Try.prog 55 #[.int .u64 h, .int .u64 l] w fun e w' => e = .returned (.int .i64 (sat64 (18446744073709551616 * h + l))) ∧ w = w' := by
  go_enter Try.func55, Try.ntmps55
  go_wp2
  all_goals go_ret
  all_goals exact ⟨ret_int (by unfold sat64; split <;> (try split) <;> omega), rfl⟩
theorem below_any (h l : Int) (w : World) (_hh : 0 ≤ h ∧ h ≤ 18446744073709551615) (_hl : 0 ≤ l ∧ l ≤ 18446744073709551615) :
    Calls Try.prog 54 #[.int .u64 h, .int .u64 l] w fun e w' => e = .returned (.int .i64 (sat64 (-(18446744073709551616 * h + l)))) ∧ w = w' := by
  go_enter Try.func54, Try.ntmps54
  go_wp2
  all_goals go_ret
  all_goals exact ⟨ret_int (by unfold sat64; split <;> (try split) <;> omega), rfl⟩

theorem mul_abs (a b : Int) : (decide (a < 0) = decide (b < 0) → absI a * absI b = a * b) ∧ (decide (a < 0) ≠ decide (b < 0) → absI a * absI b = -(a * b)) := by
  unfold absI
  by_cases h : a < 0 <;> by_cases h' : b < 0 <;> simp [h, h', Int.neg_mul, Int.mul_neg]

theorem differ {p q : Bool} (h : (!(p == q)) = true) : p ≠ q := by cases p <;> cases q <;> simp_all
theorem alike {p q : Bool} (h : (!(p == q)) = false) : p = q := by cases p <;> cases q <;> simp_all

theorem satMul_any (a b : Int) (w : World) (_ha : -9223372036854775808 ≤ a ∧ a ≤ 9223372036854775807) (_hb : -9223372036854775808 ≤ b ∧ b ≤ 9223372036854775807) :
    Calls Try.prog 38 #[.int .i64 a, .int .i64 b] w fun e w' => e = .returned (.int .i64 (sat64 (a * b))) ∧ w = w' := by
  obtain ⟨s, d⟩ := mul_abs a b
  have S := Lib.hid s
  have D := Lib.hid d
  have A := absI_bd a _ha
  have B := absI_bd b _hb
  have H := Lib.hid (halves (absI a * absI b))
  have p0 : 0 ≤ absI a * absI b := Int.mul_nonneg A.1 B.1
  have p1 : absI a * absI b ≤ 9223372036854775808 * 9223372036854775808 := Int.mul_le_mul A.2 B.2 B.1 (by omega)
  have hb1 : 0 ≤ hi64 (absI a * absI b) ∧ hi64 (absI a * absI b) ≤ 18446744073709551615 := by unfold hi64; omega
  have hb2 : 0 ≤ lo64 (absI a * absI b) ∧ lo64 (absI a * absI b) ≤ 18446744073709551615 := by unfold lo64; omega
  clear s d p0 p1
  go_enter Try.func38, Try.ntmps38
  go_wp2_with (first | (go_at_call 53; refine (sizeOf_any _ _ (by omega)).mono ?_; rintro e w' ⟨rfl, rfl⟩) | (go_at_call 52; refine (mul64_any _ _ _ (by omega) (by omega)).mono ?_; rintro e w' ⟨rfl, rfl⟩; rw [← hi64, ← lo64]) | (go_at_call 55; refine (above_any _ _ _ (by omega) (by omega)).mono ?_; rintro e w' ⟨rfl, rfl⟩) | (go_at_call 54; refine (below_any _ _ _ (by omega) (by omega)).mono ?_; rintro e w' ⟨rfl, rfl⟩))
  all_goals go_ret
  · exact ⟨ret_int (by rw [H.out, D.out (differ ‹_›), Int.neg_neg]), rfl⟩
  · exact ⟨ret_int (by rw [H.out, S.out (alike ‹_›)]), rfl⟩
end Go.Proofs.Ytgbcgnlibnkjpaa
