/- leatref19: New. -/
import Derived.Test.YtfoonfmhamaclaaFbkL
namespace Go.Proofs.Ytfoonfmhamaclaa
open Go.ChangeShapes Go.WideShapes Go.ChangeAt Go.RowKit
set_option linter.unusedVariables false

theorem refNew19_any (mss st : Int) (w : World) :
    Calls Try.prog 7 #[.int .i64 mss, .int .i64 st] w fun e w' => e = .returned (.agg #[.int .i64 mss, .int .i64 (stK st), .int .i64 (stK st), .int .i64 1, .int .i64 0, .int .i64 1, .int .u32 0, .bool false]) ∧ Below w.heap.size w w' := by
  by_cases h1 : 0 < st
  · by_cases h2 : 1099511627776 < st
    · skip
      have e : stK st = 1099511627776 := by unfold stK clampI; split <;> (try split) <;> omega
      rw [e]
      have q1 : (if 0 < st then st else 0) = st := if_pos h1
      have q2 : (if st < 1099511627776 then st else 1099511627776) = 1099511627776 := if_neg (by omega)
      have q3 : (if 1099511627776 < st then 1099511627776 else st) = 1099511627776 := if_pos h2
      go_enter Try.func7, Try.ntmps7
      go_wp2_with fail
      exact bodyPost_ret (v := .agg #[.int .i64 mss, .int .i64 1099511627776, .int .i64 1099511627776, .int .i64 1, .int .i64 0, .int .i64 1, .int .u32 0, .bool false]) (by simp [results, Try.results7, go_sem]) rfl ⟨rfl, new_alloc (new_refl w) _⟩
    · skip
      have e : stK st = st := by unfold stK clampI; split <;> (try split) <;> omega
      rw [e]
      have q1 : (if 0 < st then st else 0) = st := if_pos h1
      have q2 : (if 1099511627776 < st then 1099511627776 else st) = st := if_neg h2
      go_enter Try.func7, Try.ntmps7
      go_wp2_with fail
      exact bodyPost_ret (v := .agg #[.int .i64 mss, .int .i64 st, .int .i64 st, .int .i64 1, .int .i64 0, .int .i64 1, .int .u32 0, .bool false]) (by simp [results, Try.results7, go_sem]) rfl ⟨rfl, new_alloc (new_refl w) _⟩
  · by_cases h3 : st < 0
    · skip
      have e : stK st = 0 := by unfold stK clampI; split <;> (try split) <;> omega
      rw [e]
      go_enter Try.func7, Try.ntmps7
      go_wp2_with fail
      exact bodyPost_ret (v := .agg #[.int .i64 mss, .int .i64 0, .int .i64 0, .int .i64 1, .int .i64 0, .int .i64 1, .int .u32 0, .bool false]) (by simp [results, Try.results7, go_sem]) rfl ⟨rfl, new_alloc (new_refl w) _⟩
    · obtain rfl : st = 0 := by omega
      have e : stK 0 = 0 := by decide
      rw [e]
      go_enter Try.func7, Try.ntmps7
      go_wp2_with fail
      exact bodyPost_ret (v := .agg #[.int .i64 mss, .int .i64 0, .int .i64 0, .int .i64 1, .int .i64 0, .int .i64 1, .int .u32 0, .bool false]) (by simp [results, Try.results7, go_sem]) rfl ⟨rfl, new_alloc (new_refl w) _⟩
end Go.Proofs.Ytfoonfmhamaclaa
