/- Package code and the document's own: a signed number without its sign, and back. -/
import Derived.Test.YthokfnbmjkekfaaBase
import Derived.Test.YthokfnbmjkekfaaCodM
namespace Go.Proofs.Ythokfnbmjkekfaa
open Go.RowKit
set_option linter.unusedVariables false

theorem unsign_any (x : Int) (w : World) (h : -9223372036854775808 ≤ x ∧ x ≤ 9223372036854775807) :
    Calls Try.prog 27 #[.int .i64 x] w fun e w' => e = .returned (.int .u64 (zz x)) ∧ w = w' := by
  by_cases h0 : x < 0
  · have e1 := not_i64 x h
    have e2 := or_one (-x - 1) (by omega)
    have e3 : IntKind.u64.wrap (-x - 1) = -x - 1 := by rw [IntKind.wrap_u64]; omega
    have E : Hid (bits .or .u64 (IntKind.u64.wrap (IntKind.u64.wrap (bits .xor .i64 (-1) x) * 2)) 1 = zz x) := Lib.hid (by
      rw [e1, e3, show IntKind.u64.wrap ((-x - 1) * 2) = 2 * (-x - 1) by rw [IntKind.wrap_u64]; omega, e2]; unfold zz; rw [if_pos h0]; omega)
    clear e1 e2 e3
    go_enter Try.func27, Try.ntmps27
    go_wp2
    go_ret
    exact ⟨ret_int E.out, rfl⟩
  · go_enter Try.func27, Try.ntmps27
    go_wp2
    go_ret
    exact ⟨ret_int (by unfold zz; rw [if_neg (by omega)]; omega), rfl⟩
theorem sign_any (x : Int) (w : World) (h : 0 ≤ x ∧ x ≤ 18446744073709551615) :
    Calls Try.prog 28 #[.int .u64 x] w fun e w' => e = .returned (.int .i64 (sg x)) ∧ w = w' := by
  have e1 := and_one x h
  by_cases h0 : x % 2 = 1
  · have t : (x % 2 == 1) = true := by simp [h0]
    have E : Hid (bits .xor .i64 (-1) (x / 2) = sg x) := Lib.hid (by rw [not_i64 _ (by omega)]; unfold sg; rw [if_pos h0])
    clear h0
    go_enter Try.func28, Try.ntmps28
    go_wp2
    go_ret
    exact ⟨ret_int E.out, rfl⟩
  · have t : (x % 2 == 1) = false := by simp [h0]
    go_enter Try.func28, Try.ntmps28
    go_wp2
    go_ret
    exact ⟨ret_int (by unfold sg; rw [if_neg h0]), rfl⟩
theorem refPlain_any (x : Int) (w : World) (h : -9223372036854775808 ≤ x ∧ x ≤ 9223372036854775807) :
    Calls Try.prog 10 #[.int .i64 x] w fun e w' => e = .returned (.int .u64 (zz x)) ∧ w = w' := by
  by_cases h0 : x < 0
  · go_enter Try.func10, Try.ntmps10
    go_wp2
    go_ret
    exact ⟨ret_int (by unfold zz; rw [if_pos h0]; omega), rfl⟩
  · go_enter Try.func10, Try.ntmps10
    go_wp2
    go_ret
    exact ⟨ret_int (by unfold zz; rw [if_neg (by omega)]), rfl⟩
end Go.Proofs.Ythokfnbmjkekfaa
