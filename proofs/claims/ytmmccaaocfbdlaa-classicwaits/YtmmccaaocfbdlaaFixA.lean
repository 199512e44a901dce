/- Package fixed: shares, ratios, parts, products, steps, halves and roots are those of whole numbers, downwards. -/
import Derived.Test.YtmmccaaocfbdlaaFixM
import Derived.Test.YtmmccaaocfbdlaaSatC
import Derived.Test.YtmmccaaocfbdlaaWideR
import Derived.Deep.LoopGhost
namespace Go.Proofs.Ytmmccaaocfbdlaa
open Go.ChangeShapes Go.WideShapes Go.ChangeAt Go.RowKit
set_option linter.unusedVariables false

theorem share_any (f : Int) (w : World) :
    Calls Try.prog 32 #[.int .i64 f] w fun e w' => e = .returned (.int .i64 (shr f)) ∧ w = w' := by
  have C := Lib.hid (clamp_shr f)
  go_enter Try.func32, Try.ntmps32
  go_wp2_with (go_at_call 15; refine (satClamp_any _ _ _ _).mono ?_; rintro e w' ⟨rfl, rfl⟩)
  go_ret
  exact ⟨ret_int C.out, rfl⟩

/-- sat.Div, of a divisor above 0. -/
theorem div_pos (a b : Int) (w : World) (ha : -9223372036854775808 ≤ a ∧ a ≤ 9223372036854775807) (hb : -9223372036854775808 ≤ b ∧ b ≤ 9223372036854775807) :
    Calls Try.prog 30 #[.int .i64 a, .int .i64 b] w fun e w' => e = .returned (.int .i64 (fdv a b)) ∧ Below w.heap.size w w' := by
  refine (satDiv_any a b w ha hb).mono ?_
  rintro e w' ⟨rfl, n, rfl⟩
  exact ⟨rfl, new_draw (new_refl w) n⟩

theorem fdv_bd (a b : Int) : -9223372036854775808 ≤ fdv a b ∧ fdv a b ≤ 9223372036854775807 := by
  unfold fdv; split
  · omega
  · exact sat64_bd _

theorem ratio_any (a b : Int) (w : World) (ha : -9223372036854775808 ≤ a ∧ a ≤ 9223372036854775807) (hb : -9223372036854775808 ≤ b ∧ b ≤ 9223372036854775807) :
    Calls Try.prog 24 #[.int .i64 a, .int .i64 b] w fun e w' => e = .returned (.int .i64 (rto a b)) ∧ Below w.heap.size w w' := by
  by_cases h1 : a ≤ 0
  · have R := Lib.hid (rto_low a b h1)
    go_enter Try.func24, Try.ntmps24
    go_wp2_with fail
    go_ret
    exact ⟨ret_int R.out.symm, new_refl w⟩
  · by_cases h2 : b ≤ 0
    · have R := Lib.hid (rto_by0 a b (by omega) h2)
      go_enter Try.func24, Try.ntmps24
      go_wp2_with fail
      go_ret
      exact ⟨ret_int R.out.symm, new_refl w⟩
    · by_cases h3 : 9223372036854775807 < a * 1048576 / b
      · have R := Lib.hid (rto_over a b (by omega) (by omega) h3)
        have M := Lib.hid (mdE_over a 1048576 b (by omega) (by decide) (by omega) h3)
        clear h3
        go_enter Try.func24, Try.ntmps24
        go_wp2_with (go_at_call 31; refine (mulDiv_any _ _ _ _ (by omega) (by omega) (by omega)).mono ?_; rw [M.out.1, M.out.2]; rintro e w1 ⟨rfl, B1⟩)
        go_ret
        exact ⟨ret_int R.out.symm, B1⟩
      · have R := Lib.hid (rto_shr a b (by omega) (by omega))
        have M := Lib.hid (mdV_ok a 1048576 b (by omega) (by decide) (by omega) (by omega))
        obtain ⟨q, eq⟩ : ∃ q, a * 1048576 / b = q := ⟨_, rfl⟩
        rw [eq] at R M
        clear h3 eq
        go_enter Try.func24, Try.ntmps24
        go_wp2_with (first | (go_at_call 31; refine (mulDiv_any _ _ _ _ (by omega) (by omega) (by omega)).mono ?_; rw [M.out.1, M.out.2]; rintro e w1 ⟨rfl, B1⟩) | (go_at_call 32; refine (share_any _ _).mono ?_; rintro e w2 ⟨rfl, rfl⟩))
        go_ret
        exact ⟨ret_int R.out, B1⟩
end Go.Proofs.Ytmmccaaocfbdlaa
