/- Package fixed: shares, ratios, parts, products, steps, halves and roots are those of whole numbers, downwards. -/
import Derived.Test.YtbfghiocfognlaaFixM
import Derived.Test.YtbfghiocfognlaaSatC
import Derived.Test.YtbfghiocfognlaaWideR
import Derived.Deep.LoopGhost
namespace Go.Proofs.Ytbfghiocfognlaa
open Go.ChangeShapes Go.WideShapes Go.ChangeAt Go.RowKit
set_option linter.unusedVariables false

theorem share_any (f : Int) (w : World) :
    Calls Try.prog 34 #[.int .i64 f] w fun e w' => e = .returned (.int .i64 (shr f)) ∧ w = w' := by
  have C := Lib.hid (clamp_shr f)
  go_enter Try.func34, Try.ntmps34
  go_wp2_with (go_at_call 26; refine (satClamp_any _ _ _ _).mono ?_; rintro e w' ⟨rfl, rfl⟩)
  go_ret
  exact ⟨ret_int C.out, rfl⟩

/-- sat.Div, of a divisor above 0. -/
theorem div_pos (a b : Int) (w : World) (ha : -9223372036854775808 ≤ a ∧ a ≤ 9223372036854775807) (hb : -9223372036854775808 ≤ b ∧ b ≤ 9223372036854775807) :
    Calls Try.prog 33 #[.int .i64 a, .int .i64 b] w fun e w' => e = .returned (.int .i64 (fdv a b)) ∧ Below w.heap.size w w' := by
  refine (satDiv_any a b w ha hb).mono ?_
  rintro e w' ⟨rfl, n, rfl⟩
  exact ⟨rfl, new_draw (new_refl w) n⟩

theorem fdv_bd (a b : Int) : -9223372036854775808 ≤ fdv a b ∧ fdv a b ≤ 9223372036854775807 := by
  unfold fdv; split
  · omega
  · exact sat64_bd _

theorem part_any (x f : Int) (w : World) (hx : -9223372036854775808 ≤ x ∧ x ≤ 9223372036854775807) :
    Calls Try.prog 20 #[.int .i64 x, .int .i64 f] w fun e w' => e = .returned (.int .i64 (prs x (shr f))) ∧ Below w.heap.size w w' := by
  have s := shr_bd f
  have T := Lib.hid (prs_two x (shr f) hx s)
  have b1 := fdv_bd x 1048576
  have b2 := sat64_bd (fdv x 1048576 * shr f)
  have b3 : -9223372036854775808 ≤ fmd x 1048576 ∧ fmd x 1048576 ≤ 9223372036854775807 := by rw [fmd_em _ _ (by decide)]; omega
  have b4 := sat64_bd (fmd x 1048576 * shr f)
  have b5 := fdv_bd (sat64 (fmd x 1048576 * shr f)) 1048576
  have L := new_refl w
  go_enter Try.func20, Try.ntmps20
  go_wp2_with (first
    | (go_at_call 34; refine (share_any _ _).mono ?_; rintro e w' ⟨rfl, rfl⟩)
    | (go_at_call 33; refine (div_pos _ _ _ (by omega) (by omega)).mono ?_; rintro e w1 ⟨rfl, B⟩; replace L := new_then L B)
    | (go_at_call 27; refine (satMul_any _ _ _ (by omega) (by omega)).mono ?_; rintro e w' ⟨rfl, rfl⟩)
    | (go_at_call 32; refine (satMod_any _ _ _ (by omega) (by omega)).mono ?_; rintro e w' ⟨rfl, rfl⟩)
    | (go_at_call 30; refine (satAdd_any _ _ _ (by omega) (by omega)).mono ?_; rintro e w' ⟨rfl, rfl⟩))
  go_ret
  exact ⟨ret_int T.out, L⟩
end Go.Proofs.Ytbfghiocfognlaa
