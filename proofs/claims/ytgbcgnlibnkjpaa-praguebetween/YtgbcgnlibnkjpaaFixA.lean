/- Package fixed: shares, ratios, parts, products, steps, halves and roots are those of whole numbers, downwards. -/
import Derived.Test.YtgbcgnlibnkjpaaFixM
import Derived.Test.YtgbcgnlibnkjpaaSatC
import Derived.Test.YtgbcgnlibnkjpaaWideR
import Derived.Deep.LoopGhost
namespace Go.Proofs.Ytgbcgnlibnkjpaa
open Go.ChangeShapes Go.WideShapes Go.ChangeAt Go.RowKit
set_option linter.unusedVariables false

theorem share_any (f : Int) (w : World) :
    Calls Try.prog 26 #[.int .i64 f] w fun e w' => e = .returned (.int .i64 (shr f)) ∧ w = w' := by
  have C := Lib.hid (clamp_shr f)
  go_enter Try.func26, Try.ntmps26
  go_wp2_with (go_at_call 34; refine (satClamp_any _ _ _ _).mono ?_; rintro e w' ⟨rfl, rfl⟩)
  go_ret
  exact ⟨ret_int C.out, rfl⟩

/-- sat.Div, of a divisor above 0. -/
theorem div_pos (a b : Int) (w : World) (ha : -9223372036854775808 ≤ a ∧ a ≤ 9223372036854775807) (hb : -9223372036854775808 ≤ b ∧ b ≤ 9223372036854775807) :
    Calls Try.prog 41 #[.int .i64 a, .int .i64 b] w fun e w' => e = .returned (.int .i64 (fdv a b)) ∧ Below w.heap.size w w' := by
  refine (satDiv_any a b w ha hb).mono ?_
  rintro e w' ⟨rfl, n, rfl⟩
  exact ⟨rfl, new_draw (new_refl w) n⟩

theorem fdv_bd (a b : Int) : -9223372036854775808 ≤ fdv a b ∧ fdv a b ≤ 9223372036854775807 := by
  unfold fdv; split
  · omega
  · exact sat64_bd _

theorem ratio_any (a b : Int) (w : World) (ha : -9223372036854775808 ≤ a ∧ a ≤ 9223372036854775807) (hb : -9223372036854775808 ≤ b ∧ b ≤ 9223372036854775807) :
    Calls Try.prog 15 #[.int .i64 a, .int .i64 b] w fun e w' => e = .returned (.int .i64 (rto a b)) ∧ Below w.heap.size w w' := by
  by_cases h1 : a ≤ 0
  · have R := Lib.hid (rto_low a b h1)
    go_enter Try.func15, Try.ntmps15
    go_wp2_with fail
    go_ret
    exact ⟨ret_int R.out.symm, new_refl w⟩
  · by_cases h2 : b ≤ 0
    · have R := Lib.hid (rto_by0 a b (by omega) h2)
      go_enter Try.func15, Try.ntmps15
      go_wp2_with fail
      go_ret
      exact ⟨ret_int R.out.symm, new_refl w⟩
    · by_cases h3 : 9223372036854775807 < a * 1048576 / b
      · have R := Lib.hid (rto_over a b (by omega) (by omega) h3)
        have M := Lib.hid (mdE_over a 1048576 b (by omega) (by decide) (by omega) h3)
        clear h3
        go_enter Try.func15, Try.ntmps15
        go_wp2_with (go_at_call 25; refine (mulDiv_any _ _ _ _ (by omega) (by omega) (by omega)).mono ?_; rw [M.out.1, M.out.2]; rintro e w1 ⟨rfl, B1⟩)
        go_ret
        exact ⟨ret_int R.out.symm, B1⟩
      · have R := Lib.hid (rto_shr a b (by omega) (by omega))
        have M := Lib.hid (mdV_ok a 1048576 b (by omega) (by decide) (by omega) (by omega))
        obtain ⟨q, eq⟩ : ∃ q, a * 1048576 / b = q := ⟨_, rfl⟩
        rw [eq] at R M
        clear h3 eq
        go_enter Try.func15, Try.ntmps15
        go_wp2_with (first | (go_at_call 25; refine (mulDiv_any _ _ _ _ (by omega) (by omega) (by omega)).mono ?_; rw [M.out.1, M.out.2]; rintro e w1 ⟨rfl, B1⟩) | (go_at_call 26; refine (share_any _ _).mono ?_; rintro e w2 ⟨rfl, rfl⟩))
        go_ret
        exact ⟨ret_int R.out, B1⟩

theorem part_any (x f : Int) (w : World) (hx : -9223372036854775808 ≤ x ∧ x ≤ 9223372036854775807) :
    Calls Try.prog 27 #[.int .i64 x, .int .i64 f] w fun e w' => e = .returned (.int .i64 (prs x (shr f))) ∧ Below w.heap.size w w' := by
  have s := shr_bd f
  have T := Lib.hid (prs_two x (shr f) hx s)
  have b1 := fdv_bd x 1048576
  have b2 := sat64_bd (fdv x 1048576 * shr f)
  have b3 : -9223372036854775808 ≤ fmd x 1048576 ∧ fmd x 1048576 ≤ 9223372036854775807 := by rw [fmd_em _ _ (by decide)]; omega
  have b4 := sat64_bd (fmd x 1048576 * shr f)
  have b5 := fdv_bd (sat64 (fmd x 1048576 * shr f)) 1048576
  have L := new_refl w
  go_enter Try.func27, Try.ntmps27
  go_wp2_with (first
    | (go_at_call 26; refine (share_any _ _).mono ?_; rintro e w' ⟨rfl, rfl⟩)
    | (go_at_call 41; refine (div_pos _ _ _ (by omega) (by omega)).mono ?_; rintro e w1 ⟨rfl, B⟩; replace L := new_then L B)
    | (go_at_call 38; refine (satMul_any _ _ _ (by omega) (by omega)).mono ?_; rintro e w' ⟨rfl, rfl⟩)
    | (go_at_call 40; refine (satMod_any _ _ _ (by omega) (by omega)).mono ?_; rintro e w' ⟨rfl, rfl⟩)
    | (go_at_call 30; refine (satAdd_any _ _ _ (by omega) (by omega)).mono ?_; rintro e w' ⟨rfl, rfl⟩))
  go_ret
  exact ⟨ret_int T.out, L⟩

theorem fmul_any (f g : Int) (w : World) :
    Calls Try.prog 16 #[.int .i64 f, .int .i64 g] w fun e w' => e = .returned (.int .i64 (prs (shr f) (shr g))) ∧ Below w.heap.size w w' := by
  have s := shr_bd f
  go_enter Try.func16, Try.ntmps16
  go_wp2_with (first
    | (go_at_call 26; refine (share_any _ _).mono ?_; rintro e w' ⟨rfl, rfl⟩)
    | (go_at_call 27; refine (part_any _ _ _ (by omega)).mono ?_; rintro e w1 ⟨rfl, B⟩))
  go_ret
  exact ⟨rfl, B⟩
end Go.Proofs.Ytgbcgnlibnkjpaa
