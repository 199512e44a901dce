/- The document's own shares, ratios, parts, steps, halves and roots are those of whole numbers, downwards. -/
import Derived.Test.YtgbcgnlibnkjpaaFixM
import Derived.Test.YtgbcgnlibnkjpaaRef2H
import Derived.LoopTactic
import Derived.Deep.LoopGhost
namespace Go.Proofs.Ytgbcgnlibnkjpaa
open Go.ChangeShapes Go.WideShapes Go.ChangeAt Go.RowKit
set_option linter.unusedVariables false

theorem refShare_any (f : Int) (w : World) :
    Calls Try.prog 20 #[.int .i64 f] w fun e w' => e = .returned (.int .i64 (shr f)) ∧ w = w' := by
  go_enter Try.func20, Try.ntmps20
  go_wp2
  all_goals go_ret
  all_goals exact ⟨ret_int (by unfold shr; split <;> (try split) <;> omega), rfl⟩

theorem refQuo_any (a b c : Int) (w : World) (ha : 0 ≤ a ∧ a ≤ 9223372036854775807) (hb : 0 ≤ b ∧ b ≤ 1048576) (hc : 0 < c ∧ c ≤ 9223372036854775807) (h : a * b / c ≤ 9223372036854775807) :
    Calls Try.prog 28 #[.int .i64 a, .int .i64 b, .int .i64 c] w fun e w' => e = .returned (.int .i64 (a * b / c)) ∧ Below w.heap.size w w' := by
  have m := (mul_ends a b hb).1 ha.1
  have hq : 0 ≤ a * b / c := Int.ediv_nonneg m.1 (by omega)
  have M := Lib.hid (mdV_ok a b c ha.1 hb.1 hc.1 h).1
  have T := Lib.hid (Int.tdiv_eq_ediv_of_nonneg (b := c) m.1)
  by_cases h1 : a < 4398046511104
  · have c0 : (c == 0) = false := by simp; omega
    have m1 : a * b ≤ 4611686018427387904 := by omega
    go_enter Try.func28, Try.ntmps28
    go_wp2_with fail
    go_ret
    exact ⟨rfl, new_refl w⟩
  · go_enter Try.func28, Try.ntmps28
    go_wp2_with (go_at_call 50; refine (refMulDiv_any _ _ _ _ _ (by omega) (by omega) (by omega)).mono ?_; rw [M.out]; rintro e w1 ⟨rfl, B⟩)
    go_ret
    exact ⟨rfl, B⟩

theorem refRatio_any (a b : Int) (w : World) (ha : -9223372036854775808 ≤ a ∧ a ≤ 9223372036854775807) (hb : -9223372036854775808 ≤ b ∧ b ≤ 9223372036854775807) :
    Calls Try.prog 17 #[.int .i64 a, .int .i64 b] w fun e w' => e = .returned (.int .i64 (rto a b)) ∧ Below w.heap.size w w' := by
  by_cases h1 : a ≤ 0
  · have R := Lib.hid (rto_low a b h1)
    go_enter Try.func17, Try.ntmps17
    go_wp2_with fail
    go_ret
    exact ⟨ret_int R.out.symm, new_refl w⟩
  · by_cases h2 : b ≤ 0 ∨ b ≤ a
    · have R := Lib.hid (show rto a b = 1048576 by unfold rto; rw [if_neg h1, if_pos h2])
      rcases h2 with h2 | h2
      · go_enter Try.func17, Try.ntmps17
        go_wp2_with fail
        go_ret
        exact ⟨ret_int R.out.symm, new_refl w⟩
      · by_cases h3 : b ≤ 0
        all_goals
          go_enter Try.func17, Try.ntmps17
          go_wp2_with fail
          go_ret
          exact ⟨ret_int R.out.symm, new_refl w⟩
    · have R := Lib.hid (show rto a b = a * 1048576 / b by unfold rto; rw [if_neg h1, if_neg h2])
      have q := rto_small a b (by omega) (by omega) (by omega)
      have h3 : ¬ b ≤ 0 := by omega
      have h4 : a < b := by omega
      clear h2
      go_enter Try.func17, Try.ntmps17
      go_wp2_with (go_at_call 28; refine (refQuo_any _ _ _ _ (by omega) (by omega) (by omega) (by omega)).mono ?_; rintro e w1 ⟨rfl, B⟩)
      go_ret
      exact ⟨ret_int R.out.symm, B⟩

theorem refPart_any (x f : Int) (w : World) (hx : -9223372036854775808 ≤ x ∧ x ≤ 9223372036854775807) :
    Calls Try.prog 44 #[.int .i64 x, .int .i64 f] w fun e w' => e = .returned (.int .i64 (prs x (shr f))) ∧ Below w.heap.size w w' := by
  have s := shr_bd f
  have D := Lib.hid (show x * shr f / 1048576 = prs x (shr f) from rfl)
  have pb := prs_bd x (shr f) hx s
  by_cases h1 : 0 ≤ x
  · have h2 : x * shr f / 1048576 ≤ 9223372036854775807 := pb.2
    go_enter Try.func44, Try.ntmps44
    go_wp2_with (first
      | (go_at_call 20; refine (refShare_any _ _).mono ?_; rintro e w' ⟨rfl, rfl⟩)
      | (go_at_call 28; refine (refQuo_any _ _ _ _ (by omega) (by omega) (by omega) (by omega)).mono ?_; rintro e w1 ⟨rfl, B⟩))
    go_ret
    exact ⟨ret_int D.out, B⟩
  · by_cases h2 : x = -9223372036854775808
    · subst h2
      have R := Lib.hid (prs_least (shr f))
      clear D pb
      go_enter Try.func44, Try.ntmps44
      go_wp2_with (go_at_call 20; refine (refShare_any _ _).mono ?_; rintro e w' ⟨rfl, rfl⟩)
      go_ret
      exact ⟨ret_int (by have := R.out; first | exact this | (unfold wrap64; omega)), new_refl w⟩
    · have h3 : (x == -9223372036854775808) = false := by simp [h2]
      have h4 : -9223372036854775808 < x := by omega
      have M := Lib.hid (mdV_up x (shr f) (by omega) s)
      have pn := (prs_ends x (shr f) s).2 (by omega)
      clear h2
      go_enter Try.func44, Try.ntmps44
      go_wp2_with (first
        | (go_at_call 20; refine (refShare_any _ _).mono ?_; rintro e w' ⟨rfl, rfl⟩)
        | (go_at_call 50; refine (refMulDiv_any _ _ _ _ _ (by omega) (by omega) (by omega)).mono ?_; rw [M.out]; rintro e w1 ⟨rfl, B⟩))
      go_ret
      exact ⟨ret_int (by omega), B⟩
end Go.Proofs.Ytgbcgnlibnkjpaa
