/- The document's own shares, ratios, parts, steps, halves and roots are those of whole numbers, downwards. -/
import Derived.Test.YtmmccaaocfbdlaaFixM
import Derived.Test.YtmmccaaocfbdlaaRef2H
import Derived.LoopTactic
import Derived.Deep.LoopGhost
namespace Go.Proofs.Ytmmccaaocfbdlaa
open Go.ChangeShapes Go.WideShapes Go.ChangeAt Go.RowKit
set_option linter.unusedVariables false

theorem refQuo_any (a b c : Int) (w : World) (ha : 0 ≤ a ∧ a ≤ 9223372036854775807) (hb : 0 ≤ b ∧ b ≤ 1048576) (hc : 0 < c ∧ c ≤ 9223372036854775807) (h : a * b / c ≤ 9223372036854775807) :
    Calls Try.prog 20 #[.int .i64 a, .int .i64 b, .int .i64 c] w fun e w' => e = .returned (.int .i64 (a * b / c)) ∧ Below w.heap.size w w' := by
  have m := (mul_ends a b hb).1 ha.1
  have hq : 0 ≤ a * b / c := Int.ediv_nonneg m.1 (by omega)
  have M := Lib.hid (mdV_ok a b c ha.1 hb.1 hc.1 h).1
  have T := Lib.hid (Int.tdiv_eq_ediv_of_nonneg (b := c) m.1)
  by_cases h1 : a < 4398046511104
  · have c0 : (c == 0) = false := by simp; omega
    have m1 : a * b ≤ 4611686018427387904 := by omega
    go_enter Try.func20, Try.ntmps20
    go_wp2_with fail
    go_ret
    exact ⟨rfl, new_refl w⟩
  · go_enter Try.func20, Try.ntmps20
    go_wp2_with (go_at_call 29; refine (refMulDiv_any _ _ _ _ _ (by omega) (by omega) (by omega)).mono ?_; rw [M.out]; rintro e w1 ⟨rfl, B⟩)
    go_ret
    exact ⟨rfl, B⟩

theorem refRatio_any (a b : Int) (w : World) (ha : -9223372036854775808 ≤ a ∧ a ≤ 9223372036854775807) (hb : -9223372036854775808 ≤ b ∧ b ≤ 9223372036854775807) :
    Calls Try.prog 12 #[.int .i64 a, .int .i64 b] w fun e w' => e = .returned (.int .i64 (rto a b)) ∧ Below w.heap.size w w' := by
  by_cases h1 : a ≤ 0
  · have R := Lib.hid (rto_low a b h1)
    go_enter Try.func12, Try.ntmps12
    go_wp2_with fail
    go_ret
    exact ⟨ret_int R.out.symm, new_refl w⟩
  · by_cases h2 : b ≤ 0 ∨ b ≤ a
    · have R := Lib.hid (show rto a b = 1048576 by unfold rto; rw [if_neg h1, if_pos h2])
      rcases h2 with h2 | h2
      · go_enter Try.func12, Try.ntmps12
        go_wp2_with fail
        go_ret
        exact ⟨ret_int R.out.symm, new_refl w⟩
      · by_cases h3 : b ≤ 0
        all_goals
          go_enter Try.func12, Try.ntmps12
          go_wp2_with fail
          go_ret
          exact ⟨ret_int R.out.symm, new_refl w⟩
    · have R := Lib.hid (show rto a b = a * 1048576 / b by unfold rto; rw [if_neg h1, if_neg h2])
      have q := rto_small a b (by omega) (by omega) (by omega)
      have h3 : ¬ b ≤ 0 := by omega
      have h4 : a < b := by omega
      clear h2
      go_enter Try.func12, Try.ntmps12
      go_wp2_with (go_at_call 20; refine (refQuo_any _ _ _ _ (by omega) (by omega) (by omega) (by omega)).mono ?_; rintro e w1 ⟨rfl, B⟩)
      go_ret
      exact ⟨ret_int R.out.symm, B⟩

theorem refToward_any (x y n : Int) (w : World) (hx : -9223372036854775808 ≤ x ∧ x ≤ 9223372036854775807) (hy : -9223372036854775808 ≤ y ∧ y ≤ 9223372036854775807) (hn : -9223372036854775808 ≤ n ∧ n ≤ 9223372036854775807) :
    Calls Try.prog 11 #[.int .i64 x, .int .i64 y, .int .i64 n] w fun e w' => e = .returned (.int .i64 (twd x y n)) ∧ w = w' := by
  have D := Lib.hid (show twd x y n = sat64 (x + fdv (sat64 (y - x)) (P2 (shf n))) from rfl)
  have hw := shf_is n
  have m62 := shf_bd n
  obtain ⟨m, hm⟩ : ∃ m, shf n = m := ⟨_, rfl⟩
  rw [hm] at hw D m62
  clear hm
  have b1 := sat64_bd (y - x)
  have b2 : -9223372036854775808 ≤ fdv (sat64 (y - x)) (P2 m) ∧ fdv (sat64 (y - x)) (P2 m) ≤ 9223372036854775807 := by
    unfold fdv; split
    · omega
    · exact sat64_bd _
  rcases hw with ⟨h1, h2⟩ | ⟨h1, h2, h3⟩ | ⟨h0, h1, h2, h3⟩
  · obtain rfl : m = 0 := by omega
    rw [P2_zero] at D b2
    go_enter Try.func11, Try.ntmps11
    go_wp2
    go_loop [7, 8] (fun v i => i = .int .i64 0 ∧ v = .int .i64 1) (fun _ _ => 0)
    case atStart => exact ⟨rfl, rfl⟩
    case round =>
      obtain ⟨rfl, rfl⟩ := hrel
      go_wp2_with (first
        | (go_at_call 13; refine (refSub_any _ _ _ (by omega) (by omega)).mono ?_; rintro e w' ⟨rfl, rfl⟩)
        | (go_at_call 19; refine (refDiv_any _ _ _ (by omega) (by omega)).mono ?_; rintro e w' ⟨rfl, rfl⟩)
        | (go_at_call 18; refine (refAdd_any _ _ _ (by omega) (by omega)).mono ?_; rintro e w' ⟨rfl, rfl⟩))
      go_ret
      exact ⟨ret_int D.out.symm, rfl⟩
  all_goals
    go_enter Try.func11, Try.ntmps11
    go_wp2
    go_loop [7, 8] (fun v i => ∃ k : Nat, k ≤ m ∧ i = .int .i64 k ∧ v = .int .i64 (P2 k)) (fun _ i => m - (intOf i).toNat)
    case atStart => exact ⟨0, Nat.zero_le _, rfl, rfl⟩
    case round =>
      obtain ⟨k, hk, rfl, rfl⟩ := hrel
      have hp := P2_bd62 k (by omega)
      by_cases hlt : k < m
      · have hp1 := P2_bd62 (k + 1) (by omega)
        rw [P2_succ] at hp1
        have S := Lib.hid (P2_succ k)
        go_wp2
        go_round
        case rel => exact ⟨k + 1, by omega, by go_num, by rw [S.out, Int.mul_comm]⟩
        case measure => simp [intOf]; omega
      · obtain rfl : m = k := by omega
        go_wp2_with (first
          | (go_at_call 13; refine (refSub_any _ _ _ (by omega) (by omega)).mono ?_; rintro e w' ⟨rfl, rfl⟩)
          | (go_at_call 19; refine (refDiv_any _ _ _ (by omega) (by omega)).mono ?_; rintro e w' ⟨rfl, rfl⟩)
          | (go_at_call 18; refine (refAdd_any _ _ _ (by omega) (by omega)).mono ?_; rintro e w' ⟨rfl, rfl⟩))
        go_ret
        exact ⟨ret_int D.out.symm, rfl⟩
end Go.Proofs.Ytmmccaaocfbdlaa
