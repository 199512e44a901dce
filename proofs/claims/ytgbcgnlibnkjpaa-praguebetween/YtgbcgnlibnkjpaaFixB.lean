/- Package fixed: steps, halves and roots are those of whole numbers, downwards. -/
import Derived.Test.YtgbcgnlibnkjpaaFixA
namespace Go.Proofs.Ytgbcgnlibnkjpaa
open Go.ChangeShapes Go.WideShapes Go.ChangeAt Go.RowKit
set_option linter.unusedVariables false

def HalveInv (x : Int) (m : Nat) (w : World) (gk : Nat) (vx vi : Value) (wr : World) : Prop :=
  ∃ k : Nat, k ≤ m ∧ gk = m - k ∧ vi = .int .i64 k ∧ vx = .int .i64 (hlv x k) ∧ Below w.heap.size w wr

theorem halve_any (x n : Int) (w : World) (hx : -9223372036854775808 ≤ x ∧ x ≤ 9223372036854775807) (hn : -9223372036854775808 ≤ n ∧ n ≤ 9223372036854775807) :
    Calls Try.prog 33 #[.int .i64 x, .int .i64 n] w fun e w' => e = .returned (.int .i64 (hlv x (upto n 63))) ∧ Below w.heap.size w w' := by
  have Z := Lib.hid (hlv_zero x)
  have hm := upto_is n 63
  obtain ⟨m, em⟩ : ∃ m, upto n 63 = m := ⟨_, rfl⟩
  rw [em] at hm ⊢
  clear em
  rcases hm with ⟨h1, h2⟩ | ⟨h1, h2, h3⟩ | ⟨h0, h1, h2, h3⟩
  · obtain rfl : m = 0 := by omega
    go_enter Try.func33, Try.ntmps33
    go_wp2
    go_loopg [0, 7] 0 (fun g vx vi wr => vx = .int .i64 x ∧ vi = .int .i64 0 ∧ wr = w)
    case atStart => exact ⟨rfl, rfl, rfl⟩
    case round =>
      obtain ⟨rfl, rfl, rfl⟩ := hrel
      go_wp2
      go_ret
      exact ⟨ret_int Z.out.symm, new_refl _⟩
  all_goals
    go_enter Try.func33, Try.ntmps33
    go_wp2
    go_loopg [0, 7] m (fun g vx vi wr => HalveInv x m w g vx vi wr)
    case atStart => exact ⟨0, by omega, rfl, rfl, by rw [Z.out], new_refl w⟩
    case round =>
      obtain ⟨k, hk, hg, rfl, rfl, hbel⟩ := hrel
      have hb := hlv_bd x k hx
      have S := Lib.hid (hlv_succ x k hx)
      by_cases hlt : k < m
      · go_wp2_with (go_at_call 41; refine (div_pos _ _ _ (by omega) (by omega)).mono ?_; rintro e w1 ⟨rfl, B⟩)
        go_roundg (m - (k + 1))
        case measure => omega
        case rel => exact ⟨k + 1, by omega, rfl, by go_num, by rw [S.out], new_then hbel B⟩
      · obtain rfl : m = k := by omega
        go_wp2
        go_ret
        exact ⟨rfl, hbel⟩
end Go.Proofs.Ytgbcgnlibnkjpaa
