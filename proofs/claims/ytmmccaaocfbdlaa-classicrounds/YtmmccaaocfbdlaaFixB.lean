/- Package fixed: steps, halves and roots are those of whole numbers, downwards. -/
import Derived.Test.YtmmccaaocfbdlaaFixA
namespace Go.Proofs.Ytmmccaaocfbdlaa
open Go.ChangeShapes Go.WideShapes Go.ChangeAt Go.RowKit
set_option linter.unusedVariables false

theorem toward_any (x y n : Int) (w : World) (hx : -9223372036854775808 ≤ x ∧ x ≤ 9223372036854775807) (hy : -9223372036854775808 ≤ y ∧ y ≤ 9223372036854775807) (hn : -9223372036854775808 ≤ n ∧ n ≤ 9223372036854775807) :
    Calls Try.prog 22 #[.int .i64 x, .int .i64 y, .int .i64 n] w fun e w' => e = .returned (.int .i64 (twd x y n)) ∧ Below w.heap.size w w' := by
  have D := Lib.hid (show twd x y n = sat64 (x + fdv (sat64 (y - x)) (P2 (shf n))) from rfl)
  have p := P2_bd62 (shf n) (shf_bd n)
  have P : wrap64 (2 ^ (min (max n 0) 62).toNat) = P2 (shf n) := by
    have e : (min (max n 0) 62).toNat = shf n := by unfold shf; split <;> (try split) <;> omega
    rw [e, ← P2]; unfold wrap64; omega
  have b1 := sat64_bd (y - x)
  have b2 := fdv_bd (sat64 (y - x)) (P2 (shf n))
  have L := new_refl w
  go_enter Try.func22, Try.ntmps22
  go_wp2_with (first
    | (go_at_call 25; refine (satSub_any _ _ _ (by omega) (by omega)).mono ?_; rintro e w' ⟨rfl, rfl⟩)
    | (go_at_call 30; refine (div_pos _ _ _ (by omega) (by omega)).mono ?_; rintro e w1 ⟨rfl, B⟩; replace L := new_then L B)
    | (go_at_call 27; refine (satAdd_any _ _ _ (by omega) (by omega)).mono ?_; rintro e w' ⟨rfl, rfl⟩))
  go_ret
  exact ⟨ret_int D.out.symm, L⟩

def HalveInv (x : Int) (m : Nat) (w : World) (gk : Nat) (vx vi : Value) (wr : World) : Prop :=
  ∃ k : Nat, k ≤ m ∧ gk = m - k ∧ vi = .int .i64 k ∧ vx = .int .i64 (hlv x k) ∧ Below w.heap.size w wr

theorem halve_any (x n : Int) (w : World) (hx : -9223372036854775808 ≤ x ∧ x ≤ 9223372036854775807) (hn : -9223372036854775808 ≤ n ∧ n ≤ 9223372036854775807) :
    Calls Try.prog 23 #[.int .i64 x, .int .i64 n] w fun e w' => e = .returned (.int .i64 (hlv x (upto n 63))) ∧ Below w.heap.size w w' := by
  have Z := Lib.hid (hlv_zero x)
  have hm := upto_is n 63
  obtain ⟨m, em⟩ : ∃ m, upto n 63 = m := ⟨_, rfl⟩
  rw [em] at hm ⊢
  clear em
  rcases hm with ⟨h1, h2⟩ | ⟨h1, h2, h3⟩ | ⟨h0, h1, h2, h3⟩
  · obtain rfl : m = 0 := by omega
    go_enter Try.func23, Try.ntmps23
    go_wp2
    go_loopg [0, 7] 0 (fun g vx vi wr => vx = .int .i64 x ∧ vi = .int .i64 0 ∧ wr = w)
    case atStart => exact ⟨rfl, rfl, rfl⟩
    case round =>
      obtain ⟨rfl, rfl, rfl⟩ := hrel
      go_wp2
      go_ret
      exact ⟨ret_int Z.out.symm, new_refl _⟩
  all_goals
    go_enter Try.func23, Try.ntmps23
    go_wp2
    go_loopg [0, 7] m (fun g vx vi wr => HalveInv x m w g vx vi wr)
    case atStart => exact ⟨0, by omega, rfl, rfl, by rw [Z.out], new_refl w⟩
    case round =>
      obtain ⟨k, hk, hg, rfl, rfl, hbel⟩ := hrel
      have hb := hlv_bd x k hx
      have S := Lib.hid (hlv_succ x k hx)
      by_cases hlt : k < m
      · go_wp2_with (go_at_call 30; refine (div_pos _ _ _ (by omega) (by omega)).mono ?_; rintro e w1 ⟨rfl, B⟩)
        go_roundg (m - (k + 1))
        case measure => omega
        case rel => exact ⟨k + 1, by omega, rfl, by go_num, by rw [S.out], new_then hbel B⟩
      · obtain rfl : m = k := by omega
        go_wp2
        go_ret
        exact ⟨rfl, hbel⟩
end Go.Proofs.Ytmmccaaocfbdlaa
