/- Package serial's width, mask, cut and sum, and the document's own round, cut, sum and difference: those of whole numbers modulo 2^bits. -/
import Derived.Test.YtfoonfmhamaclaaBase
import Derived.Test.YtfoonfmhamaclaaSerM
import Derived.Lib.BitFns
namespace Go.Proofs.Ytfoonfmhamaclaa
open Go.ChangeShapes Go.WideShapes Go.ChangeAt Go.RowKit
set_option linter.unusedVariables false

theorem width_any (b : Int) (w : World) (h : -9223372036854775808 ≤ b ∧ b ≤ 9223372036854775807) :
    Calls Try.prog 55 #[.int .i64 b] w fun e w' => e = .returned (.int .i64 (wid b)) ∧ w = w' := by
  go_enter Try.func55, Try.ntmps55
  go_wp2
  all_goals go_ret
  all_goals exact ⟨ret_int (by unfold wid; split <;> (try split) <;> omega), rfl⟩

theorem mask_any (b : Int) (w : World) (h : -9223372036854775808 ≤ b ∧ b ≤ 9223372036854775807) :
    Calls Try.prog 51 #[.int .i64 b] w fun e w' => e = .returned (.int .u64 (rd b - 1)) ∧ w = w' := by
  have hw := wid_bd b
  have R := Lib.hid (rd_bd b)
  have D := Lib.hid (show rd b = 2 ^ wid b from rfl)
  obtain ⟨k, hk⟩ : ∃ k, wid b = k := ⟨_, rfl⟩
  have K := Lib.hid hk
  rw [hk] at hw
  clear hk
  go_enter Try.func51, Try.ntmps51
  go_wp2_with (go_at_call 55; refine (width_any _ _ (by omega)).mono ?_; rintro e w' ⟨rfl, rfl⟩; rw [K.out])
  go_ret
  refine ⟨ret_int ?_, rfl⟩
  have r := R.out
  rw [← K.out, ← D.out]
  simp only [IntKind.wrap_u64]
  omega

theorem and_mask (x b : Int) (h : 0 ≤ x ∧ x ≤ 18446744073709551615) : bits .and .u64 x (rd b - 1) = x % rd b := by
  obtain ⟨a, rfl⟩ : ∃ a : Nat, x = a := ⟨x.toNat, by omega⟩
  have r := rd_bd b
  have p : rd b - 1 = ((2 ^ wid b - 1 : Nat) : Int) := by
    have : (1 : Nat) ≤ 2 ^ wid b := Nat.one_le_two_pow
    unfold rd
    rw [Int.natCast_sub this]
    simp
  have q : rd b = ((2 ^ wid b : Nat) : Int) := by unfold rd; simp
  rw [p] at *
  have e := bits_and_u64_nat a (2 ^ wid b - 1) (by omega) (by omega)
  rw [Nat.and_two_pow_sub_one_eq_mod a (wid b)] at e
  rw [e, q]
  simp

theorem cut_any (x b : Int) (w : World) (hx : 0 ≤ x ∧ x ≤ 18446744073709551615) (h : -9223372036854775808 ≤ b ∧ b ≤ 9223372036854775807) :
    Calls Try.prog 50 #[.int .u64 x, .int .i64 b] w fun e w' => e = .returned (.int .u64 (x % rd b)) ∧ w = w' := by
  have m := and_mask x b hx
  go_enter Try.func50, Try.ntmps50
  go_wp2_with (go_at_call 51; refine (mask_any _ _ (by omega)).mono ?_; rintro e w' ⟨rfl, rfl⟩)
  go_ret
  exact ⟨rfl, rfl⟩

def p2 (k : Nat) : Int := 2 ^ k
theorem p2_bd (k : Nat) (h : k ≤ 62) : 1 ≤ p2 k ∧ p2 k ≤ 4611686018427387904 := ⟨pow_le 0 _ (by omega), pow_le _ 62 (by omega)⟩
theorem p2_succ (k : Nat) : p2 (k + 1) = p2 k * 2 := by unfold p2; rw [Int.pow_succ]
/-- b, kept from 1 to 62, is m: by inequalities. -/
def Kept (b : Int) (m : Nat) : Prop := (b < 1 ∧ m ≤ 1 ∧ 1 ≤ m) ∨ (62 < b ∧ m ≤ 62 ∧ 62 ≤ m) ∨ (1 ≤ b ∧ b ≤ 62 ∧ (m : Int) ≤ b ∧ b ≤ m)
theorem kept_wid (b : Int) : Kept b (wid b) := by unfold Kept wid; split <;> (try split) <;> omega

theorem round_any (b : Int) (w : World) (h : -9223372036854775808 ≤ b ∧ b ≤ 9223372036854775807) :
    Calls Try.prog 39 #[.int .i64 b] w fun e w' => e = .returned (.int .i64 (rd b)) ∧ w = w' := by
  have D := Lib.hid (show rd b = p2 (wid b) from rfl)
  have hw := kept_wid b
  obtain ⟨m, hm⟩ : ∃ m, wid b = m := ⟨_, rfl⟩
  rw [hm] at hw D
  clear hm
  rcases hw with ⟨h1, h2, h3⟩ | ⟨h1, h2, h3⟩ | ⟨h0, h1, h2, h3⟩
  all_goals
    go_enter Try.func39, Try.ntmps39
    go_wp2
    go_loop [3, 4] (fun n i => ∃ k : Nat, k ≤ m ∧ i = .int .i64 k ∧ n = .int .i64 (p2 k)) (fun _ i => m - (intOf i).toNat)
    case atStart => exact ⟨0, Nat.zero_le _, rfl, rfl⟩
    case round =>
      obtain ⟨k, hk, rfl, rfl⟩ := hrel
      have hp := p2_bd k (by omega)
      by_cases hlt : k < m
      · have hp1 := p2_bd (k + 1) (by omega)
        rw [p2_succ] at hp1
        have S := Lib.hid (p2_succ k)
        go_wp2
        go_round
        case rel => exact ⟨k + 1, by omega, by go_num, by rw [S.out]⟩
        case measure => simp [intOf]; omega
      · obtain rfl : m = k := by omega
        go_wp2
        go_ret
        exact ⟨ret_int D.out.symm, rfl⟩

theorem refCut_any (x b : Int) (w : World) (hx : 0 ≤ x ∧ x ≤ 18446744073709551615) (h : -9223372036854775808 ≤ b ∧ b ≤ 9223372036854775807) :
    Calls Try.prog 40 #[.int .u64 x, .int .i64 b] w fun e w' => e = .returned (.int .u64 (x % rd b)) ∧ w = w' := by
  have r := rd_bd b
  go_enter Try.func40, Try.ntmps40
  go_wp2_with (go_at_call 39; refine (round_any _ _ (by omega)).mono ?_; rintro e w' ⟨rfl, rfl⟩)
  go_ret
  exact ⟨rfl, rfl⟩

theorem refDiff_any (a b n : Int) (w : World) (ha : 0 ≤ a ∧ a ≤ 18446744073709551615) (hb : 0 ≤ b ∧ b ≤ 18446744073709551615) (h : -9223372036854775808 ≤ n ∧ n ≤ 9223372036854775807) :
    Calls Try.prog 25 #[.int .u64 a, .int .u64 b, .int .i64 n] w fun e w' => e = .returned (.int .i64 (dif a b n)) ∧ w = w' := by
  have E := Lib.hid (dif3_is a b n)
  have r := rd_bd n
  have ma := rd_mod a n
  have mb := rd_mod b n
  have hh := hf_bd n
  have H := Lib.hid (rd_hf n)
  have h2 : rd n / 2 = hf n := by have := rd_hf n; omega
  go_enter Try.func25, Try.ntmps25
  go_wp2_with (first | (go_at_call 39; refine (round_any _ _ (by omega)).mono ?_; rintro e w' ⟨rfl, rfl⟩) | (go_at_call 40; refine (refCut_any _ _ _ (by omega) (by omega)).mono ?_; rintro e w' ⟨rfl, rfl⟩))
  all_goals go_ret
  all_goals
    refine ⟨ret_int ?_, rfl⟩
    have e := H.out
    rw [← E.out]
    unfold dif3
    split <;> (try split) <;> omega

theorem unwrap_end (L x n t f : Int) (hf : f = L % rd n)
    (h : (x % rd n - f = 0 ∧ t = L) ∨ (x % rd n - f < 0 ∧ rd n - (x % rd n - f + rd n) ≤ x % rd n - f + rd n ∧ t = L - (rd n - (x % rd n - f + rd n))) ∨ (x % rd n - f < 0 ∧ ¬ rd n - (x % rd n - f + rd n) ≤ x % rd n - f + rd n ∧ t = L + (x % rd n - f + rd n))
      ∨ (0 < x % rd n - f ∧ rd n - (x % rd n - f) ≤ x % rd n - f ∧ t = L - (rd n - (x % rd n - f))) ∨ (0 < x % rd n - f ∧ ¬ rd n - (x % rd n - f) ≤ x % rd n - f ∧ t = L + (x % rd n - f))) : t = L + dif x L n := by
  subst hf
  have V := up_of L x n
  have mx := rd_mod x n
  have mL := rd_mod L n
  rw [unwrap_is]
  split <;> (try split) <;> omega
theorem far_mod (n : Int) : 4611686018427387904 % rd n = 0 := by
  have h := wid_bd n
  refine Int.emod_eq_zero_of_dvd ⟨2 ^ (62 - wid n), ?_⟩
  unfold rd
  rw [← Int.pow_add, show wid n + (62 - wid n) = 62 by omega]
  rfl

theorem far_mod' (n : Int) : -4611686018427387904 % rd n = 0 := by
  have h := wid_bd n
  refine Int.emod_eq_zero_of_dvd ⟨-2 ^ (62 - wid n), ?_⟩
  unfold rd
  rw [Int.mul_neg, ← Int.pow_add, show wid n + (62 - wid n) = 62 by omega]
  rfl
end Go.Proofs.Ytfoonfmhamaclaa
