/- The library's quotient of 128 bits by 64. -/
import Derived.Test.YtcgpjnddklhemaaBitsD
import Derived.Deep.CutBlock
import Derived.Deep.DeepCutAuto
import Derived.Deep.LoopGhost
import Derived.Deep.QuietTactic
import Derived.BigQuiet
namespace Go.Proofs.Ytcgpjnddklhemaa
open Go.ChangeShapes Go.WideShapes Go.ChangeAt Go.RowKit
set_option linter.unusedVariables false

theorem or_low (a b s : Nat) (hb : b < 2 ^ s) : a * 2 ^ s ||| b = a * 2 ^ s + b := by
  rw [← Nat.shiftLeft_eq]; exact (Nat.shiftLeft_add_eq_or_of_lt hb a).symm

theorem castp (x s : Nat) : ((x * 2 ^ s : Nat) : Int) = (x : Int) * 2 ^ s := by push_cast; rfl
theorem castd (x s : Nat) : ((x / 2 ^ s : Nat) : Int) = (x : Int) / 2 ^ s := by push_cast; rfl

/-- What the shift by s makes of both halves. -/
theorem shifted (h l y : Int) (s : Nat) (hs : s ≤ 63) (hh : 0 ≤ h ∧ h < y) (hl : 0 ≤ l ∧ l ≤ 18446744073709551615) (hY : y * 2 ^ s < 18446744073709551616) :
    ∃ U L : Int, bits .or .u64 (IntKind.u64.wrap (h * 2 ^ s)) (l / 2 ^ (64 - s)) = U ∧ IntKind.u64.wrap (l * 2 ^ s) = L ∧ 0 ≤ U ∧ U < y * 2 ^ s ∧ 0 ≤ L ∧ L < 18446744073709551616 ∧
      18446744073709551616 * U + L = (18446744073709551616 * h + l) * 2 ^ s := by
  obtain ⟨h, rfl⟩ := Int.eq_ofNat_of_zero_le hh.1
  obtain ⟨l, rfl⟩ := Int.eq_ofNat_of_zero_le hl.1
  obtain ⟨y, rfl⟩ := Int.eq_ofNat_of_zero_le (show 0 ≤ y by omega)
  have p : (2 : Nat) ^ 64 = 2 ^ (64 - s) * 2 ^ s := by rw [← Nat.pow_add]; congr 1; omega
  have pp : 0 < 2 ^ (64 - s) := Nat.two_pow_pos _
  have ps : 0 < 2 ^ s := Nat.two_pow_pos _
  have hY' : y * 2 ^ s < 18446744073709551616 := by rw [← castp] at hY; omega
  have hhy : h + 1 ≤ y := by omega
  have h1 : (h + 1) * 2 ^ s ≤ y * 2 ^ s := Nat.mul_le_mul_right _ hhy
  have h2 : h * 2 ^ s + 2 ^ s ≤ y * 2 ^ s := by rw [Nat.add_mul] at h1; omega
  have h3 : l / 2 ^ (64 - s) < 2 ^ s := Nat.div_lt_of_lt_mul (by rw [← p]; omega)
  have d : l * 2 ^ s / 18446744073709551616 = l / 2 ^ (64 - s) := by
    have : (18446744073709551616 : Nat) = 2 ^ (64 - s) * 2 ^ s := p
    rw [this, Nat.mul_div_mul_right _ _ ps]
  have m := Nat.div_add_mod (l * 2 ^ s) 18446744073709551616
  rw [d] at m
  refine ⟨((h * 2 ^ s + l / 2 ^ (64 - s) : Nat) : Int), ((l * 2 ^ s % 18446744073709551616 : Nat) : Int), ?_, ?_, by omega, ?_, by omega, by omega, ?_⟩
  · rw [← castp, ← castd, show IntKind.u64.wrap ((h * 2 ^ s : Nat) : Int) = ((h * 2 ^ s : Nat) : Int) by rw [IntKind.wrap_u64]; omega,
      bits_or_u64_nat _ _ (by omega) (by omega), or_low _ _ _ h3]
  · rw [IntKind.wrap_u64, ← castp]; omega
  · rw [← castp]; omega
  · rw [show 18446744073709551616 * (h : Int) + l = ((18446744073709551616 * h + l : Nat) : Int) by omega, ← castp]
    have : 18446744073709551616 * (h * 2 ^ s + l / 2 ^ (64 - s)) + l * 2 ^ s % 18446744073709551616 = (18446744073709551616 * h + l) * 2 ^ s := by
      rw [Nat.add_mul, Nat.mul_add, Nat.mul_assoc]; omega
    omega

/-- The quotient and what is left, out of two steps. -/
theorem both_steps (N y U L Y : Int) (s : Nat) (hy : 0 < y) (hY : y * 2 ^ s = Y) (hL : 0 ≤ L ∧ L < 18446744073709551616) (e : 18446744073709551616 * U + L = N * 2 ^ s) (q1 q0 r1 : Int)
    (h1 : (4294967296 * U + L / 4294967296) / Y = q1) (hr : 4294967296 * U + L / 4294967296 - q1 * Y = r1) (h0 : (4294967296 * r1 + L % 4294967296) / Y = q0) :
    N / y = q1 * 4294967296 + q0 ∧ N % y = (4294967296 * r1 + L % 4294967296 - q0 * Y) / 2 ^ s := by
  have ps : (0 : Int) < 2 ^ s := by exact_mod_cast Nat.two_pow_pos s
  have Yp : 0 < Y := by rw [← hY]; exact Int.mul_pos hy ps
  obtain ⟨a, b⟩ := two_steps (4294967296 * U + L / 4294967296) (L % 4294967296) Y Yp (by omega)
  have n : 4294967296 * (4294967296 * U + L / 4294967296) + L % 4294967296 = N * 2 ^ s := by rw [← e]; omega
  rw [n, h1, hr, h0] at a b
  rw [← hY, Int.mul_ediv_mul_of_pos_left _ _ ps] at a
  rw [← hY] at b
  refine ⟨a, ?_⟩
  rw [hY] at b
  rw [← b, ← hY, Int.mul_comm N, Int.mul_comm y, Int.mul_emod_mul_of_pos _ _ ps, Int.mul_ediv_cancel_left _ (by omega)]
end Go.Proofs.Ytcgpjnddklhemaa
