/- The library's quotient of 128 bits by 64. -/
import Derived.Test.YtcgpjnddklhemaaBitsA
import Derived.Test.YtcgpjnddklhemaaWideM
import Derived.Lib.Strings
import Derived.Lib.Slices
import Derived.Lib.Small
import Derived.Lib.Walk
import Derived.Lib.BitFns
namespace Go.Proofs.Ytcgpjnddklhemaa
open Go.ChangeShapes Go.WideShapes Go.ChangeAt Go.RowKit
set_option linter.unusedVariables false

theorem bitLenAux_spec : ∀ (f x : Nat), x < 2 ^ f → x < 2 ^ Lib.bitLenAux f x ∧ (x ≠ 0 → 1 ≤ Lib.bitLenAux f x ∧ 2 ^ (Lib.bitLenAux f x - 1) ≤ x)
  | 0, x, h => by simp at h; subst h; simp [Lib.bitLenAux]
  | f + 1, x, h => by
    by_cases h0 : x = 0
    · subst h0; simp [Lib.bitLenAux]
    · obtain ⟨a, b⟩ := bitLenAux_spec f (x / 2) (by rw [Nat.pow_succ] at h; omega)
      simp only [Lib.bitLenAux, if_neg h0]
      refine ⟨by rw [Nat.add_comm, Nat.pow_succ]; omega, fun _ => ⟨by omega, ?_⟩⟩
      rw [Nat.add_sub_cancel_left]
      by_cases h1 : x / 2 = 0
      · rw [h1] at a ⊢
        have : Lib.bitLenAux f 0 = 0 := by cases f <;> simp [Lib.bitLenAux]
        rw [this]; omega
      · obtain ⟨c, d⟩ := b h1
        have : Lib.bitLenAux f (x / 2) = Lib.bitLenAux f (x / 2) - 1 + 1 := by omega
        rw [this, Nat.pow_succ]; omega

theorem len_leaf (x E : Int) (k d : Nat) (s : Lib.bitLen x.toNat = k + Lib.bitLen (x.toNat / d)) (e : E.toNat = x.toNat / d) (h0 : 0 ≤ E) (h1 : E ≤ 255) (hk : k ≤ 56) : wrap64 (k + wrap64 (Lib.len8 E)) = (Lib.bitLen x.toNat : Int) := by
  rw [Lib.len8_of E h0 h1]
  have l := Lib.bitLen_le8' E h0 h1
  rw [e] at l ⊢
  unfold wrap64
  omega
theorem len_leaf0 (x : Int) (h0 : 0 ≤ x) (h1 : x ≤ 255) : wrap64 (wrap64 (Lib.len8 x)) = (Lib.bitLen x.toNat : Int) := by
  rw [Lib.len8_of x h0 h1]
  have l := Lib.bitLen_le8' x h0 h1
  unfold wrap64
  omega

/-- How far a number is to be shifted till its highest bit is set. -/
def lz (y : Int) : Nat := 64 - Lib.bitLen y.toNat
theorem lz_spec (y : Int) (h0 : 0 < y) (h1 : y ≤ 18446744073709551615) : lz y ≤ 63 ∧ 9223372036854775808 ≤ y * 2 ^ lz y ∧ y * 2 ^ lz y < 18446744073709551616 ∧ (Lib.bitLen y.toNat : Int) = 64 - lz y := by
  obtain ⟨a, b⟩ := bitLenAux_spec 64 y.toNat (by omega)
  obtain ⟨c, d⟩ := b (by omega)
  have k := Lib.bitLen_le y.toNat 64 (by omega) (by omega)
  have e : Lib.bitLen y.toNat = Lib.bitLenAux 64 y.toNat := rfl
  rw [← e] at a c d
  clear e b
  obtain ⟨n, rfl⟩ := Int.eq_ofNat_of_zero_le (Int.le_of_lt h0)
  simp only [Int.toNat_natCast] at a c d k
  unfold lz
  simp only [Int.toNat_natCast]
  generalize Lib.bitLen n = m at *
  have p1 : 2 ^ (m - 1) * 2 ^ (64 - m) = 2 ^ 63 := by rw [← Nat.pow_add]; congr 1; omega
  have p2 : 2 ^ m * 2 ^ (64 - m) = 2 ^ 64 := by rw [← Nat.pow_add]; congr 1; omega
  have q1 : 2 ^ 63 ≤ n * 2 ^ (64 - m) := by rw [← p1]; exact Nat.mul_le_mul_right _ d
  have q2 : n * 2 ^ (64 - m) < 2 ^ 64 := by rw [← p2]; exact Nat.mul_lt_mul_of_pos_right a (Nat.two_pow_pos _)
  refine ⟨by omega, ?_, ?_, by omega⟩
  · have : ((2 ^ 63 : Nat) : Int) ≤ ((n * 2 ^ (64 - m) : Nat) : Int) := by exact_mod_cast q1
    simpa using this
  · have : ((n * 2 ^ (64 - m) : Nat) : Int) < ((2 ^ 64 : Nat) : Int) := by exact_mod_cast q2
    simpa using this
end Go.Proofs.Ytcgpjnddklhemaa
