/- The library's products of 128 bits and sums with a carry, over whole numbers. -/
import Derived.Test.YtcgpjnddklhemaaBase
import Derived.Laws.Bits64b
import Derived.Laws.Externs
namespace Go.Proofs.Ytcgpjnddklhemaa
open Go.ChangeShapes Go.WideShapes Go.ChangeAt Go.RowKit

theorem mask32 (x : Int) (h : 0 ≤ x ∧ x ≤ 18446744073709551615) : bits .and .u64 x 4294967295 = x % 4294967296 := by
  obtain ⟨a, rfl⟩ : ∃ a : Nat, x = a := ⟨x.toNat, by omega⟩
  have e := bits_and_u64_nat a 4294967295 (by omega) (by omega)
  rw [Nat.and_two_pow_sub_one_eq_mod a 32] at e
  simpa using e

theorem half_bd (a b : Int) (ha : 0 ≤ a ∧ a ≤ 4294967295) (hb : 0 ≤ b ∧ b ≤ 4294967295) : 0 ≤ a * b ∧ a * b ≤ 18446744065119617025 := by
  refine ⟨Int.mul_nonneg ha.1 hb.1, ?_⟩
  calc a * b ≤ 4294967295 * b := Int.mul_le_mul_of_nonneg_right ha.2 hb.1
    _ ≤ 4294967295 * 4294967295 := Int.mul_le_mul_of_nonneg_left hb.2 (by omega)
    _ = 18446744065119617025 := by decide

theorem school (x1 x0 y1 y0 : Int) : (4294967296 * x1 + x0) * (4294967296 * y1 + y0) = 18446744073709551616 * (x1 * y1) + 4294967296 * (x1 * y0) + 4294967296 * (x0 * y1) + x0 * y0 := by
  rw [Int.add_mul, Int.mul_add, Int.mul_add, Int.mul_assoc, Int.mul_assoc, Int.mul_left_comm x1, Int.mul_left_comm x0]
  omega

/-- The upper half, as the school method on halves of 32 bits reckons it. -/
theorem mul64_hi (x y : Int) (hx : 0 ≤ x ∧ x ≤ 18446744073709551615) (hy : 0 ≤ y ∧ y ≤ 18446744073709551615) :
    IntKind.u64.wrap (IntKind.u64.wrap (IntKind.u64.wrap (x / 4294967296 * (y / 4294967296)) + IntKind.u64.wrap (IntKind.u64.wrap (x / 4294967296 * (y % 4294967296)) + IntKind.u64.wrap (x % 4294967296 * (y % 4294967296)) / 4294967296) / 4294967296) + IntKind.u64.wrap (bits BinOp.and IntKind.u64 (IntKind.u64.wrap (IntKind.u64.wrap (x / 4294967296 * (y % 4294967296)) + IntKind.u64.wrap (x % 4294967296 * (y % 4294967296)) / 4294967296)) 4294967295 + IntKind.u64.wrap (x % 4294967296 * (y / 4294967296))) / 4294967296) = x * y / 18446744073709551616 := by
  have e := school (x / 4294967296) (x % 4294967296) (y / 4294967296) (y % 4294967296)
  rw [Int.mul_ediv_add_emod x 4294967296, Int.mul_ediv_add_emod y 4294967296] at e
  have h11 := half_bd (x / 4294967296) (y / 4294967296) (by omega) (by omega)
  have h10 := half_bd (x / 4294967296) (y % 4294967296) (by omega) (by omega)
  have h01 := half_bd (x % 4294967296) (y / 4294967296) (by omega) (by omega)
  have h00 := half_bd (x % 4294967296) (y % 4294967296) (by omega) (by omega)
  rw [e]
  clear e
  generalize x / 4294967296 * (y / 4294967296) = a at *
  generalize x / 4294967296 * (y % 4294967296) = b at *
  generalize x % 4294967296 * (y / 4294967296) = c at *
  generalize x % 4294967296 * (y % 4294967296) = d at *
  rw [mask32 _ (by rw [IntKind.wrap_u64]; omega)]
  simp only [IntKind.wrap_u64]
  omega

/-- The two halves of 128 bits. -/
def hi64 (n : Int) : Int := n / 18446744073709551616
def lo64 (n : Int) : Int := n % 18446744073709551616
theorem halves (n : Int) : 18446744073709551616 * hi64 n + lo64 n = n := by unfold hi64 lo64; omega
end Go.Proofs.Ytcgpjnddklhemaa
