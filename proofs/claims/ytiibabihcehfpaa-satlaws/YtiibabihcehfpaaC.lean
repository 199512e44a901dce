/- Products of package sat and of the document's own answers are those of whole numbers, kept at their ends. -/
import Derived.Test.YtiibabihcehfpaaB
import Derived.Laws.Bits64b
namespace Go.Proofs.Ytiibabihcehfpaa
open Go.ChangeShapes Go.WideShapes Go.ChangeAt Go.RowKit

theorem mask32 (x : Int) (h : 0 ≤ x ∧ x ≤ 18446744073709551615) : bits .and .u64 x 4294967295 = x % 4294967296 := by
  obtain ⟨a, rfl⟩ : ∃ a : Nat, x = a := ⟨x.toNat, by omega⟩
  have e := bits_and_u64_nat a 4294967295 (by omega) (by omega)
  rw [Nat.and_two_pow_sub_one_eq_mod a 32] at e
  simpa using e

theorem half_bd (a b : Int) (ha : 0 ≤ a ∧ a ≤ 4294967295) (hb : 0 ≤ b ∧ b ≤ 4294967295) : 0 ≤ a * b ∧ a * b ≤ 18446744065119617025 := by
  refine ⟨Int.mul_nonneg ha.1 hb.1, ?_⟩
  calc a * b ≤ 4294967295 * b := Int.mul_le_mul_of_nonneg_right ha.2 hb.1
    _ ≤ 4294967295 * 4294967295 := Int.mul_le_mul_of_nonneg_left hb.2 (by omega)
    _ = 18446744065119617025 := by decide

theorem school (x1 x0 y1 y0 : Int) : (4294967296 * x1 + x0) * (4294967296 * y1 + y0) = 18446744073709551616 * (x1 * y1) + 4294967296 * (x1 * y0) + 4294967296 * (x0 * y1) + x0 * y0 := by
  rw [Int.add_mul, Int.mul_add, Int.mul_add, Int.mul_assoc, Int.mul_assoc, Int.mul_left_comm x1, Int.mul_left_comm x0]
  omega

/-- The upper half, as the school method on halves of 32 bits reckons it. -/
theorem mul64_hi (x y : Int) (hx : 0 ≤ x ∧ x ≤ 18446744073709551615) (hy : 0 ≤ y ∧ y ≤ 18446744073709551615) :
    IntKind.u64.wrap (IntKind.u64.wrap (IntKind.u64.wrap (x / 4294967296 * (y / 4294967296)) + IntKind.u64.wrap (IntKind.u64.wrap (x / 4294967296 * (y % 4294967296)) + IntKind.u64.wrap (x % 4294967296 * (y % 4294967296)) / 4294967296) / 4294967296) + IntKind.u64.wrap (bits BinOp.and IntKind.u64 (IntKind.u64.wrap (IntKind.u64.wrap (x / 4294967296 * (y % 4294967296)) + IntKind.u64.wrap (x % 4294967296 * (y % 4294967296)) / 4294967296)) 4294967295 + IntKind.u64.wrap (x % 4294967296 * (y / 4294967296))) / 4294967296) = x * y / 18446744073709551616 := by
  have e := school (x / 4294967296) (x % 4294967296) (y / 4294967296) (y % 4294967296)
  rw [Int.mul_ediv_add_emod x 4294967296, Int.mul_ediv_add_emod y 4294967296] at e
  have h11 := half_bd (x / 4294967296) (y / 4294967296) (by omega) (by omega)
  have h10 := half_bd (x / 4294967296) (y % 4294967296) (by omega) (by omega)
  have h01 := half_bd (x % 4294967296) (y / 4294967296) (by omega) (by omega)
  have h00 := half_bd (x % 4294967296) (y % 4294967296) (by omega) (by omega)
  rw [e]
  clear e
  generalize x / 4294967296 * (y / 4294967296) = a at *
  generalize x / 4294967296 * (y % 4294967296) = b at *
  generalize x % 4294967296 * (y / 4294967296) = c at *
  generalize x % 4294967296 * (y % 4294967296) = d at *
  rw [mask32 _ (by rw [IntKind.wrap_u64]; omega)]
  simp only [IntKind.wrap_u64]
  omega

theorem ret_pair {k l : IntKind} {a b c d : Int} (h : a = b) (h' : c = d) : Ending.returned (.tuple #[.int k a, .int l c]) = .returned (.tuple #[.int k b, .int l d]) := by rw [h, h']

theorem mul64_any (x y : Int) (w : World) (hx : 0 ≤ x ∧ x ≤ 18446744073709551615) (hy : 0 ≤ y ∧ y ≤ 18446744073709551615) :
    Calls Try.prog 27 #[.int .u64 x, .int .u64 y] w fun e w' => e = .returned (.tuple #[.int .u64 (x * y / 18446744073709551616), .int .u64 (x * y % 18446744073709551616)]) ∧ w = w' := by
  have mx := mask32 x hx
  have my := mask32 y hy
  go_enter Try.func27, Try.ntmps27
  go_wp2
  go_ret2
  exact ⟨ret_pair (mul64_hi x y hx hy) (IntKind.wrap_u64 _), rfl⟩

/-- The size of a number. -/
def absI (a : Int) : Int := if a < 0 then -a else a
theorem absI_bd (a : Int) (h : -9223372036854775808 ≤ a ∧ a ≤ 9223372036854775807) : 0 ≤ absI a ∧ absI a ≤ 9223372036854775808 := by
  unfold absI; split <;> omega

theorem sizeOf_any (a : Int) (w : World) (_ha : -9223372036854775808 ≤ a ∧ a ≤ 9223372036854775807) :
    Calls Try.prog 28 #[.int .i64 a] w fun e w' => e = .returned (.int .u64 (absI a)) ∧ w = w' := by
  by_cases h : a < 0
  · go_enter Try.func28, Try.ntmps28
    go_wp2
    go_ret
    refine ⟨ret_int ?_, rfl⟩
    rw [absI, if_pos h]; simp only [IntKind.wrap_u64]; omega
  · go_enter Try.func28, Try.ntmps28
    go_wp2
    go_ret
    refine ⟨ret_int ?_, rfl⟩
    rw [absI, if_neg (by omega)]

theorem above_any (h l : Int) (w : World) (_hh : 0 ≤ h ∧ h ≤ 18446744073709551615) (_hl : 0 ≤ l ∧ l ≤ 18446744073709551615) :
    Calls Try.prog 30 #[.int .u64 h, .int .u64 l] w fun e w' => e = .returned (.int .i64 (sat64 (18446744073709551616 * h + l))) ∧ w = w' := by
  go_enter Try.func30, Try.ntmps30
  go_wp2
  all_goals go_ret
  all_goals exact ⟨ret_int (by unfold sat64; split <;> (try split) <;> omega), rfl⟩
theorem below_any (h l : Int) (w : World) (_hh : 0 ≤ h ∧ h ≤ 18446744073709551615) (_hl : 0 ≤ l ∧ l ≤ 18446744073709551615) :
    Calls Try.prog 29 #[.int .u64 h, .int .u64 l] w fun e w' => e = .returned (.int .i64 (sat64 (-(18446744073709551616 * h + l)))) ∧ w = w' := by
  go_enter Try.func29, Try.ntmps29
  go_wp2
  all_goals go_ret
  all_goals exact ⟨ret_int (by unfold sat64; split <;> (try split) <;> omega), rfl⟩

theorem mul_abs (a b : Int) : (decide (a < 0) = decide (b < 0) → absI a * absI b = a * b) ∧ (decide (a < 0) ≠ decide (b < 0) → absI a * absI b = -(a * b)) := by
  unfold absI
  by_cases h : a < 0 <;> by_cases h' : b < 0 <;> simp [h, h', Int.neg_mul, Int.mul_neg]

theorem differ {p q : Bool} (h : (!(p == q)) = true) : p ≠ q := by cases p <;> cases q <;> simp_all
theorem alike {p q : Bool} (h : (!(p == q)) = false) : p = q := by cases p <;> cases q <;> simp_all

/-- The two halves of 128 bits. -/
def hi64 (n : Int) : Int := n / 18446744073709551616
def lo64 (n : Int) : Int := n % 18446744073709551616
theorem halves (n : Int) : 18446744073709551616 * hi64 n + lo64 n = n := by unfold hi64 lo64; omega

theorem satMul_any (a b : Int) (w : World) (_ha : -9223372036854775808 ≤ a ∧ a ≤ 9223372036854775807) (_hb : -9223372036854775808 ≤ b ∧ b ≤ 9223372036854775807) :
    Calls Try.prog 17 #[.int .i64 a, .int .i64 b] w fun e w' => e = .returned (.int .i64 (sat64 (a * b))) ∧ w = w' := by
  obtain ⟨s, d⟩ := mul_abs a b
  have S := Lib.hid s
  have D := Lib.hid d
  have A := absI_bd a _ha
  have B := absI_bd b _hb
  have H := Lib.hid (halves (absI a * absI b))
  have p0 : 0 ≤ absI a * absI b := Int.mul_nonneg A.1 B.1
  have p1 : absI a * absI b ≤ 9223372036854775808 * 9223372036854775808 := Int.mul_le_mul A.2 B.2 B.1 (by omega)
  have hb1 : 0 ≤ hi64 (absI a * absI b) ∧ hi64 (absI a * absI b) ≤ 18446744073709551615 := by unfold hi64; omega
  have hb2 : 0 ≤ lo64 (absI a * absI b) ∧ lo64 (absI a * absI b) ≤ 18446744073709551615 := by unfold lo64; omega
  clear s d p0 p1
  go_enter Try.func17, Try.ntmps17
  go_wp2_with (first | (go_at_call 28; refine (sizeOf_any _ _ (by omega)).mono ?_; rintro e w' ⟨rfl, rfl⟩) | (go_at_call 27; refine (mul64_any _ _ _ (by omega) (by omega)).mono ?_; rintro e w' ⟨rfl, rfl⟩; rw [← hi64, ← lo64]) | (go_at_call 30; refine (above_any _ _ _ (by omega) (by omega)).mono ?_; rintro e w' ⟨rfl, rfl⟩) | (go_at_call 29; refine (below_any _ _ _ (by omega) (by omega)).mono ?_; rintro e w' ⟨rfl, rfl⟩))
  all_goals go_ret
  · exact ⟨ret_int (by rw [H.out, D.out (differ ‹_›), Int.neg_neg]), rfl⟩
  · exact ⟨ret_int (by rw [H.out, S.out (alike ‹_›)]), rfl⟩
end Go.Proofs.Ytiibabihcehfpaa
