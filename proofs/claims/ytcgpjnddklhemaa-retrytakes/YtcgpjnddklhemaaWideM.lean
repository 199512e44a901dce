/- The long division by halves of 32 bits: plain facts on whole numbers. -/
import Derived.Lib.Hide
namespace Go.Proofs.Ytcgpjnddklhemaa
set_option linter.unusedVariables false

/-- What holds at the head of the correction: the guess q is not below the quotient of u * B + v by y1 * B + y0, and r is what it leaves of u by y1. -/
def Guess (u v y1 y0 q r : Int) : Prop :=
  0 ≤ q ∧ 0 ≤ r ∧ r < 4294967296 ∧ q ≤ 4294967297 ∧ q * y1 + r = u ∧ (4294967296 * u + v) / (4294967296 * y1 + y0) ≤ q

theorem quo_lt (u v y1 y0 : Int) (hv : 0 ≤ v ∧ v < 4294967296) (hy : 2147483648 ≤ y1) (h0 : 0 ≤ y0) (hu : u < 4294967296 * y1 + y0) (hu0 : 0 ≤ u) :
    (4294967296 * u + v) / (4294967296 * y1 + y0) < 4294967296 := by
  refine Int.ediv_lt_of_lt_mul (by omega) ?_
  omega

theorem guess_first (u v y1 y0 : Int) (hv : 0 ≤ v ∧ v < 4294967296) (hy : 2147483648 ≤ y1 ∧ y1 < 4294967296) (h0 : 0 ≤ y0 ∧ y0 < 4294967296) (hu0 : 0 ≤ u) (hu : u < 4294967296 * y1 + y0) :
    Guess u v y1 y0 (u / y1) (u - u / y1 * y1) := by
  have e := Int.mul_ediv_add_emod u y1
  have m0 := Int.emod_nonneg u (b := y1) (by omega)
  have m1 := Int.emod_lt_of_pos u (b := y1) (by omega)
  have q0 : 0 ≤ u / y1 := Int.ediv_nonneg hu0 (by omega)
  have c : u / y1 * y1 = y1 * (u / y1) := Int.mul_comm _ _
  refine ⟨q0, by omega, by omega, ?_, by omega, ?_⟩
  · have : u / y1 < 4294967298 := Int.ediv_lt_of_lt_mul (by omega) (by omega)
    omega
  · -- the quotient is at most u / y1
    refine Int.le_of_lt_add_one (Int.ediv_lt_of_lt_mul (by omega) ?_)
    have h1 : u < (u / y1 + 1) * y1 := by rw [Int.add_mul]; omega
    have h2 : (u / y1 + 1) * (4294967296 * y1 + y0) = 4294967296 * ((u / y1 + 1) * y1) + (u / y1 + 1) * y0 := by
      rw [Int.mul_add, Int.mul_left_comm]
    have h3 : 0 ≤ (u / y1 + 1) * y0 := Int.mul_nonneg (by omega) h0.1
    rw [h2]; omega

theorem guess_bds (u v y1 y0 q r : Int) (g : Guess u v y1 y0 q r) : 0 ≤ q ∧ 0 ≤ r ∧ r < 4294967296 ∧ q ≤ 4294967297 := ⟨g.1, g.2.1, g.2.2.1, g.2.2.2.1⟩

theorem over_iff (u v y1 y0 q r : Int) (h : q * y1 + r = u) : q * (4294967296 * y1 + y0) - (4294967296 * u + v) = q * y0 - (4294967296 * r + v) := by
  subst h
  rw [Int.mul_add, Int.mul_add, Int.mul_left_comm]
  omega

/-- The guess is too great: one less. -/
theorem guess_next (u v y1 y0 q r : Int) (hv : 0 ≤ v ∧ v < 4294967296) (hy : 2147483648 ≤ y1 ∧ y1 < 4294967296) (h0 : 0 ≤ y0 ∧ y0 < 4294967296) (hu0 : 0 ≤ u) (hu : u < 4294967296 * y1 + y0)
    (g : Guess u v y1 y0 q r) (h : 4294967296 ≤ q ∨ 4294967296 * r + v < q * y0) :
    0 ≤ q - 1 ∧ q - 1 ≤ 4294967296 ∧ (q - 1) * y1 + (r + y1) = u ∧ (4294967296 * u + v) / (4294967296 * y1 + y0) ≤ q - 1 := by
  obtain ⟨a, b, c, d, e, f⟩ := g
  have o := over_iff u v y1 y0 q r e
  have l := quo_lt u v y1 y0 hv hy.1 h0.1 hu hu0
  have s : (4294967296 * u + v) / (4294967296 * y1 + y0) < q := by
    rcases h with h | h
    · omega
    · exact Int.ediv_lt_of_lt_mul (by omega) (by omega)
  have n : 0 ≤ (4294967296 * u + v) / (4294967296 * y1 + y0) := Int.ediv_nonneg (by omega) (by omega)
  refine ⟨by omega, by omega, ?_, by omega⟩
  rw [Int.sub_mul]; omega

theorem quo_of (n d q : Int) (hd : 0 < d) (h : n / d ≤ q) (h' : q * d ≤ n) : n / d = q :=
  Int.le_antisymm h ((Int.le_ediv_iff_mul_le hd).2 h')

/-- The guess is right: it is not too great any more. -/
theorem guess_last (u v y1 y0 q r : Int) (hy : 2147483648 ≤ y1) (h0 : 0 ≤ y0) (g : Guess u v y1 y0 q r) (h : q * y0 ≤ 4294967296 * r + v) :
    (4294967296 * u + v) / (4294967296 * y1 + y0) = q := by
  obtain ⟨a, b, c, d, e, f⟩ := g
  have o := over_iff u v y1 y0 q r e
  exact quo_of _ _ _ (by omega) f (by omega)
/-- The guess is right: what is left is beyond 32 bits. -/
theorem guess_break (u v y1 y0 q r : Int) (hv : 0 ≤ v) (hy : 2147483648 ≤ y1) (h0 : 0 ≤ y0 ∧ y0 < 4294967296) (hq : 0 ≤ q ∧ q ≤ 4294967296) (hr : 4294967296 ≤ r) (e : q * y1 + r = u) (f : (4294967296 * u + v) / (4294967296 * y1 + y0) ≤ q) :
    (4294967296 * u + v) / (4294967296 * y1 + y0) = q := by
  have o := over_iff u v y1 y0 q r e
  have : q * y0 ≤ 4294967296 * y0 := Int.mul_le_mul_of_nonneg_right hq.2 h0.1
  exact quo_of _ _ _ (by omega) f (by omega)

/-- The quotient by two steps. -/
theorem two_steps (a v0 y : Int) (hy : 0 < y) (h0 : 0 ≤ v0 ∧ v0 < 4294967296) :
    (4294967296 * a + v0) / y = a / y * 4294967296 + (4294967296 * (a - a / y * y) + v0) / y ∧
    (4294967296 * a + v0) % y = 4294967296 * (a - a / y * y) + v0 - (4294967296 * (a - a / y * y) + v0) / y * y := by
  have e : 4294967296 * a + v0 = 4294967296 * (a - a / y * y) + v0 + a / y * 4294967296 * y := by
    rw [Int.mul_sub, Int.mul_right_comm, Int.mul_comm (a / y * y) 4294967296]; omega
  have h1 : (4294967296 * a + v0) / y = a / y * 4294967296 + (4294967296 * (a - a / y * y) + v0) / y := by
    rw [e, Int.add_mul_ediv_right _ _ (by omega)]; omega
  refine ⟨h1, ?_⟩
  have h2 := Int.mul_ediv_add_emod (4294967296 * a + v0) y
  rw [h1] at h2
  have h3 : y * (a / y * 4294967296 + (4294967296 * (a - a / y * y) + v0) / y) = a / y * 4294967296 * y + (4294967296 * (a - a / y * y) + v0) / y * y := by
    rw [Int.mul_add, Int.mul_comm y, Int.mul_comm y]
  omega
end Go.Proofs.Ytcgpjnddklhemaa
