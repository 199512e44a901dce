/- Plain facts on whole numbers: quotients and rests towards nought and downwards. -/
namespace Go.Proofs.Ytcgpjnddklhemaa
theorem tq_bd (a b : Int) (ha : -9223372036854775808 ≤ a ∧ a ≤ 9223372036854775807) (hb : 2 ≤ b ∨ b ≤ -2) : -4611686018427387904 ≤ a.tdiv b ∧ a.tdiv b ≤ 4611686018427387904 := by
  have h : (a.tdiv b).natAbs = a.natAbs / b.natAbs := Int.natAbs_tdiv a b
  have h2 : a.natAbs / b.natAbs ≤ a.natAbs / 2 := Nat.div_le_div_left (by omega) (by decide)
  rw [← h] at h2
  omega
theorem tm_bd (a b : Int) (hb : b ≠ 0) : (0 ≤ a → 0 ≤ a.tmod b) ∧ (a ≤ 0 → a.tmod b ≤ 0) ∧ (0 < b → -b < a.tmod b ∧ a.tmod b < b) ∧ (b < 0 → b < a.tmod b ∧ a.tmod b < -b) := by
  have h := Int.natAbs_tmod a b
  have h2 : a.natAbs % b.natAbs < b.natAbs := Nat.mod_lt _ (by omega)
  rw [← h] at h2
  refine ⟨fun h => Int.tmod_nonneg _ h, fun h => ?_, fun h => by omega, fun h => by omega⟩
  have := Int.tmod_nonneg (a := -a) b (by omega)
  rw [Int.neg_tmod] at this
  omega
/-- Go's quotient is the one downwards, where nothing is left, or the rest has the divisor's sign. -/
theorem fdiv_same (a b : Int) (hb : b ≠ 0) (h : a.tmod b = 0 ∨ (a.tmod b < 0 ∧ b < 0) ∨ (0 < a.tmod b ∧ 0 < b)) : a.fdiv b = a.tdiv b := by
  have e := Int.tmod_add_mul_tdiv a b
  obtain ⟨_, _, hp, hn⟩ := tm_bd a b hb
  by_cases h0 : 0 < b
  · exact ((Int.fdiv_fmod_unique h0).2 ⟨e, by omega, by have := hp h0; omega⟩).1
  · have h1 : b < 0 := by omega
    exact ((Int.fdiv_fmod_unique' h1).2 ⟨e, by have := hn h1; omega, by omega⟩).1
/-- Else it is one above it. -/
theorem fdiv_less (a b : Int) (hb : b ≠ 0) (h : (a.tmod b < 0 ∧ 0 < b) ∨ (0 < a.tmod b ∧ b < 0)) : a.fdiv b = a.tdiv b - 1 := by
  have e := Int.tmod_add_mul_tdiv a b
  have e' : a.tmod b + b + b * (a.tdiv b - 1) = a := by rw [Int.mul_sub, Int.mul_one]; omega
  obtain ⟨_, _, hp, hn⟩ := tm_bd a b hb
  by_cases h0 : 0 < b
  · exact ((Int.fdiv_fmod_unique h0).2 ⟨e', by have := hp h0; omega, by omega⟩).1
  · have h1 : b < 0 := by omega
    exact ((Int.fdiv_fmod_unique' h1).2 ⟨e', by omega, by have := hn h1; omega⟩).1
theorem tdiv_mul (a b : Int) : a.tdiv b * b = a - a.tmod b := by have := Int.tdiv_mul_add_tmod a b; omega
end Go.Proofs.Ytcgpjnddklhemaa
