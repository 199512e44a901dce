/- The quotients and rests of package sat and of the document's own answers are those of whole numbers, downwards. -/
import Derived.Test.YtcgpjnddklhemaaSatA
import Derived.Test.YtcgpjnddklhemaaSatM
import Derived.Deep.Draws
import Derived.Lib.Hide
namespace Go.Proofs.Ytcgpjnddklhemaa
open Go.ChangeShapes Go.WideShapes Go.ChangeAt Go.RowKit

/-- It answers that number; of the world at most some draws are gone. -/
def RetI (v : Int) (w : World) (e : Ending) (w' : World) : Prop := e = .returned (.int .i64 v) ∧ ∃ n, w' = w.drewN n

/-- The document's quotient: downwards, at its end; 0 of the divisor 0. -/
def fdv (a b : Int) : Int := if b = 0 then 0 else sat64 (a.fdiv b)
/-- What is left: of a divisor above 0; else 0. -/
def fmd (a b : Int) : Int := if b ≤ 0 then 0 else a % b

theorem fdv_zero (a : Int) : fdv a 0 = 0 := by simp [fdv]
theorem fdv_one (a : Int) (h : -9223372036854775808 ≤ a ∧ a ≤ 9223372036854775807) : fdv a 1 = a := by
  simp only [fdv, Int.fdiv_one]; rw [if_neg (by decide), sat64_mid _ h.1 h.2]
theorem fdv_neg_one (a : Int) : fdv a (-1) = sat64 (-a) := by
  unfold fdv
  rw [if_neg (by decide), fdiv_same a (-1) (by decide) (.inl (by rw [Int.tmod_neg, Int.tmod_one])), Int.tdiv_neg, Int.tdiv_one]
theorem fdv_same (a b : Int) (ha : -9223372036854775808 ≤ a ∧ a ≤ 9223372036854775807) (h2 : 2 ≤ b ∨ b ≤ -2) (h : a.tmod b = 0 ∨ (a.tmod b < 0 ∧ b < 0) ∨ (0 < a.tmod b ∧ 0 < b)) : fdv a b = a.tdiv b := by
  have := tq_bd a b ha h2
  unfold fdv
  rw [if_neg (by omega), fdiv_same a b (by omega) h, sat64_mid _ (by omega) (by omega)]
theorem fdv_less (a b : Int) (ha : -9223372036854775808 ≤ a ∧ a ≤ 9223372036854775807) (h2 : 2 ≤ b ∨ b ≤ -2) (h : (a.tmod b < 0 ∧ 0 < b) ∨ (0 < a.tmod b ∧ b < 0)) : fdv a b = a.tdiv b - 1 := by
  have := tq_bd a b ha h2
  unfold fdv
  rw [if_neg (by omega), fdiv_less a b (by omega) h, sat64_mid _ (by omega) (by omega)]
theorem fmd_low (a b : Int) (h : b ≤ 0) : fmd a b = 0 := by rw [fmd, if_pos h]
theorem fmd_plain (a b : Int) (h : 0 < b) (r : 0 ≤ a.tmod b) : fmd a b = a.tmod b := by
  have e := Int.tmod_add_mul_tdiv a b
  have hb := (tm_bd a b (by omega)).2.2.1 h
  rw [fmd, if_neg (by omega)]
  exact ((Int.ediv_emod_unique h).2 ⟨e, r, by omega⟩).2
theorem fmd_more (a b : Int) (h : 0 < b) (r : a.tmod b < 0) : fmd a b = a.tmod b + b := by
  have e := Int.tmod_add_mul_tdiv a b
  have e' : a.tmod b + b + b * (a.tdiv b - 1) = a := by rw [Int.mul_sub, Int.mul_one]; omega
  have hb := (tm_bd a b (by omega)).2.2.1 h
  rw [fmd, if_neg (by omega)]
  exact ((Int.ediv_emod_unique h).2 ⟨e', by omega, by omega⟩).2
theorem fdv_fmd (a b : Int) (ha : -9223372036854775808 ≤ a ∧ a ≤ 9223372036854775807) (h : 0 < b) : fdv a b * b = a - fmd a b ∧ 0 ≤ fmd a b ∧ fmd a b < b := by
  have hm := Int.emod_nonneg a (b := b) (by omega)
  have hl := Int.emod_lt_of_pos a h
  have e := Int.mul_ediv_add_emod a b
  have hf : a.fdiv b = a / b := Int.fdiv_eq_ediv_of_nonneg a (by omega)
  have lo : -9223372036854775808 ≤ a / b := by
    refine (Int.le_ediv_iff_mul_le h).2 ?_
    have : (-9223372036854775808 : Int) * b ≤ -9223372036854775808 * 1 := Int.mul_le_mul_of_nonpos_left (by omega) (by omega)
    omega
  have hi : a / b ≤ 9223372036854775807 := by
    refine Int.ediv_le_of_le_mul h ?_
    have : (9223372036854775807 : Int) * 1 ≤ 9223372036854775807 * b := Int.mul_le_mul_of_nonneg_left (by omega) (by omega)
    omega
  unfold fdv fmd
  rw [if_neg (by omega), if_neg (by omega), hf, sat64_mid _ lo hi]
  refine ⟨?_, hm, hl⟩
  rw [Int.mul_comm]; omega

theorem fdv_dn (a b : Int) (ha : -9223372036854775808 ≤ a ∧ a ≤ 9223372036854775807) (h2 : 2 ≤ b ∨ b ≤ -2)
    (h : (a.tmod b != 0) = true ∧ (!(decide (a.tmod b < 0) == decide (b < 0))) = true) : a.tdiv b - 1 = fdv a b := by
  refine (fdv_less a b ha h2 ?_).symm
  simp at h
  by_cases h3 : a.tmod b < 0 <;> by_cases h4 : b < 0 <;> simp_all <;> omega
theorem fdv_up (a b : Int) (ha : -9223372036854775808 ≤ a ∧ a ≤ 9223372036854775807) (h2 : 2 ≤ b ∨ b ≤ -2)
    (h : (a.tmod b != 0) = false ∨ (!(decide (a.tmod b < 0) == decide (b < 0))) = false) : a.tdiv b = fdv a b := by
  refine (fdv_same a b ha h2 ?_).symm
  simp at h
  by_cases h3 : a.tmod b < 0 <;> by_cases h4 : b < 0 <;> simp_all <;> omega

theorem wrap_back (a m : Int) (h : 0 ≤ m ∧ m ≤ 9223372036854775807) : wrap64 (a - wrap64 (a - m)) = m := by
  unfold wrap64; omega
end Go.Proofs.Ytcgpjnddklhemaa
