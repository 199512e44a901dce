/- Plain facts of layer 16: what three bits tell from a number on, and what they tell of so many bytes. -/
import Derived.Test.YtfoonfmhamaclaaSatB
namespace Go.Proofs.Ytfoonfmhamaclaa
set_option linter.unusedVariables false

/-- The number from 0 to 7 that, added to l, is c, modulo 8. -/
def stpA (l c : Int) : Int := (c - l) % 8
/-- b by m, upwards. -/
def upA (b m : Int) : Int := -(-b / m)
/-- The bytes that count. -/
def capA (b : Int) : Int := if 1099511627776 < b then 1099511627776 else b
/-- The least number from p on that is s modulo 8. -/
def fromA (p s : Int) : Int := p + (s - p) % 8
/-- What bits and bytes tell. -/
def gueA (l c b m : Int) : Int := if b ≤ 0 ∨ m ≤ 0 then stpA l c else fromA (upA (capA b) m) (stpA l c)

theorem stpA_bd (l c : Int) : 0 ≤ stpA l c ∧ stpA l c ≤ 7 := by unfold stpA; omega
theorem capA_bd (b : Int) (h : 0 < b) : 0 < capA b ∧ capA b ≤ 1099511627776 := by unfold capA; split <;> omega
theorem fdv_edA (a b : Int) (ha : -9223372036854775808 ≤ a ∧ a ≤ 9223372036854775807) (h : 0 < b) : fdv a b = a / b := by
  obtain ⟨e, h1, h2⟩ := fdv_fmd a b ha h
  exact ((Int.ediv_emod_unique h).2 ⟨by rw [Int.mul_comm]; omega, h1, h2⟩).1.symm
/-- b by m, upwards, is the only number whose products stand about b so. -/
theorem upA_is {b m n : Int} (h : 0 < m) (h1 : b ≤ n * m) (h2 : n * m < b + m) : upA b m = n := by
  have : -b / m = -n := ((Int.ediv_emod_unique (r := n * m - b) h).2 ⟨by rw [Int.mul_neg, Int.mul_comm m n]; omega, by omega, by omega⟩).1
  unfold upA; omega
theorem upA_bd {b m : Int} (hb : 0 < b) (h : 0 < m) : 1 ≤ upA b m ∧ upA b m ≤ b := by
  unfold upA
  have e1 : -b / m ≤ -1 := by
    have : -b / m < 0 := Int.ediv_neg_of_neg_of_pos (by omega) h
    omega
  have e2 : -b ≤ -b / m := by
    refine (Int.le_ediv_iff_mul_le h).2 ?_
    have : b * 1 ≤ b * m := Int.mul_le_mul_of_nonneg_left (by omega) (by omega)
    rw [Int.neg_mul]; omega
  omega
theorem td_bd {b m : Int} (hb : 0 < b) (h : 0 < m) : 0 ≤ b.tdiv m ∧ b.tdiv m ≤ b ∧ b.tdiv m * m ≤ b ∧ 0 ≤ b.tdiv m * m ∧ b < b.tdiv m * m + m := by
  rw [Int.tdiv_eq_ediv_of_nonneg (by omega)]
  have e := Int.mul_ediv_add_emod b m
  have e1 := Int.emod_nonneg b (show m ≠ 0 by omega)
  have e2 := Int.emod_lt_of_pos b h
  have e3 : 0 ≤ b / m := Int.ediv_nonneg (by omega) (by omega)
  have e4 : b / m * 1 ≤ b / m * m := Int.mul_le_mul_of_nonneg_left (by omega) e3
  rw [Int.mul_comm] at e
  omega
theorem upA_less {b m : Int} (hb : 0 < b) (h : 0 < m) (k : b.tdiv m * m < b) : upA b m = b.tdiv m + 1 := by
  obtain ⟨h1, h2, h3, h4, h5⟩ := td_bd hb h
  exact upA_is h (by rw [Int.add_mul]; omega) (by rw [Int.add_mul]; omega)
theorem upA_same {b m : Int} (hb : 0 < b) (h : 0 < m) (k : ¬ b.tdiv m * m < b) : upA b m = b.tdiv m := by
  obtain ⟨h1, h2, h3, h4, h5⟩ := td_bd hb h
  exact upA_is h (by omega) (by omega)
theorem upA_full {n m : Int} (h : 0 < m) : upA (n * m) m = n := upA_is h (by omega) (by omega)
theorem fromA_bd (p s : Int) : p ≤ fromA p s ∧ fromA p s ≤ p + 7 := by unfold fromA; omega
/-- It is itself what it is modulo 8, where nothing is missing. -/
theorem fromA_same {p s : Int} (h : s = p % 8) : fromA p s = p := by unfold fromA; omega
theorem fromA_mod (p s : Int) (h : 0 ≤ s ∧ s ≤ 7) : fromA p s % 8 = s := by unfold fromA; omega
theorem fromA_only {p s n : Int} (h : 0 ≤ s ∧ s ≤ 7) (h1 : p ≤ n) (h2 : n ≤ fromA p s) (h3 : n % 8 = s) : n = fromA p s := by unfold fromA at *; omega
theorem tmA (l : Int) : -7 ≤ l.tmod 8 ∧ l.tmod 8 ≤ 7 ∧ (l.tmod 8 < 0 → l.tmod 8 + 8 = l % 8) ∧ (0 ≤ l.tmod 8 → l.tmod 8 = l % 8) := by
  by_cases h : 0 ≤ l
  · have e := Int.tmod_eq_emod_of_nonneg (b := 8) h
    omega
  · have e := Int.tmod_eq_emod_of_nonneg (a := -l) (b := 8) (by omega)
    rw [Int.neg_tmod] at e
    omega
theorem tmA_pos {l : Int} (h : 0 ≤ l) : l.tmod 8 = l % 8 := Int.tmod_eq_emod_of_nonneg h
theorem step_few {l n : Int} (h : 0 ≤ n ∧ n ≤ 7) : stpA l ((l + n) % 8) = n := by unfold stpA; omega
theorem guess_none (l m : Int) : gueA l (l % 8) 0 m = 0 := by unfold gueA stpA; rw [if_pos (.inl (by omega))]; omega
theorem guess_full {l n m : Int} (h : 0 < m) (h0 : 0 < n * m) (h1 : n * m ≤ 1099511627776) : gueA l ((l + n) % 8) (n * m) m = n := by
  have e1 : capA (n * m) = n * m := by unfold capA; rw [if_neg (by omega)]
  unfold gueA
  rw [if_neg (by omega), e1, upA_full h]
  exact fromA_same (by unfold stpA; omega)
end Go.Proofs.Ytfoonfmhamaclaa
