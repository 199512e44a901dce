/- Numbers that go round: plain facts on whole numbers modulo 2^bits. -/
import Derived.Lib.Hide
namespace Go.Proofs.Ytfoonfmhamaclaa
set_option linter.unusedVariables false

/-- The number of bits that counts: from 1 to 62. -/
def wid (b : Int) : Nat := if b < 1 then 1 else if 62 < b then 62 else b.toNat
/-- A round, and half a round. -/
def rd (b : Int) : Int := 2 ^ wid b
def hf (b : Int) : Int := 2 ^ (wid b - 1)
theorem wid_bd (b : Int) : 1 ≤ wid b ∧ wid b ≤ 62 := by unfold wid; split <;> (try split) <;> omega
theorem rd_hf (b : Int) : rd b = 2 * hf b := by
  have h := wid_bd b
  unfold rd hf
  obtain ⟨k, hk⟩ : ∃ k, wid b = k + 1 := ⟨wid b - 1, by omega⟩
  rw [hk, Nat.add_sub_cancel, Int.pow_succ, Int.mul_comm]
theorem pow_le (a b : Nat) (h : a ≤ b) : (2 : Int) ^ a ≤ 2 ^ b := by
  have : (2 : Nat) ^ a ≤ 2 ^ b := Nat.pow_le_pow_right (by decide) h
  exact_mod_cast this
theorem hf_bd (b : Int) : 1 ≤ hf b ∧ hf b ≤ 2305843009213693952 := by
  have h := wid_bd b
  unfold hf
  exact ⟨pow_le 0 _ (by omega), pow_le _ 61 (by omega)⟩
theorem rd_bd (b : Int) : 2 ≤ rd b ∧ rd b ≤ 4611686018427387904 := by
  have := rd_hf b
  have := hf_bd b
  omega
theorem rd_dvd (b : Int) : rd b ∣ 18446744073709551616 := by
  have h := wid_bd b
  refine ⟨2 ^ (64 - wid b), ?_⟩
  unfold rd
  rw [← Int.pow_add, show wid b + (64 - wid b) = 64 by omega]
  rfl
/-- That numbers go round at 2^64 changes nothing of what is left. -/
theorem mod_mod (x b : Int) : x % 18446744073709551616 % rd b = x % rd b := Int.emod_emod_of_dvd x (rd_dvd b)
theorem rd_mod (x b : Int) : 0 ≤ x % rd b ∧ x % rd b < rd b := by
  have := rd_bd b
  exact ⟨Int.emod_nonneg _ (by omega), Int.emod_lt_of_pos _ (by omega)⟩
/-- How far a stands from b: from half a round behind on. -/
def dif (a b n : Int) : Int := (a - b + hf n) % rd n - hf n
theorem dif_bd (a b n : Int) : -hf n ≤ dif a b n ∧ dif a b n < hf n := by
  have := rd_mod (a - b + hf n) n
  have := rd_hf n
  unfold dif
  omega
/-- It is the only number there that is as much modulo a round. -/
theorem dif_only (a b n d k : Int) (h : -hf n ≤ d ∧ d < hf n) (e : a - b = d + rd n * k) : dif a b n = d := by
  have r := rd_hf n
  unfold dif
  rw [e, show d + rd n * k + hf n = (d + hf n) + rd n * k by omega, Int.add_mul_emod_self_left, Int.emod_eq_of_lt (by omega) (by omega)]
  omega
theorem quo (a n : Int) : a = a % rd n + rd n * (a / rd n) := (Int.emod_add_mul_ediv a (rd n)).symm
/-- The lowest bits alone count. -/
theorem dif_mod (a b n : Int) : dif (a % rd n) (b % rd n) n = dif a b n := by
  unfold dif
  rw [← Int.emod_add_emod, Int.sub_emod, Int.emod_emod, Int.emod_emod, ← Int.sub_emod, Int.emod_add_emod]
theorem dif_64 (a b n : Int) : dif (a % 18446744073709551616) (b % 18446744073709551616) n = dif a b n := by
  rw [← dif_mod, mod_mod, mod_mod, dif_mod]
theorem dif_64l (a b n : Int) : dif (a % 18446744073709551616) b n = dif a b n := by
  rw [← dif_mod, mod_mod, dif_mod]
theorem dif_64r (a b n : Int) : dif a (b % 18446744073709551616) n = dif a b n := by
  rw [← dif_mod, mod_mod, dif_mod]
/-- What the code reckons: in uint64, all of it going round. -/
theorem dif_code (a b n : Int) : ((a - b) % 18446744073709551616 + hf n) % 18446744073709551616 % rd n - hf n = dif a b n := by
  unfold dif
  rw [mod_mod, ← Int.emod_add_emod, mod_mod, Int.emod_add_emod]
theorem add_code (a b n : Int) : (a % rd n + b % rd n) % rd n = (a + b) % rd n := (Int.add_emod a b (rd n)).symm
theorem add_mod (a b n : Int) : (a + b) % 18446744073709551616 % rd n = (a + b) % rd n := mod_mod _ _
/-- The document's difference: of what is left of both, a round more or less. -/
def dif3 (a b n : Int) : Int :=
  if a % rd n - b % rd n < -hf n then a % rd n - b % rd n + rd n else if hf n ≤ a % rd n - b % rd n then a % rd n - b % rd n - rd n else a % rd n - b % rd n
theorem dif3_is (a b n : Int) : dif3 a b n = dif a b n := by
  have r := rd_hf n
  have ha := rd_mod a n
  have hb := rd_mod b n
  have qa := quo a n
  have qb := quo b n
  unfold dif3
  split
  · refine (dif_only a b n _ (a / rd n - b / rd n - 1) (by omega) ?_).symm
    rw [Int.mul_sub, Int.mul_sub, Int.mul_one]; omega
  · split
    · refine (dif_only a b n _ (a / rd n - b / rd n + 1) (by omega) ?_).symm
      rw [Int.mul_add, Int.mul_sub, Int.mul_one]; omega
    · refine (dif_only a b n _ (a / rd n - b / rd n) (by omega) ?_).symm
      rw [Int.mul_sub]; omega
/-- A last, kept at its ends. -/
def near (l : Int) : Int := if l < -4611686018427387904 then -4611686018427387904 else if 4611686018427387904 < l then 4611686018427387904 else l
theorem near_bd (l : Int) : -4611686018427387904 ≤ near l ∧ near l ≤ 4611686018427387904 := by unfold near; split <;> (try split) <;> omega
/-- How far up x is from the last: from 0 to below a round. -/
def upw (l x n : Int) : Int := (x - l) % rd n
/-- The document's nearest one. -/
theorem unwrap_is (l x n : Int) : dif x l n = if upw l x n = 0 then 0 else if rd n - upw l x n ≤ upw l x n then upw l x n - rd n else upw l x n := by
  have r := rd_hf n
  have h := hf_bd n
  have hm := rd_mod (x - l) n
  have q := quo (x - l) n
  unfold upw
  split
  · exact dif_only x l n _ ((x - l) / rd n) (by omega) (by omega)
  · split
    · refine dif_only x l n _ ((x - l) / rd n + 1) (by omega) ?_
      rw [Int.mul_add, Int.mul_one]; omega
    · exact dif_only x l n _ ((x - l) / rd n) (by omega) (by omega)
/-- By what is left of both: a round more where it is below nought. -/
theorem up_of (l x n : Int) : (x % rd n - l % rd n < 0 → upw l x n = x % rd n - l % rd n + rd n) ∧ (0 ≤ x % rd n - l % rd n → upw l x n = x % rd n - l % rd n) := by
  have ha := rd_mod x n
  have hb := rd_mod l n
  have e : upw l x n = (x % rd n - l % rd n) % rd n := by unfold upw; exact Int.sub_emod x l (rd n)
  rw [e]
  refine ⟨fun h => ?_, fun h => Int.emod_eq_of_lt h (by omega)⟩
  rw [← Int.add_emod_right, Int.emod_eq_of_lt (by omega) (by omega)]
/-- Go's rest, a round more where it is below nought. -/
theorem left_of (l n : Int) : (l.tmod (rd n) < 0 → l.tmod (rd n) + rd n = l % rd n) ∧ (0 ≤ l.tmod (rd n) → l.tmod (rd n) = l % rd n) := by
  have hr := rd_bd n
  have e := Int.tmod_add_mul_tdiv l (rd n)
  have ha := Int.natAbs_tmod l (rd n)
  have h2 : l.natAbs % (rd n).natAbs < (rd n).natAbs := Nat.mod_lt _ (by omega)
  rw [← ha] at h2
  refine ⟨fun h => ?_, fun h => ?_⟩
  · refine ((Int.ediv_emod_unique (by omega) (q := l.tdiv (rd n) - 1)).2 ⟨?_, by omega, by omega⟩).2.symm
    rw [Int.mul_sub, Int.mul_one]; omega
  · exact ((Int.ediv_emod_unique (by omega) (q := l.tdiv (rd n))).2 ⟨e, by omega, by omega⟩).2.symm
theorem tm_rd (l n : Int) : -rd n < l.tmod (rd n) ∧ l.tmod (rd n) < rd n := by
  have hr := rd_bd n
  have ha := Int.natAbs_tmod l (rd n)
  have h2 : l.natAbs % (rd n).natAbs < (rd n).natAbs := Nat.mod_lt _ (by omega)
  rw [← ha] at h2
  omega
end Go.Proofs.Ytfoonfmhamaclaa
