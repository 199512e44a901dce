/- Counters told by 24 bits: plain facts. -/
import Derived.Test.YtfoonfmhamaclaaSerM
namespace Go.Proofs.Ytfoonfmhamaclaa
set_option linter.unusedVariables false

/-- How far what is told stands from a counter, in 24 bits. -/
def fdF (l x : Int) : Int := (x - l + 8388608) % 16777216 - 8388608
theorem dif_fdF (l x : Int) : dif x l 24 = fdF l x := by
  have h1 : hf 24 = 8388608 := by decide
  have h2 : rd 24 = 16777216 := by decide
  unfold dif fdF
  rw [h1, h2]
theorem fdF_bd (l x : Int) : -8388608 ≤ fdF l x ∧ fdF l x ≤ 8388607 := by unfold fdF; omega
/-- The same of one that is told; 0 of one that is not. -/
def toF (l x : Int) : Int := if x < 0 then 0 else fdF l x
theorem toF_bd (l x : Int) : -8388608 ≤ toF l x ∧ toF l x ≤ 8388607 := by have := fdF_bd l x; unfold toF; split <;> omega
/-- The step. -/
def stF (l x : Int) : Int := if toF l x < 0 then 0 else toF l x
theorem stF_bd (l x : Int) : 0 ≤ stF l x ∧ stF l x ≤ 8388607 := by have := toF_bd l x; unfold stF; split <;> omega
/-- A counter risen by so much, up to the greatest number. -/
def raF (n b : Int) : Int := if 9223372036854775807 - b < n then 9223372036854775807 else n + b
def foF (l x : Int) : Int := raF l (stF l x)
theorem raF_bd (n b : Int) (hn : -9223372036854775808 ≤ n ∧ n ≤ 9223372036854775807) (hb : 0 ≤ b ∧ b ≤ 8388607) : -9223372036854775808 ≤ raF n b ∧ raF n b ≤ 9223372036854775807 := by unfold raF; split <;> omega
/-- Is it not behind its counter, or not told? -/
def frF (l x : Int) : Bool := decide (0 ≤ toF l x)

/-- Behind fewer than half a round more. -/
theorem back_fo (o b : Int) (ho : -2147483648 ≤ o ∧ o ≤ 2147483647) (hb : 0 ≤ b ∧ b < 8388608) : foF o ((o + b) % 16777216) = o + b := by
  have e : fdF o ((o + b) % 16777216) = b := by unfold fdF; omega
  have t : toF o ((o + b) % 16777216) = b := by unfold toF; rw [e, if_neg (by omega)]
  unfold foF raF stF
  rw [t, if_neg (by omega), if_neg (by omega)]
theorem back_fr (o b : Int) (hb : 0 ≤ b ∧ b < 8388608) : frF o ((o + b) % 16777216) = true := by
  have e : fdF o ((o + b) % 16777216) = b := by unfold fdF; omega
  unfold frF toF
  rw [e]
  split <;> simp <;> omega
theorem back_again (o b : Int) (ho : -2147483648 ≤ o ∧ o ≤ 2147483647) (hb : 0 ≤ b ∧ b < 8388608) : foF (o + b) ((o + b) % 16777216) = o + b := by
  have e : fdF (o + b) ((o + b) % 16777216) = 0 := by unfold fdF; omega
  have t : toF (o + b) ((o + b) % 16777216) = 0 := by unfold toF; rw [e]; split <;> rfl
  unfold foF raF stF
  rw [t, if_neg (by omega), if_neg (by omega)]; omega
theorem back_was (o b : Int) (hb : 0 ≤ b ∧ b < 8388608) : toF (o + b) (o % 16777216) = -b := by
  have e : fdF (o + b) (o % 16777216) = -b := by unfold fdF; omega
  unfold toF
  rw [e, if_neg (by omega)]
theorem back_stays (o b : Int) (ho : -2147483648 ≤ o ∧ o ≤ 2147483647) (hb : 0 ≤ b ∧ b < 8388608) : foF (o + b) (o % 16777216) = o + b := by
  have t := back_was o b hb
  unfold foF raF stF
  rw [t]
  split <;> split <;> omega
theorem back_old (o b : Int) (hb : 0 ≤ b ∧ b < 8388608) : frF (o + b) (o % 16777216) = decide (b = 0) := by
  unfold frF
  rw [back_was o b hb]
  by_cases h : b = 0
  · subst h; rfl
  · rw [decide_eq_false (by omega), decide_eq_false h]
/-- A counter kept so that it does not leave its type. -/
def neF (x : Int) : Int := if 1152921504606846976 < (if x < -1152921504606846976 then -1152921504606846976 else x) then 1152921504606846976 else (if x < -1152921504606846976 then -1152921504606846976 else x)
theorem neF_bd (x : Int) : -1152921504606846976 ≤ neF x ∧ neF x ≤ 1152921504606846976 := by unfold neF; split <;> split <;> omega
theorem foF_ne (x t : Int) : foF (neF x) t = neF x + stF (neF x) t := by
  have h := neF_bd x
  have k := stF_bd (neF x) t
  unfold foF raF
  rw [if_neg (by omega)]
end Go.Proofs.Ytfoonfmhamaclaa
