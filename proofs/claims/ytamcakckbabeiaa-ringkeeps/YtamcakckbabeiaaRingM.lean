/- Plain facts: items that stand in slots that go round. -/
import Derived.Test.YtamcakckbabeiaaBase
namespace Go.Proofs.Ytamcakckbabeiaa
set_option linter.unusedVariables false

theorem round_at {n f i : Nat} (hf : f < n) (hi : i ≤ n) : (f + i) % n = if f + i < n then f + i else f + i - n := by
  split
  · exact Nat.mod_eq_of_lt ‹_›
  · rw [Nat.mod_eq_sub_mod (by omega)]; exact Nat.mod_eq_of_lt (by omega)
theorem round_ne {n f i j : Nat} (hf : f < n) (hi : i < n) (hj : j < n) (hij : i ≠ j) : (f + i) % n ≠ (f + j) % n := by
  rw [round_at hf (by omega), round_at hf (by omega)]
  split <;> split <;> omega
theorem round_one {n f i : Nat} (hf : f < n) (hi : i + 1 ≤ n) : ((f + 1) % n + i) % n = (f + (i + 1)) % n := by
  rw [Nat.mod_add_mod]; congr 1; omega
end Go.Proofs.Ytamcakckbabeiaa
