/- Roots of wide numbers, in package wide. -/
import Derived.Test.YtmmccaaocfbdlaaWideC
import Derived.Test.YtmmccaaocfbdlaaBitL
import Derived.Deep.RegionHeld3
import Derived.Deep.DeepCutAuto
import Derived.Deep.LoopGhost
import Derived.Deep.Light
namespace Go.Proofs.Ytmmccaaocfbdlaa
open Go.ChangeShapes Go.WideShapes Go.ChangeAt Go.RowKit
set_option linter.unusedVariables false

/-- The bit that is tried when so many are left. -/
def halfP (k : Nat) : Int := if k = 0 then 0 else P2 (k - 1)
theorem halfP_half (j : Nat) : P2 j / 2 = halfP j := by
  unfold halfP
  cases j with
  | zero => decide
  | succ j => rw [if_neg (by omega), P2_succ, Nat.add_sub_cancel, Int.mul_ediv_cancel_left _ (by decide)]

def RootInv (N : Int) (g1 : Nat) (h l : Int) (w : World) (gk : Nat) (vr vb : Value) (wr : World) : Prop :=
  ∃ (k m : Nat) (R : Int), k ≤ 64 ∧ gk = k ∧ vr = .int .u64 R ∧ vb = .int .u64 (halfP k) ∧ R = m * P2 k ∧ R + P2 k ≤ 18446744073709551616 ∧ R * R ≤ N ∧ N < (R + P2 k) * (R + P2 k) ∧ At wr g1 [.int .u64 h, .int .u64 l] ∧ Below w.heap.size w wr

theorem or_bit (m j : Nat) (R : Int) (hR : R = m * P2 (j + 1)) (hb : R + P2 (j + 1) ≤ 18446744073709551616) : bits .or .u64 R (P2 j) = R + P2 j := by
  have p : P2 (j + 1) = ((2 ^ (j + 1) : Nat) : Int) := by unfold P2; push_cast; rfl
  have q : P2 j = ((2 ^ j : Nat) : Int) := by unfold P2; push_cast; rfl
  have e : R = ((m * 2 ^ (j + 1) : Nat) : Int) := by rw [hR, p]; push_cast; rfl
  have lt : 2 ^ j < 2 ^ (j + 1) := Nat.pow_lt_pow_right (by decide) (by omega)
  rw [p, e] at hb
  rw [e, q, bits_or_u64_nat _ _ (by omega) (by omega), or_low m (2 ^ j) (j + 1) lt]
  omega

theorem root_yes {N R : Int} {m j : Nat} (hR : R = m * P2 (j + 1)) (hs : R + P2 (j + 1) ≤ 18446744073709551616) (hu : N < (R + P2 (j + 1)) * (R + P2 (j + 1))) :
    R + P2 j = ((2 * m + 1 : Nat) : Int) * P2 j ∧ R + P2 j + P2 j ≤ 18446744073709551616 ∧ N < (R + P2 j + P2 j) * (R + P2 j + P2 j) := by
  rw [P2_succ] at *
  have e : R + P2 j + P2 j = R + 2 * P2 j := by omega
  refine ⟨?_, by omega, by rw [e]; exact hu⟩
  rw [hR]; push_cast; rw [Int.add_mul, Int.one_mul, Int.mul_assoc, Int.mul_left_comm]
theorem root_no {R : Int} {m j : Nat} (hR : R = m * P2 (j + 1)) (hs : R + P2 (j + 1) ≤ 18446744073709551616) : R = ((2 * m : Nat) : Int) * P2 j ∧ R + P2 j ≤ 18446744073709551616 := by
  have := P2_pos j
  rw [P2_succ] at *
  refine ⟨?_, by omega⟩
  rw [hR]; push_cast; rw [Int.mul_assoc, Int.mul_left_comm]

theorem cmp_le0 (m n : Int) : (cmpI m n ≤ 0) ↔ m ≤ n := by unfold cmpI; split <;> (try split) <;> omega

/-- A root: its square is not above the number, that of one more is. -/
def GivesRoot (N : Int) (w : World) (e : Ending) (w' : World) : Prop := ∃ n : Int, (0 ≤ n ∧ n ≤ 18446744073709551615) ∧ n * n ≤ N ∧ N < (n + 1) * (n + 1) ∧ e = .returned (.int .u64 n) ∧ Below w.heap.size w w'
end Go.Proofs.Ytmmccaaocfbdlaa
