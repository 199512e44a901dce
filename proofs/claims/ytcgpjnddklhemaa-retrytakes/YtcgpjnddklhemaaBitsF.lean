/- The library's quotient of 128 bits by 64. -/
import Derived.Test.YtcgpjnddklhemaaBitsE
namespace Go.Proofs.Ytcgpjnddklhemaa
open Go.ChangeShapes Go.WideShapes Go.ChangeAt Go.RowKit
set_option linter.unusedVariables false

/-- What stands at the head of a correction: a guess, and so many rounds at most. -/
def GuessAt (u v y1 y0 : Int) (g : Nat) (vq vr : Value) : Prop := ∃ q r : Int, vq = .int .u64 q ∧ vr = .int .u64 r ∧ Guess u v y1 y0 q r ∧ g = q.toNat
/-- What stands behind it: the quotient. -/
def QuoAt (u v y1 y0 : Int) (vq : Value) : Prop := vq = .int .u64 ((4294967296 * u + v) / (4294967296 * y1 + y0))

theorem guess_at_next {u v y1 y0 q r : Int} (hv : 0 ≤ v ∧ v < 4294967296) (hy : 2147483648 ≤ y1 ∧ y1 < 4294967296) (h0 : 0 ≤ y0 ∧ y0 < 4294967296) (hu0 : 0 ≤ u) (hu : u < 4294967296 * y1 + y0)
    (g : Guess u v y1 y0 q r) (h : 4294967296 ≤ q ∨ 4294967296 * r + v < q * y0) (hr : r + y1 < 4294967296) : GuessAt u v y1 y0 (q - 1).toNat (.int .u64 (q - 1)) (.int .u64 (r + y1)) := by
  obtain ⟨a, b, c, d⟩ := guess_next u v y1 y0 q r hv hy h0 hu0 hu g h
  obtain ⟨_, e, _⟩ := g
  exact ⟨q - 1, r + y1, rfl, rfl, ⟨a, by omega, hr, by omega, c, d⟩, rfl⟩
theorem quo_at_break {u v y1 y0 q r : Int} (hv : 0 ≤ v ∧ v < 4294967296) (hy : 2147483648 ≤ y1 ∧ y1 < 4294967296) (h0 : 0 ≤ y0 ∧ y0 < 4294967296) (hu0 : 0 ≤ u) (hu : u < 4294967296 * y1 + y0)
    (g : Guess u v y1 y0 q r) (h : 4294967296 ≤ q ∨ 4294967296 * r + v < q * y0) (hr : 4294967296 ≤ r + y1) : QuoAt u v y1 y0 (.int .u64 (q - 1)) := by
  obtain ⟨a, b, c, d⟩ := guess_next u v y1 y0 q r hv hy h0 hu0 hu g h
  unfold QuoAt
  rw [guess_break u v y1 y0 (q - 1) (r + y1) hv.1 hy.1 h0 ⟨a, b⟩ hr c d]
theorem quo_at_last {u v y1 y0 q r : Int} (hy : 2147483648 ≤ y1) (h0 : 0 ≤ y0) (g : Guess u v y1 y0 q r) (h : q * y0 ≤ 4294967296 * r + v) : QuoAt u v y1 y0 (.int .u64 q) := by
  unfold QuoAt
  rw [guess_last u v y1 y0 q r hy h0 g h]
theorem guess_pos {q r v y0 : Int} (hr : 0 ≤ r) (hv : 0 ≤ v) (h : 4294967296 * r + v < q * y0) (hq : 0 ≤ q) : 1 ≤ q := by
  rcases Int.lt_or_le q 1 with h1 | h1
  · obtain rfl : q = 0 := by omega
    simp at h; omega
  · exact h1
end Go.Proofs.Ytcgpjnddklhemaa
