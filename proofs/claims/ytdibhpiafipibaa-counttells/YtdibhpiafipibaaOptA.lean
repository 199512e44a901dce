/- Package option: what a kind is; the number of bytes; how many bytes an option has. The document's Size, May, num. -/
import Derived.Test.YtdibhpiafipibaaOptM
import Derived.OwnWalk
namespace Go.Proofs.Ytdibhpiafipibaa
open Go.RowKit
set_option linter.unusedVariables false

/-- The shape of a kind. -/
def ShapeOf (k : Int) (w : World) (e : Ending) (w' : World) : Prop :=
  e = .returned (.tuple #[.agg #[.int .i64 (szO k : Int), .int .i64 (leO k : Int), .int .i64 (moO k : Int)], .bool (knO k)]) ∧ Below w.heap.size w w'
theorem may_two (n : Nat) : mayO 2 n = decide ((n : Int) = 1) := by
  have : (1 ≤ n ∧ n ≤ 1) ↔ (n : Int) = 1 := by omega
  simp [mayO, leO, moO, ← Bool.decide_and, this]
theorem may_eight (n : Nat) : mayO 8 n = decide ((n : Int) = 2) := by
  have : (2 ≤ n ∧ n ≤ 2) ↔ (n : Int) = 2 := by omega
  simp [mayO, leO, moO, ← Bool.decide_and, this]
theorem may_acc {k : Int} (h : k = 172 ∨ k = 174) (n : Nat) : mayO k n = decide ((n : Int) ≤ 3) := by
  have e : (n ≤ 3) ↔ ((n : Int) ≤ 3) := by omega
  rcases h with rfl | rfl <;> simp [mayO, leO, moO, e]

/-- The number of at most four bytes. -/
def NumO (w : World) (xs : List Int) (L gh : Nat) (vn vi : Value) (wr : World) : Prop := ∃ k : Nat, vi = .int .i64 (k : Int) ∧ L - k = gh ∧ k ≤ L ∧ vn = .int .u32 (numF (xs.take k)) ∧ w = wr
theorem or8O {y x : Int} (hy : 0 ≤ y ∧ y ≤ 16777215) (hx : 0 ≤ x ∧ x ≤ 255) : bits .or .u32 (y * 256) x = y * 256 + x := bits_join .u32 32 (by decide) wrapsF_u32 8 (y * 256) x (by omega) (by omega) (by omega) hx.1 (by omega) (by omega)

/-- How many bytes the option has with which bytes begin. -/
def ExtO (bs : List Int) : Int × Int :=
  if bs.length < 2 then (0, 3) else if bF bs 1 < 2 then (0, 5) else if (bs.length : Int) < bF bs 1 then (0, 3) else (bF bs 1, 0)
end Go.Proofs.Ytdibhpiafipibaa
