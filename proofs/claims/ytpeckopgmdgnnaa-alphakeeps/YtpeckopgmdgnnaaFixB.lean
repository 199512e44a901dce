/- Package fixed: steps, halves and roots are those of whole numbers, downwards. -/
import Derived.Test.YtpeckopgmdgnnaaFixA
namespace Go.Proofs.Ytpeckopgmdgnnaa
open Go.ChangeShapes Go.WideShapes Go.ChangeAt Go.RowKit
set_option linter.unusedVariables false

theorem toward_any (x y n : Int) (w : World) (hx : -9223372036854775808 ≤ x ∧ x ≤ 9223372036854775807) (hy : -9223372036854775808 ≤ y ∧ y ≤ 9223372036854775807) (hn : -9223372036854775808 ≤ n ∧ n ≤ 9223372036854775807) :
    Calls Try.prog 15 #[.int .i64 x, .int .i64 y, .int .i64 n] w fun e w' => e = .returned (.int .i64 (twd x y n)) ∧ Below w.heap.size w w' := by
  have D := Lib.hid (show twd x y n = sat64 (x + fdv (sat64 (y - x)) (P2 (shf n))) from rfl)
  have p := P2_bd62 (shf n) (shf_bd n)
  have P : wrap64 (2 ^ (min (max n 0) 62).toNat) = P2 (shf n) := by
    have e : (min (max n 0) 62).toNat = shf n := by unfold shf; split <;> (try split) <;> omega
    rw [e, ← P2]; unfold wrap64; omega
  have b1 := sat64_bd (y - x)
  have b2 := fdv_bd (sat64 (y - x)) (P2 (shf n))
  have L := new_refl w
  go_enter Try.func15, Try.ntmps15
  go_wp2_with (first
    | (go_at_call 23; refine (satSub_any _ _ _ (by omega) (by omega)).mono ?_; rintro e w' ⟨rfl, rfl⟩)
    | (go_at_call 22; refine (div_pos _ _ _ (by omega) (by omega)).mono ?_; rintro e w1 ⟨rfl, B⟩; replace L := new_then L B)
    | (go_at_call 21; refine (satAdd_any _ _ _ (by omega) (by omega)).mono ?_; rintro e w' ⟨rfl, rfl⟩))
  go_ret
  exact ⟨ret_int D.out.symm, L⟩

def HalveInv (x : Int) (m : Nat) (w : World) (gk : Nat) (vx vi : Value) (wr : World) : Prop :=
  ∃ k : Nat, k ≤ m ∧ gk = m - k ∧ vi = .int .i64 k ∧ vx = .int .i64 (hlv x k) ∧ Below w.heap.size w wr
end Go.Proofs.Ytpeckopgmdgnnaa
