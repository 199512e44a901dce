/- Package ecn and the document's own answers of layer 9: what a number is as a code, a byte's code, marking, and what a code may become. -/
import Derived.Test.YtelodojaicdebaaDoorBase
import Derived.OwnWalk
namespace Go.Proofs.YtelodojaicdebaaDoor
open Go.ChangeShapes Go.WideShapes Go.ChangeAt Go.RowKit

/-- Is a number a code? -/
def isC (c : Int) : Bool := decide (0 ≤ c ∧ c ≤ 3)
/-- Can it be marked, or is it? -/
def ableC (c : Int) : Bool := decide (1 ≤ c ∧ c ≤ 3)
/-- Does it go into the low queue? -/
def lowC (c : Int) : Bool := decide (c = 1 ∨ c = 3)
/-- What a code is, marked. -/
def markC (c : Int) : Int := if ableC c then 3 else c
/-- May a code become another one? -/
def legalC (a b : Int) : Bool := if a = b then isC a else decide (b = 3) && ableC a
/-- A byte with a code in it. -/
def putC (t c : Int) : Int := if isC c then t - t % 4 + c else t

theorem ret_three {a b c a' b' c' : Bool} (h : a = a') (h' : b = b') (h'' : c = c') : Ending.returned (.tuple #[.bool a, .bool b, .bool c]) = .returned (.tuple #[.bool a', .bool b', .bool c']) := by rw [h, h', h'']
theorem ret_ib {a a' : Int} {b b' : Bool} (h : a = a') (h' : b = b') : Ending.returned (.tuple #[.int .i64 a, .bool b]) = .returned (.tuple #[.int .i64 a', .bool b']) := by rw [h, h']

theorem told_any (c : Int) (w : World) : Calls Tryd.prog 21 #[.int .i64 c] w fun e w' => e = .returned (.tuple #[.bool (isC c), .bool (ableC c), .bool (lowC c)]) ∧ w = w' := by
  go_enter Tryd.func21, Tryd.ntmps21
  by_cases h1 : c = 1
  · subst h1
    go_wp2_with fail
    go_ret3
    exact ⟨rfl, rfl⟩
  by_cases h3 : c = 3
  · subst h3
    go_wp2_with fail
    go_ret3
    exact ⟨rfl, rfl⟩
  by_cases h2 : c = 2
  · subst h2
    go_wp2_with fail
    go_ret3
    exact ⟨rfl, rfl⟩
  by_cases h0 : c = 0
  · subst h0
    go_wp2_with fail
    go_ret3
    exact ⟨rfl, rfl⟩
  go_wp2_with fail
  go_ret3
  exact ⟨ret_three (by simp [isC]; omega) (by simp [ableC]; omega) (by simp [lowC]; omega), rfl⟩

theorem and3_n : ∀ n : Nat, n < 256 → bits .and .u8 (n : Int) 3 = (n : Int) % 4 := by decide +kernel
theorem put3_n : ∀ n : Nat, n < 256 → ∀ c : Nat, c < 4 → bits .or .u8 (bits .andNot .u8 (n : Int) 3) ((c : Int) % 256) = (n : Int) - (n : Int) % 4 + c := by decide +kernel
theorem and3 {t : Int} (h : 0 ≤ t ∧ t ≤ 255) : bits .and .u8 t 3 = t % 4 := by
  have := and3_n t.toNat (by omega)
  rwa [Int.toNat_of_nonneg h.1] at this
theorem put3 {t c : Int} (h : 0 ≤ t ∧ t ≤ 255) (hc : isC c = true) : bits .or .u8 (bits .andNot .u8 t 3) (c % 256) = putC t c := by
  have k := hc
  simp [isC] at k
  have := put3_n t.toNat (by omega) c.toNat (by omega)
  rw [Int.toNat_of_nonneg h.1, Int.toNat_of_nonneg k.1] at this
  rw [this]; simp [putC, hc]
theorem putC_bd {t c : Int} (h : 0 ≤ t ∧ t ≤ 255) : 0 ≤ putC t c ∧ putC t c ≤ 255 := by
  unfold putC; split
  · next k => simp [isC] at k; omega
  · exact h
theorem markC_bd {c : Int} (h : -9223372036854775808 ≤ c ∧ c ≤ 9223372036854775807) : -9223372036854775808 ≤ markC c ∧ markC c ≤ 9223372036854775807 := by
  unfold markC; split <;> omega

theorem able_any (c : Int) (w : World) : Calls Tryd.prog 22 #[.int .i64 c] w fun e w' => e = .returned (.bool (ableC c)) ∧ w = w' := by
  go_enter Tryd.func22, Tryd.ntmps22
  go_wp2_with (go_at_call 21; refine (told_any _ _).mono ?_; rintro e w' ⟨rfl, rfl⟩)
  all_goals go_ret
  all_goals exact ⟨rfl, rfl⟩

theorem legal_any (a b : Int) (w : World) : Calls Tryd.prog 20 #[.int .i64 a, .int .i64 b] w fun e w' => e = .returned (.bool (legalC a b)) ∧ w = w' := by
  go_enter Tryd.func20, Tryd.ntmps20
  go_wp2_with (first
    | (go_at_call 21; refine (told_any _ _).mono ?_; rintro e w' ⟨rfl, rfl⟩)
    | (go_at_call 22; refine (able_any _ _).mono ?_; rintro e w' ⟨rfl, rfl⟩))
  all_goals go_ret
  all_goals exact ⟨ret_bool (by unfold legalC; simp_all), rfl⟩
end Go.Proofs.YtelodojaicdebaaDoor
