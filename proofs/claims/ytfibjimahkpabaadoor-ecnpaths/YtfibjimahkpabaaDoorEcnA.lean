/- Package ecn and the document's own answers of layer 9: what a number is as a code, a byte's code, marking, and what a code may become. -/
import Derived.Test.YtfibjimahkpabaaDoorBase
import Derived.OwnWalk
namespace Go.Proofs.YtfibjimahkpabaaDoor
open Go.ChangeShapes Go.WideShapes Go.ChangeAt Go.RowKit

/-- Is a number a code? -/
def isC (c : Int) : Bool := decide (0 ≤ c ∧ c ≤ 3)
/-- Can it be marked, or is it? -/
def ableC (c : Int) : Bool := decide (1 ≤ c ∧ c ≤ 3)
/-- Does it go into the low queue? -/
def lowC (c : Int) : Bool := decide (c = 1 ∨ c = 3)
/-- What a code is, marked. -/
def markC (c : Int) : Int := if ableC c then 3 else c
/-- May a code become another one? -/
def legalC (a b : Int) : Bool := if a = b then isC a else decide (b = 3) && ableC a
/-- A byte with a code in it. -/
def putC (t c : Int) : Int := if isC c then t - t % 4 + c else t

theorem ret_three {a b c a' b' c' : Bool} (h : a = a') (h' : b = b') (h'' : c = c') : Ending.returned (.tuple #[.bool a, .bool b, .bool c]) = .returned (.tuple #[.bool a', .bool b', .bool c']) := by rw [h, h', h'']
theorem ret_ib {a a' : Int} {b b' : Bool} (h : a = a') (h' : b = b') : Ending.returned (.tuple #[.int .i64 a, .bool b]) = .returned (.tuple #[.int .i64 a', .bool b']) := by rw [h, h']

theorem told_any (c : Int) (w : World) : Calls Tryd.prog 15 #[.int .i64 c] w fun e w' => e = .returned (.tuple #[.bool (isC c), .bool (ableC c), .bool (lowC c)]) ∧ w = w' := by
  go_enter Tryd.func15, Tryd.ntmps15
  by_cases h1 : c = 1
  · subst h1
    go_wp2_with fail
    go_ret3
    exact ⟨rfl, rfl⟩
  by_cases h3 : c = 3
  · subst h3
    go_wp2_with fail
    go_ret3
    exact ⟨rfl, rfl⟩
  by_cases h2 : c = 2
  · subst h2
    go_wp2_with fail
    go_ret3
    exact ⟨rfl, rfl⟩
  by_cases h0 : c = 0
  · subst h0
    go_wp2_with fail
    go_ret3
    exact ⟨rfl, rfl⟩
  go_wp2_with fail
  go_ret3
  exact ⟨ret_three (by simp [isC]; omega) (by simp [ableC]; omega) (by simp [lowC]; omega), rfl⟩

theorem and3_n : ∀ n : Nat, n < 256 → bits .and .u8 (n : Int) 3 = (n : Int) % 4 := by decide +kernel
theorem put3_n : ∀ n : Nat, n < 256 → ∀ c : Nat, c < 4 → bits .or .u8 (bits .andNot .u8 (n : Int) 3) ((c : Int) % 256) = (n : Int) - (n : Int) % 4 + c := by decide +kernel
theorem and3 {t : Int} (h : 0 ≤ t ∧ t ≤ 255) : bits .and .u8 t 3 = t % 4 := by
  have := and3_n t.toNat (by omega)
  rwa [Int.toNat_of_nonneg h.1] at this
theorem put3 {t c : Int} (h : 0 ≤ t ∧ t ≤ 255) (hc : isC c = true) : bits .or .u8 (bits .andNot .u8 t 3) (c % 256) = putC t c := by
  have k := hc
  simp [isC] at k
  have := put3_n t.toNat (by omega) c.toNat (by omega)
  rw [Int.toNat_of_nonneg h.1, Int.toNat_of_nonneg k.1] at this
  rw [this]; simp [putC, hc]
theorem putC_bd {t c : Int} (h : 0 ≤ t ∧ t ≤ 255) : 0 ≤ putC t c ∧ putC t c ≤ 255 := by
  unfold putC; split
  · next k => simp [isC] at k; omega
  · exact h
theorem markC_bd {c : Int} (h : -9223372036854775808 ≤ c ∧ c ≤ 9223372036854775807) : -9223372036854775808 ≤ markC c ∧ markC c ≤ 9223372036854775807 := by
  unfold markC; split <;> omega

theorem ecnPut_any (t c : Int) (w : World) (h : 0 ≤ t ∧ t ≤ 255) : Calls Tryd.prog 17 #[.int .u8 t, .int .i64 c] w fun e w' => e = .returned (.int .u8 (putC t c)) ∧ w = w' := by
  go_enter Tryd.func17, Tryd.ntmps17
  go_wp2_with (go_at_call 15; refine (told_any _ _).mono ?_; rintro e w' ⟨rfl, rfl⟩)
  all_goals go_ret
  · exact ⟨ret_int (by unfold putC; simp_all), rfl⟩
  · exact ⟨ret_int (put3 h (by simp_all)), rfl⟩

theorem able_any (c : Int) (w : World) : Calls Tryd.prog 18 #[.int .i64 c] w fun e w' => e = .returned (.bool (ableC c)) ∧ w = w' := by
  go_enter Tryd.func18, Tryd.ntmps18
  go_wp2_with (go_at_call 15; refine (told_any _ _).mono ?_; rintro e w' ⟨rfl, rfl⟩)
  all_goals go_ret
  all_goals exact ⟨rfl, rfl⟩

theorem mark_any (c : Int) (w : World) : Calls Tryd.prog 16 #[.int .i64 c] w fun e w' => e = .returned (.tuple #[.int .i64 (markC c), .bool (ableC c)]) ∧ w = w' := by
  go_enter Tryd.func16, Tryd.ntmps16
  go_wp2_with (go_at_call 18; refine (able_any _ _).mono ?_; rintro e w' ⟨rfl, rfl⟩)
  all_goals go_ret2
  all_goals exact ⟨ret_ib (by unfold markC; simp_all) (by simp_all), rfl⟩

theorem legal_any (a b : Int) (w : World) : Calls Tryd.prog 14 #[.int .i64 a, .int .i64 b] w fun e w' => e = .returned (.bool (legalC a b)) ∧ w = w' := by
  go_enter Tryd.func14, Tryd.ntmps14
  go_wp2_with (first
    | (go_at_call 15; refine (told_any _ _).mono ?_; rintro e w' ⟨rfl, rfl⟩)
    | (go_at_call 18; refine (able_any _ _).mono ?_; rintro e w' ⟨rfl, rfl⟩))
  all_goals go_ret
  all_goals exact ⟨ret_bool (by unfold legalC; simp_all), rfl⟩

theorem refIs_any (c : Int) (w : World) : Calls Tryd.prog 13 #[.int .i64 c] w fun e w' => e = .returned (.bool (isC c)) ∧ w = w' := by
  go_enter Tryd.func13, Tryd.ntmps13
  go_wp2_with fail
  all_goals go_ret
  all_goals exact ⟨ret_bool (by rw [Bool.eq_iff_iff]; simp [isC] at *; omega), rfl⟩

theorem works09_any (w : World) : Calls Tryd.prog 8 #[] w fun e w' => e = .returned (.bool true) ∧ w = w' := by
  have e1 : putC 254 3 = 255 := by decide
  have e2 : markC 0 = 0 := by decide
  have e3 : ableC 0 = false := by decide
  have e4 : ableC 2 = true := by decide
  go_enter Tryd.func8, Tryd.ntmps8
  go_wp2_with (first
    | (go_at_call 16; refine (mark_any _ _).mono ?_; rintro e w' ⟨rfl, rfl⟩)
    | (go_at_call 17; refine (ecnPut_any _ _ _ (by omega)).mono ?_; rintro e w' ⟨rfl, rfl⟩)
    | (go_at_call 18; refine (able_any _ _).mono ?_; rintro e w' ⟨rfl, rfl⟩))
  all_goals go_ret
  all_goals exact ⟨rfl, rfl⟩
end Go.Proofs.YtfibjimahkpabaaDoor
