/- Package ecn and the document's own answers of layer 9: what a number is as a code, a byte's code, marking, and what a code may become. -/
import Derived.Test.YtfibjimahkpabaaBase
import Derived.OwnWalk
namespace Go.Proofs.Ytfibjimahkpabaa
open Go.ChangeShapes Go.WideShapes Go.ChangeAt Go.RowKit

/-- Is a number a code? -/
def isC (c : Int) : Bool := decide (0 ≤ c ∧ c ≤ 3)
/-- Can it be marked, or is it? -/
def ableC (c : Int) : Bool := decide (1 ≤ c ∧ c ≤ 3)
/-- Does it go into the low queue? -/
def lowC (c : Int) : Bool := decide (c = 1 ∨ c = 3)
/-- What a code is, marked. -/
def markC (c : Int) : Int := if ableC c then 3 else c
/-- May a code become another one? -/
def legalC (a b : Int) : Bool := if a = b then isC a else decide (b = 3) && ableC a
/-- A byte with a code in it. -/
def putC (t c : Int) : Int := if isC c then t - t % 4 + c else t

theorem ret_three {a b c a' b' c' : Bool} (h : a = a') (h' : b = b') (h'' : c = c') : Ending.returned (.tuple #[.bool a, .bool b, .bool c]) = .returned (.tuple #[.bool a', .bool b', .bool c']) := by rw [h, h', h'']
theorem ret_ib {a a' : Int} {b b' : Bool} (h : a = a') (h' : b = b') : Ending.returned (.tuple #[.int .i64 a, .bool b]) = .returned (.tuple #[.int .i64 a', .bool b']) := by rw [h, h']

theorem told_any (c : Int) (w : World) : Calls Try.prog 16 #[.int .i64 c] w fun e w' => e = .returned (.tuple #[.bool (isC c), .bool (ableC c), .bool (lowC c)]) ∧ w = w' := by
  go_enter Try.func16, Try.ntmps16
  by_cases h1 : c = 1
  · subst h1
    go_wp2_with fail
    go_ret3
    exact ⟨rfl, rfl⟩
  by_cases h3 : c = 3
  · subst h3
    go_wp2_with fail
    go_ret3
    exact ⟨rfl, rfl⟩
  by_cases h2 : c = 2
  · subst h2
    go_wp2_with fail
    go_ret3
    exact ⟨rfl, rfl⟩
  by_cases h0 : c = 0
  · subst h0
    go_wp2_with fail
    go_ret3
    exact ⟨rfl, rfl⟩
  go_wp2_with fail
  go_ret3
  exact ⟨ret_three (by simp [isC]; omega) (by simp [ableC]; omega) (by simp [lowC]; omega), rfl⟩

theorem and3_n : ∀ n : Nat, n < 256 → bits .and .u8 (n : Int) 3 = (n : Int) % 4 := by decide +kernel
theorem put3_n : ∀ n : Nat, n < 256 → ∀ c : Nat, c < 4 → bits .or .u8 (bits .andNot .u8 (n : Int) 3) ((c : Int) % 256) = (n : Int) - (n : Int) % 4 + c := by decide +kernel
theorem and3 {t : Int} (h : 0 ≤ t ∧ t ≤ 255) : bits .and .u8 t 3 = t % 4 := by
  have := and3_n t.toNat (by omega)
  rwa [Int.toNat_of_nonneg h.1] at this
theorem put3 {t c : Int} (h : 0 ≤ t ∧ t ≤ 255) (hc : isC c = true) : bits .or .u8 (bits .andNot .u8 t 3) (c % 256) = putC t c := by
  have k := hc
  simp [isC] at k
  have := put3_n t.toNat (by omega) c.toNat (by omega)
  rw [Int.toNat_of_nonneg h.1, Int.toNat_of_nonneg k.1] at this
  rw [this]; simp [putC, hc]
theorem putC_bd {t c : Int} (h : 0 ≤ t ∧ t ≤ 255) : 0 ≤ putC t c ∧ putC t c ≤ 255 := by
  unfold putC; split
  · next k => simp [isC] at k; omega
  · exact h
theorem markC_bd {c : Int} (h : -9223372036854775808 ≤ c ∧ c ≤ 9223372036854775807) : -9223372036854775808 ≤ markC c ∧ markC c ≤ 9223372036854775807 := by
  unfold markC; split <;> omega

theorem of_any (t : Int) (w : World) (h : 0 ≤ t ∧ t ≤ 255) : Calls Try.prog 6 #[.int .u8 t] w fun e w' => e = .returned (.int .i64 (t % 4)) ∧ w = w' := by
  go_enter Try.func6, Try.ntmps6
  go_wp2_with fail
  go_ret
  exact ⟨ret_int (by rw [and3 h]; unfold wrap64; omega), rfl⟩

theorem ecnPut_any (t c : Int) (w : World) (h : 0 ≤ t ∧ t ≤ 255) : Calls Try.prog 7 #[.int .u8 t, .int .i64 c] w fun e w' => e = .returned (.int .u8 (putC t c)) ∧ w = w' := by
  go_enter Try.func7, Try.ntmps7
  go_wp2_with (go_at_call 16; refine (told_any _ _).mono ?_; rintro e w' ⟨rfl, rfl⟩)
  all_goals go_ret
  · exact ⟨ret_int (by unfold putC; simp_all), rfl⟩
  · exact ⟨ret_int (put3 h (by simp_all)), rfl⟩

theorem able_any (c : Int) (w : World) : Calls Try.prog 12 #[.int .i64 c] w fun e w' => e = .returned (.bool (ableC c)) ∧ w = w' := by
  go_enter Try.func12, Try.ntmps12
  go_wp2_with (go_at_call 16; refine (told_any _ _).mono ?_; rintro e w' ⟨rfl, rfl⟩)
  all_goals go_ret
  all_goals exact ⟨rfl, rfl⟩

theorem low_any (c : Int) (w : World) : Calls Try.prog 13 #[.int .i64 c] w fun e w' => e = .returned (.bool (lowC c)) ∧ w = w' := by
  go_enter Try.func13, Try.ntmps13
  go_wp2_with (go_at_call 16; refine (told_any _ _).mono ?_; rintro e w' ⟨rfl, rfl⟩)
  all_goals go_ret
  all_goals exact ⟨rfl, rfl⟩

theorem mark_any (c : Int) (w : World) : Calls Try.prog 10 #[.int .i64 c] w fun e w' => e = .returned (.tuple #[.int .i64 (markC c), .bool (ableC c)]) ∧ w = w' := by
  go_enter Try.func10, Try.ntmps10
  go_wp2_with (go_at_call 12; refine (able_any _ _).mono ?_; rintro e w' ⟨rfl, rfl⟩)
  all_goals go_ret2
  all_goals exact ⟨ret_ib (by unfold markC; simp_all) (by simp_all), rfl⟩

theorem legal_any (a b : Int) (w : World) : Calls Try.prog 14 #[.int .i64 a, .int .i64 b] w fun e w' => e = .returned (.bool (legalC a b)) ∧ w = w' := by
  go_enter Try.func14, Try.ntmps14
  go_wp2_with (first
    | (go_at_call 16; refine (told_any _ _).mono ?_; rintro e w' ⟨rfl, rfl⟩)
    | (go_at_call 12; refine (able_any _ _).mono ?_; rintro e w' ⟨rfl, rfl⟩))
  all_goals go_ret
  all_goals exact ⟨ret_bool (by unfold legalC; simp_all), rfl⟩

theorem refIs_any (c : Int) (w : World) : Calls Try.prog 17 #[.int .i64 c] w fun e w' => e = .returned (.bool (isC c)) ∧ w = w' := by
  go_enter Try.func17, Try.ntmps17
  go_wp2_with fail
  all_goals go_ret
  all_goals exact ⟨ret_bool (by rw [Bool.eq_iff_iff]; simp [isC] at *; omega), rfl⟩

theorem refPut9_any (t c : Int) (w : World) (h : 0 ≤ t ∧ t ≤ 255) : Calls Try.prog 8 #[.int .u8 t, .int .i64 c] w fun e w' => e = .returned (.int .u8 (putC t c)) ∧ w = w' := by
  go_enter Try.func8, Try.ntmps8
  go_wp2_with (go_at_call 17; refine (refIs_any _ _).mono ?_; rintro e w' ⟨rfl, rfl⟩)
  all_goals go_ret
  · exact ⟨ret_int (by unfold putC; simp_all), rfl⟩
  · next k => exact ⟨ret_int (by simp at k; have kk := k; simp [isC] at kk; unfold putC; rw [if_pos k]; omega), rfl⟩

theorem refMark9_any (c : Int) (w : World) : Calls Try.prog 11 #[.int .i64 c] w fun e w' => e = .returned (.tuple #[.int .i64 (markC c), .bool (ableC c)]) ∧ w = w' := by
  go_enter Try.func11, Try.ntmps11
  go_wp2_with fail
  all_goals go_ret2
  all_goals exact ⟨ret_ib (by unfold markC; split <;> simp [ableC] at * <;> omega) (by rw [Bool.eq_iff_iff]; simp [ableC] at *; omega), rfl⟩

theorem refLegal_any (a b : Int) (w : World) : Calls Try.prog 15 #[.int .i64 a, .int .i64 b] w fun e w' => e = .returned (.bool (legalC a b)) ∧ w = w' := by
  go_enter Try.func15, Try.ntmps15
  go_wp2_with (go_at_call 17; refine (refIs_any _ _).mono ?_; rintro e w' ⟨rfl, rfl⟩)
  all_goals go_ret
  all_goals refine ⟨ret_bool ?_, rfl⟩
  all_goals (unfold legalC; split <;> rw [Bool.eq_iff_iff] <;> simp [isC, ableC] at * <;> omega)

theorem works09_any (w : World) : Calls Try.prog 9 #[] w fun e w' => e = .returned (.bool true) ∧ w = w' := by
  have e1 : putC 254 3 = 255 := by decide
  have e2 : markC 0 = 0 := by decide
  have e3 : ableC 0 = false := by decide
  have e4 : ableC 2 = true := by decide
  go_enter Try.func9, Try.ntmps9
  go_wp2_with (first
    | (go_at_call 10; refine (mark_any _ _).mono ?_; rintro e w' ⟨rfl, rfl⟩)
    | (go_at_call 7; refine (ecnPut_any _ _ _ (by omega)).mono ?_; rintro e w' ⟨rfl, rfl⟩)
    | (go_at_call 12; refine (able_any _ _).mono ?_; rintro e w' ⟨rfl, rfl⟩))
  all_goals go_ret
  all_goals exact ⟨rfl, rfl⟩
end Go.Proofs.Ytfibjimahkpabaa
