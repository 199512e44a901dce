/- Package field and the document's own: one counter. -/
import Derived.Test.YtdkkeplegbmjgaaFldM
import Derived.Test.YtdkkeplegbmjgaaSerB
import Derived.Test.YtdkkeplegbmjgaaMem
import Derived.ChangeKeysEq
import Derived.Laws.StructEq
namespace Go.Proofs.Ytdkkeplegbmjgaa
open Go.ChangeShapes Go.WideShapes Go.ChangeAt Go.RowKit
set_option linter.unusedVariables false

def int64F (x : Int) : Prop := -9223372036854775808 ≤ x ∧ x ≤ 9223372036854775807
theorem u64_bdF (x : Int) : 0 ≤ IntKind.u64.wrap x ∧ IntKind.u64.wrap x ≤ 18446744073709551615 := by rw [IntKind.wrap_u64]; omega
theorem dif_u64F (l x : Int) : dif (IntKind.u64.wrap x) (IntKind.u64.wrap l) 24 = fdF l x := by
  rw [IntKind.wrap_u64, IntKind.wrap_u64]
  exact (dif_64 x l 24).trans (dif_fdF l x)
theorem told17_any (x : Int) (w : World) : Calls Try.prog 13 #[.int .i64 x] w fun e w' => e = .returned (.bool (decide (0 ≤ x))) ∧ w = w' := by
  go_enter Try.func13, Try.ntmps13
  go_wp2_with fail
  go_ret
  exact ⟨rfl, rfl⟩
theorem diff17_any (l x : Int) (w : World) : Calls Try.prog 18 #[.int .u64 (IntKind.u64.wrap x), .int .u64 (IntKind.u64.wrap l), .int .i64 24] w fun e w' => e = .returned (.int .i64 (fdF l x)) ∧ Below w.heap.size w w' := by
  have h := diff_any (IntKind.u64.wrap x) (IntKind.u64.wrap l) 24 w (u64_bdF x) (u64_bdF l) (by omega)
  rw [dif_u64F] at h
  exact h
theorem refDiff3_17 (l x : Int) (w : World) : Calls Try.prog 12 #[.int .u64 (IntKind.u64.wrap x), .int .u64 (IntKind.u64.wrap l), .int .i64 24] w fun e w' => e = .returned (.int .i64 (fdF l x)) ∧ w = w' := by
  have h := refDiff_any (IntKind.u64.wrap x) (IntKind.u64.wrap l) 24 w (u64_bdF x) (u64_bdF l) (by omega)
  rw [dif_u64F] at h
  exact h
theorem ahead17_any (l x : Int) (w : World) : Calls Try.prog 14 #[.int .i64 l, .int .i64 x] w fun e w' => e = .returned (.int .i64 (fdF l x)) ∧ Below w.heap.size w w' := by
  go_enter Try.func14, Try.ntmps14
  go_wp2_with (go_at_call 18; refine (diff17_any _ _ _).mono ?_; rintro e w1 ⟨rfl, B⟩)
  go_ret
  exact ⟨rfl, B⟩
theorem raise17_any (n b : Int) (w : World) (hn : int64F n) (hb : 0 ≤ b ∧ b ≤ 8388607) : Calls Try.prog 15 #[.int .i64 n, .int .i64 b] w fun e w' => e = .returned (.int .i64 (raF n b)) ∧ w = w' := by
  unfold int64F at hn
  by_cases h : 9223372036854775807 - b < n
  · have e := Lib.hid (show raF n b = 9223372036854775807 by unfold raF; rw [if_pos h])
    go_enter Try.func15, Try.ntmps15
    go_wp2_with fail
    go_ret
    exact ⟨ret_int e.out.symm, rfl⟩
  · have e := Lib.hid (show raF n b = n + b by unfold raF; rw [if_neg h])
    go_enter Try.func15, Try.ntmps15
    go_wp2_with fail
    go_ret
    exact ⟨ret_int e.out.symm, rfl⟩
theorem step17_any (l x : Int) (w : World) : Calls Try.prog 8 #[.int .i64 l, .int .i64 x] w fun e w' => e = .returned (.int .i64 (stF l x)) ∧ Below w.heap.size w w' := by
  have bd := fdF_bd l x
  by_cases h : 0 ≤ x
  · have ht : toF l x = fdF l x := by unfold toF; rw [if_neg (by omega)]
    by_cases h2 : fdF l x < 0
    · have e := Lib.hid (show stF l x = 0 by unfold stF; rw [ht, if_pos h2])
      have h3 : fdF l x ≤ 0 := by omega
      clear ht
      go_enter Try.func8, Try.ntmps8
      go_wp2_with (first
        | (go_at_call 13; refine (told17_any _ _).mono ?_; rintro e w1 ⟨rfl, rfl⟩)
        | (go_at_call 14; refine (ahead17_any _ _ _).mono ?_; rintro e w1 ⟨rfl, B⟩))
      go_ret
      exact ⟨ret_int e.out.symm, B⟩
    · have e := Lib.hid (show stF l x = fdF l x by unfold stF; rw [ht, if_neg h2])
      clear ht
      go_enter Try.func8, Try.ntmps8
      go_wp2_with (first
        | (go_at_call 13; refine (told17_any _ _).mono ?_; rintro e w1 ⟨rfl, rfl⟩)
        | (go_at_call 14; refine (ahead17_any _ _ _).mono ?_; rintro e w1 ⟨rfl, B⟩))
      go_ret
      exact ⟨ret_int (by rw [e.out]), B⟩
  · have e := Lib.hid (show stF l x = 0 by have ht : toF l x = 0 := by { unfold toF; rw [if_pos (by omega)] }; unfold stF; rw [ht]; rfl)
    have hd : decide (0 ≤ x) = false := by simp; omega
    clear h
    go_enter Try.func8, Try.ntmps8
    go_wp2_with (first
      | (go_at_call 13; refine (told17_any _ _).mono ?_; rintro e w1 ⟨rfl, rfl⟩))
    go_ret
    exact ⟨ret_int e.out.symm, new_refl w⟩
theorem refDiff17_any (l x : Int) (w : World) : Calls Try.prog 7 #[.int .i64 l, .int .i64 x] w fun e w' => e = .returned (.int .i64 (toF l x)) ∧ w = w' := by
  by_cases h : x < 0
  · have e := Lib.hid (show toF l x = 0 by unfold toF; rw [if_pos h])
    go_enter Try.func7, Try.ntmps7
    go_wp2_with fail
    go_ret
    exact ⟨ret_int e.out.symm, rfl⟩
  · have e := Lib.hid (show toF l x = fdF l x by unfold toF; rw [if_neg h])
    go_enter Try.func7, Try.ntmps7
    go_wp2_with (go_at_call 12; refine (refDiff3_17 _ _ _).mono ?_; rintro e w1 ⟨rfl, rfl⟩)
    go_ret
    exact ⟨ret_int e.out.symm, rfl⟩
theorem refStep17_any (l x : Int) (w : World) : Calls Try.prog 6 #[.int .i64 l, .int .i64 x] w fun e w' => e = .returned (.int .i64 (stF l x)) ∧ w = w' := by
  by_cases h : toF l x < 0
  · have e := Lib.hid (show stF l x = 0 by unfold stF; rw [if_pos h])
    go_enter Try.func6, Try.ntmps6
    go_wp2_with (go_at_call 7; refine (refDiff17_any _ _ _).mono ?_; rintro e w1 ⟨rfl, rfl⟩)
    go_ret
    exact ⟨ret_int e.out.symm, rfl⟩
  · have e := Lib.hid (show stF l x = toF l x by unfold stF; rw [if_neg h])
    go_enter Try.func6, Try.ntmps6
    go_wp2_with (go_at_call 7; refine (refDiff17_any _ _ _).mono ?_; rintro e w1 ⟨rfl, rfl⟩)
    go_ret
    exact ⟨ret_int e.out.symm, rfl⟩
theorem near17_any (x : Int) (w : World) (h : int64F x) : Calls Try.prog 5 #[.int .i64 x] w fun e w' => e = .returned (.int .i64 (neF x)) ∧ w = w' := by
  unfold int64F at h
  go_enter Try.func5, Try.ntmps5
  go_wp2
  all_goals go_ret
  all_goals exact ⟨ret_int (by unfold neF; split <;> split <;> omega), rfl⟩
/-- Three numbers against the same three. -/
theorem eqlF3 (a b c : Int) (w : World) : (binOp .eql 22 (.agg #[.int .i64 a, .int .i64 b, .int .i64 c]) (.agg #[.int .i64 a, .int .i64 b, .int .i64 c])).run Try.prog w = .ok (.bool true) w := by
  obtain ⟨i, hi⟩ := Option.isSome_iff_exists.1 (show (Try.prog.info? 2).isSome = true by kernel_rfl)
  rw [run_eql_struct, show (10000 : Nat) = 9999 + 1 from rfl, run_equalIn_array w 9999 _ _ (show Try.prog.underlying 22 = some (.array 3 2) by kernel_rfl) hi]
  rw [show Try.prog.cellsOf 2 = 1 by kernel_rfl, show List.range 3 = [0, 1, 2] by decide]
  simp only [Op.eqItems]
  go_simp
theorem idxF0 (a b c : Int) (w : World) : (Instr.index 22 (.agg #[.int .i64 a, .int .i64 b, .int .i64 c]) (.int .i64 0)).run Try.prog w = .ok (.int .i64 a) w := by kernel_rfl
theorem idxF1 (a b c : Int) (w : World) : (Instr.index 22 (.agg #[.int .i64 a, .int .i64 b, .int .i64 c]) (.int .i64 1)).run Try.prog w = .ok (.int .i64 b) w := by kernel_rfl
theorem idxF2 (a b c : Int) (w : World) : (Instr.index 22 (.agg #[.int .i64 a, .int .i64 b, .int .i64 c]) (.int .i64 2)).run Try.prog w = .ok (.int .i64 c) w := by kernel_rfl
end Go.Proofs.Ytdkkeplegbmjgaa
