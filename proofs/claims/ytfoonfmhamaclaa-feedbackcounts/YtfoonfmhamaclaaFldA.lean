/- Package field and the document's own: one counter. -/
import Derived.Test.YtfoonfmhamaclaaFldM
import Derived.Test.YtfoonfmhamaclaaSerB
import Derived.Test.YtfoonfmhamaclaaMem
import Derived.ChangeKeysEq
import Derived.Laws.StructEq
namespace Go.Proofs.Ytfoonfmhamaclaa
open Go.ChangeShapes Go.WideShapes Go.ChangeAt Go.RowKit
set_option linter.unusedVariables false

def int64F (x : Int) : Prop := -9223372036854775808 ≤ x ∧ x ≤ 9223372036854775807
theorem u64_bdF (x : Int) : 0 ≤ IntKind.u64.wrap x ∧ IntKind.u64.wrap x ≤ 18446744073709551615 := by rw [IntKind.wrap_u64]; omega
theorem dif_u64F (l x : Int) : dif (IntKind.u64.wrap x) (IntKind.u64.wrap l) 24 = fdF l x := by
  rw [IntKind.wrap_u64, IntKind.wrap_u64]
  exact (dif_64 x l 24).trans (dif_fdF l x)
theorem told17_any (x : Int) (w : World) : Calls Try.prog 31 #[.int .i64 x] w fun e w' => e = .returned (.bool (decide (0 ≤ x))) ∧ w = w' := by
  go_enter Try.func31, Try.ntmps31
  go_wp2_with fail
  go_ret
  exact ⟨rfl, rfl⟩
theorem diff17_any (l x : Int) (w : World) : Calls Try.prog 42 #[.int .u64 (IntKind.u64.wrap x), .int .u64 (IntKind.u64.wrap l), .int .i64 24] w fun e w' => e = .returned (.int .i64 (fdF l x)) ∧ Below w.heap.size w w' := by
  have h := diff_any (IntKind.u64.wrap x) (IntKind.u64.wrap l) 24 w (u64_bdF x) (u64_bdF l) (by omega)
  rw [dif_u64F] at h
  exact h
theorem refDiff3_17 (l x : Int) (w : World) : Calls Try.prog 25 #[.int .u64 (IntKind.u64.wrap x), .int .u64 (IntKind.u64.wrap l), .int .i64 24] w fun e w' => e = .returned (.int .i64 (fdF l x)) ∧ w = w' := by
  have h := refDiff_any (IntKind.u64.wrap x) (IntKind.u64.wrap l) 24 w (u64_bdF x) (u64_bdF l) (by omega)
  rw [dif_u64F] at h
  exact h
theorem ahead17_any (l x : Int) (w : World) : Calls Try.prog 32 #[.int .i64 l, .int .i64 x] w fun e w' => e = .returned (.int .i64 (fdF l x)) ∧ Below w.heap.size w w' := by
  go_enter Try.func32, Try.ntmps32
  go_wp2_with (go_at_call 42; refine (diff17_any _ _ _).mono ?_; rintro e w1 ⟨rfl, B⟩)
  go_ret
  exact ⟨rfl, B⟩
theorem raise17_any (n b : Int) (w : World) (hn : int64F n) (hb : 0 ≤ b ∧ b ≤ 8388607) : Calls Try.prog 37 #[.int .i64 n, .int .i64 b] w fun e w' => e = .returned (.int .i64 (raF n b)) ∧ w = w' := by
  unfold int64F at hn
  by_cases h : 9223372036854775807 - b < n
  · have e := Lib.hid (show raF n b = 9223372036854775807 by unfold raF; rw [if_pos h])
    go_enter Try.func37, Try.ntmps37
    go_wp2_with fail
    go_ret
    exact ⟨ret_int e.out.symm, rfl⟩
  · have e := Lib.hid (show raF n b = n + b by unfold raF; rw [if_neg h])
    go_enter Try.func37, Try.ntmps37
    go_wp2_with fail
    go_ret
    exact ⟨ret_int e.out.symm, rfl⟩
theorem step17_any (l x : Int) (w : World) : Calls Try.prog 38 #[.int .i64 l, .int .i64 x] w fun e w' => e = .returned (.int .i64 (stF l x)) ∧ Below w.heap.size w w' := by
  have bd := fdF_bd l x
  by_cases h : 0 ≤ x
  · have ht : toF l x = fdF l x := by unfold toF; rw [if_neg (by omega)]
    by_cases h2 : fdF l x < 0
    · have e := Lib.hid (show stF l x = 0 by unfold stF; rw [ht, if_pos h2])
      have h3 : fdF l x ≤ 0 := by omega
      clear ht
      go_enter Try.func38, Try.ntmps38
      go_wp2_with (first
        | (go_at_call 31; refine (told17_any _ _).mono ?_; rintro e w1 ⟨rfl, rfl⟩)
        | (go_at_call 32; refine (ahead17_any _ _ _).mono ?_; rintro e w1 ⟨rfl, B⟩))
      go_ret
      exact ⟨ret_int e.out.symm, B⟩
    · have e := Lib.hid (show stF l x = fdF l x by unfold stF; rw [ht, if_neg h2])
      clear ht
      go_enter Try.func38, Try.ntmps38
      go_wp2_with (first
        | (go_at_call 31; refine (told17_any _ _).mono ?_; rintro e w1 ⟨rfl, rfl⟩)
        | (go_at_call 32; refine (ahead17_any _ _ _).mono ?_; rintro e w1 ⟨rfl, B⟩))
      go_ret
      exact ⟨ret_int (by rw [e.out]), B⟩
  · have e := Lib.hid (show stF l x = 0 by have ht : toF l x = 0 := by { unfold toF; rw [if_pos (by omega)] }; unfold stF; rw [ht]; rfl)
    have hd : decide (0 ≤ x) = false := by simp; omega
    clear h
    go_enter Try.func38, Try.ntmps38
    go_wp2_with (first
      | (go_at_call 31; refine (told17_any _ _).mono ?_; rintro e w1 ⟨rfl, rfl⟩))
    go_ret
    exact ⟨ret_int e.out.symm, new_refl w⟩
theorem refDiff17_any (l x : Int) (w : World) : Calls Try.prog 24 #[.int .i64 l, .int .i64 x] w fun e w' => e = .returned (.int .i64 (toF l x)) ∧ w = w' := by
  by_cases h : x < 0
  · have e := Lib.hid (show toF l x = 0 by unfold toF; rw [if_pos h])
    go_enter Try.func24, Try.ntmps24
    go_wp2_with fail
    go_ret
    exact ⟨ret_int e.out.symm, rfl⟩
  · have e := Lib.hid (show toF l x = fdF l x by unfold toF; rw [if_neg h])
    go_enter Try.func24, Try.ntmps24
    go_wp2_with (go_at_call 25; refine (refDiff3_17 _ _ _).mono ?_; rintro e w1 ⟨rfl, rfl⟩)
    go_ret
    exact ⟨ret_int e.out.symm, rfl⟩
theorem refStep17_any (l x : Int) (w : World) : Calls Try.prog 28 #[.int .i64 l, .int .i64 x] w fun e w' => e = .returned (.int .i64 (stF l x)) ∧ w = w' := by
  by_cases h : toF l x < 0
  · have e := Lib.hid (show stF l x = 0 by unfold stF; rw [if_pos h])
    go_enter Try.func28, Try.ntmps28
    go_wp2_with (go_at_call 24; refine (refDiff17_any _ _ _).mono ?_; rintro e w1 ⟨rfl, rfl⟩)
    go_ret
    exact ⟨ret_int e.out.symm, rfl⟩
  · have e := Lib.hid (show stF l x = toF l x by unfold stF; rw [if_neg h])
    go_enter Try.func28, Try.ntmps28
    go_wp2_with (go_at_call 24; refine (refDiff17_any _ _ _).mono ?_; rintro e w1 ⟨rfl, rfl⟩)
    go_ret
    exact ⟨ret_int e.out.symm, rfl⟩
/-- Three numbers against the same three. -/
theorem eqlF3 (a b c : Int) (w : World) : (binOp .eql 25 (.agg #[.int .i64 a, .int .i64 b, .int .i64 c]) (.agg #[.int .i64 a, .int .i64 b, .int .i64 c])).run Try.prog w = .ok (.bool true) w := by
  obtain ⟨i, hi⟩ := Option.isSome_iff_exists.1 (show (Try.prog.info? 2).isSome = true by kernel_rfl)
  rw [run_eql_struct, show (10000 : Nat) = 9999 + 1 from rfl, run_equalIn_array w 9999 _ _ (show Try.prog.underlying 25 = some (.array 3 2) by kernel_rfl) hi]
  rw [show Try.prog.cellsOf 2 = 1 by kernel_rfl, show List.range 3 = [0, 1, 2] by decide]
  simp only [Op.eqItems]
  go_simp
theorem idxF0 (a b c : Int) (w : World) : (Instr.index 25 (.agg #[.int .i64 a, .int .i64 b, .int .i64 c]) (.int .i64 0)).run Try.prog w = .ok (.int .i64 a) w := by kernel_rfl
theorem idxF1 (a b c : Int) (w : World) : (Instr.index 25 (.agg #[.int .i64 a, .int .i64 b, .int .i64 c]) (.int .i64 1)).run Try.prog w = .ok (.int .i64 b) w := by kernel_rfl
theorem idxF2 (a b c : Int) (w : World) : (Instr.index 25 (.agg #[.int .i64 a, .int .i64 b, .int .i64 c]) (.int .i64 2)).run Try.prog w = .ok (.int .i64 c) w := by kernel_rfl
end Go.Proofs.Ytfoonfmhamaclaa
