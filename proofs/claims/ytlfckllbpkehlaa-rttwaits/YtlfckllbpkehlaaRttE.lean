/- Estimates compared; the chapter's example of layer 20. -/
import Derived.Test.YtlfckllbpkehlaaRttD
namespace Go.Proofs.Ytlfckllbpkehlaa
open Go.ChangeShapes Go.WideShapes Go.ChangeAt Go.RowKit
set_option linter.unusedVariables false

theorem rtTwo (w : World) (x y : Int) (t : TypeId) : LsK .i64 (w.alloc (.cells #[.int .i64 x, .int .i64 y] t)) w.heap.size (some ⟨w.heap.size, 0, none⟩) [x, y] :=
  .inr ⟨0, rfl, fun i hi => match i, hi with
    | 0, _ => (Blk.new w [.int .i64 x, .int .i64 y] t).cell 0 rfl
    | 1, _ => (Blk.new w [.int .i64 x, .int .i64 y] t).cell 1 rfl⟩
theorem eqlR (c : Rtx) (w : World) : (binOp .eql 23 (rtG c) (rtG c)).run Try.prog w = .ok (.bool true) w := by
  unfold rtG
  rw [run_eql_struct, show (10000 : Nat) = 9999 + 1 from rfl, run_equalIn_agg w 9999 _ _ _ (by kernel_rfl) (by kernel_rfl)]
  simp only [Program.fieldsOf, Try.underlying23]
  go_simp
theorem neqR (c : Rtx) (w : World) : (binOp .neq 23 (rtG c) (rtG c)).run Try.prog w = .ok (.bool false) w := by
  unfold rtG
  rw [run_neq_struct, show (10000 : Nat) = 9999 + 1 from rfl, run_equalIn_agg w 9999 _ _ _ (by kernel_rfl) (by kernel_rfl)]
  simp only [Program.fieldsOf, Try.underlying23]
  go_simp
theorem works20_any (w : World) : Calls Try.prog 13 #[] w fun e w' => e = .returned (.bool true) ∧ Below w.heap.size w w' := by
  have AL : Hid (∀ w g A, LsK .i64 w g A [100, 180] → Calls Try.prog 12 #[.agg #[.int .i64 0, .int .i64 0, .bool false], .slice A 2 2] w fun e w' => e = .returned (.agg #[.int .i64 880, .int .i64 230, .bool true]) ∧ Below w.heap.size w w') := Lib.hid (fun w g A h => by
    have k := all20_any ⟨0, 0, false⟩ g 2 2 A [100, 180] w h rfl (by decide)
    rw [show rtAll ⟨0, 0, false⟩ [100, 180] = ⟨880, 230, true⟩ by decide +kernel] at k
    exact k)
  have SM : Hid (∀ w, Calls Try.prog 9 #[.agg #[.int .i64 880, .int .i64 230, .bool true]] w fun e w' => e = .returned (.int .i64 110) ∧ Below w.heap.size w w') := Lib.hid (fun w => smooth20_any ⟨880, 230, true⟩ w)
  go_enter Try.func13, Try.ntmps13
  go_wp2_with (first
    | (go_at_call 12; refine (AL.out _ _ _ (rtTwo w 100 180 _)).mono ?_; rintro e w1 ⟨rfl, B1⟩
       have C := Blk.new w1 [.int .i64 880, .int .i64 230, .bool true] 23)
    | (go_at_call 9; refine (SM.out _).mono ?_; rintro e w2 ⟨rfl, B2⟩
       have D := C.kept B2
       have d0 := D.cell 0 rfl; have d1 := D.cell 1 rfl; have d2 := D.cell 2 rfl))
  go_ret
  exact ⟨rfl, new_then (new_alloc (new_then (new_alloc (new_refl w) _) B1) _) B2⟩
end Go.Proofs.Ytlfckllbpkehlaa
