/- The document's own answer of layer 27; scores compared; the chapter's example. -/
import Derived.Test.YtmmccaaocfbdlaaClsA
import Derived.Test.YtmmccaaocfbdlaaFixR
namespace Go.Proofs.Ytmmccaaocfbdlaa
open Go.ChangeShapes Go.WideShapes Go.ChangeAt Go.RowKit
set_option linter.unusedVariables false

set_option maxHeartbeats 1000000 in
theorem round27R_any (s : Int) (m : Bool) (d l : Int) (w : World) (hd : -9223372036854775808 ≤ d ∧ d ≤ 9223372036854775807) (hl : -9223372036854775808 ≤ l ∧ l ≤ 9223372036854775807) :
    Calls Try.prog 6 #[.agg #[.int .i64 s], .bool m, .int .i64 d, .int .i64 l] w fun e w' => e = .returned (.agg #[.int .i64 (clR s m d l)]) ∧ Below w.heap.size w w' := by
  have bs := clS_bd s
  have bl := clL_bd l hl
  obtain ⟨k1, k2, k3, k4, k5⟩ : RnEnd 0 2097152 s (clS s) := rnEnd_is (by decide)
  have LL : (l < 1 ∧ clL l = 1) ∨ (¬ l < 1 ∧ clL l = l) := by unfold clL; split <;> omega
  have TW : Hid (∀ n w, 0 ≤ n ∧ n ≤ 62 → Calls Try.prog 11 #[.int .i64 (clS s), .int .i64 0, .int .i64 n] w fun e w' => e = .returned (.int .i64 (twd (clS s) 0 n)) ∧ w = w') := Lib.hid (fun n w hn => refToward_any (clS s) 0 n w (by omega) (by decide) (by omega))
  have SU : Hid (∀ w, Calls Try.prog 13 #[.int .i64 d, .int .i64 (clL l)] w fun e w' => e = .returned (.int .i64 (sat64 (d - clL l))) ∧ w = w') := Lib.hid (fun w => refSub_any d (clL l) w hd (by omega))
  have sb := sat64_bd (d - clL l)
  have RA : Hid (∀ w, Calls Try.prog 12 #[.int .i64 (sat64 (d - clL l)), .int .i64 (clL l)] w fun e w' => e = .returned (.int .i64 (rto (sat64 (d - clL l)) (clL l))) ∧ Below w.heap.size w w') := Lib.hid (fun w => refRatio_any _ _ w sb (by omega))
  have bR := rto_bd (sat64 (d - clL l)) (clL l)
  have bB := clBy_bd d l
  have q1 : (rto (sat64 (d - clL l)) (clL l)).tdiv 4 = clBy d l := Int.tdiv_eq_ediv_of_nonneg bR.1
  have HM : min (clS s + clBy d l) 2097152 = clUp s d l := by unfold clUp; split <;> omega
  obtain ⟨m1, m2, m3⟩ := rnMin_is HM
  have q2 : IntKind.i64.wrap (clBy d l) = clBy d l := by rw [IntKind.wrap_i64]; omega
  have q3 : wrap64 (clBy d l) = clBy d l := by unfold wrap64; omega
  have q4 : IntKind.i64.wrap (clS s + clBy d l) = clS s + clBy d l := by rw [IntKind.wrap_i64]; omega
  have q5 : wrap64 (clS s + clBy d l) = clS s + clBy d l := by unfold wrap64; omega
  have Z := Lib.hid (cl_start w s)
  have C0 : Hid (clR s false d l = twd (clS s) 0 6) := Lib.hid rfl
  have C1 : Hid (d ≤ clL l → clR s true d l = twd (clS s) 0 3) := Lib.hid clR_shallow
  have C2 : Hid (¬ d ≤ clL l → clR s true d l = clUp s d l) := Lib.hid clR_deep
  obtain ⟨X, hX⟩ : ∃ X, clS s + clBy d l = X := ⟨_, rfl⟩
  rw [hX] at q4 q5 m1 m2 m3 HM
  generalize clUp s d l = U at *
  generalize clBy d l = B at *
  generalize rto (sat64 (d - clL l)) (clL l) = R at *
  generalize sat64 (d - clL l) = D at *
  generalize clL l = L at *
  generalize clS s = C at *
  clear bs bl sb bR bB HM
  cases m with
  | false =>
    rw [C0.out]
    clear C0 C1 C2 m1 m2 m3 q1 q2 q3 q4 q5 hX SU RA
    have T6 : Hid (∀ w, Calls Try.prog 11 #[.int .i64 C, .int .i64 0, .int .i64 6] w fun e w' => e = .returned (.int .i64 (twd C 0 6)) ∧ w = w') := Lib.hid (fun w => TW.out 6 w (by decide))
    generalize twd C 0 6 = T at *
    clear TW
    rcases LL with ⟨hl1, rfl⟩ | ⟨hl1, rfl⟩
    all_goals
      go_enter Try.func6, Try.ntmps6
      go_wp2_with (go_at_call 11; refine (T6.out _).mono ?_; rintro e w1 ⟨rfl, rfl⟩)
      exact bodyPost_ret (v := .agg #[.int .i64 T]) (by simp [results, Try.results6, go_sem]) rfl ⟨rfl, new_alloc (new_alloc (new_refl w) _) _⟩
  | true =>
    by_cases h : d ≤ L
    · rw [C1.out h]
      clear C0 C1 C2 m1 m2 m3 q1 q2 q3 q4 q5 hX SU RA
      have T3 : Hid (∀ w, Calls Try.prog 11 #[.int .i64 C, .int .i64 0, .int .i64 3] w fun e w' => e = .returned (.int .i64 (twd C 0 3)) ∧ w = w') := Lib.hid (fun w => TW.out 3 w (by decide))
      generalize twd C 0 3 = T at *
      clear TW
      rcases LL with ⟨hl1, rfl⟩ | ⟨hl1, rfl⟩
      all_goals
        go_enter Try.func6, Try.ntmps6
        go_wp2_with (go_at_call 11; refine (T3.out _).mono ?_; rintro e w1 ⟨rfl, rfl⟩)
        exact bodyPost_ret (v := .agg #[.int .i64 T]) (by simp [results, Try.results6, go_sem]) rfl ⟨rfl, new_alloc (new_alloc (new_refl w) _) _⟩
    · rw [C2.out h]
      clear C0 C1 C2 TW
      rcases LL with ⟨hl1, rfl⟩ | ⟨hl1, rfl⟩
      all_goals
        go_enter Try.func6, Try.ntmps6
        go_wp2_with (first
          | (go_at_call 13; refine (SU.out _).mono ?_; rintro e w1 ⟨rfl, rfl⟩)
          | (go_at_call 12; refine (RA.out _).mono ?_; rintro e w2 ⟨rfl, B2⟩
             have K := Lib.hid (Z.out.kept B2)
             have Y := Lib.hid (K.out.setR U)
             have x0 := K.out.res.cell 0 rfl; have f0 := K.out.res.frozen 0))
        have z0 := Y.out.res.cell 0 rfl
        exact bodyPost_ret (v := .agg #[.int .i64 U]) (by simp [results, Try.results6, go_sem, z0]) rfl ⟨rfl, Y.out.low⟩

theorem eqlK1 (t : Int) (w : World) : (binOp .eql 23 (.agg #[.int .i64 t]) (.agg #[.int .i64 t])).run Try.prog w = .ok (.bool true) w := by
  rw [run_eql_struct, show (10000 : Nat) = 9999 + 1 from rfl, run_equalIn_agg w 9999 _ _ _ (by kernel_rfl) (by kernel_rfl)]
  simp only [Program.fieldsOf, Try.underlying23]
  go_simp
theorem works27_any (w : World) : Calls Try.prog 8 #[] w fun e w' => e = .returned (.bool true) ∧ Below w.heap.size w w' := by
  have RO : Hid (∀ w, Calls Try.prog 5 #[.agg #[.int .i64 0], .bool true, .int .i64 10000, .int .i64 5000] w fun e w' => e = .returned (.agg #[.int .i64 262144]) ∧ Below w.heap.size w w') := Lib.hid (fun w => by
    have h := round27_any 0 true 10000 5000 w (by decide) (by decide)
    rwa [show clR 0 true 10000 5000 = 262144 by decide +kernel] at h)
  have OL : Hid (∀ w, Calls Try.prog 7 #[.agg #[.int .i64 1048576]] w fun e w' => e = .returned (.bool true) ∧ Below w.heap.size w w') := Lib.hid (fun w => old27_any 1048576 w)
  have hfd : ∀ w : World, (Instr.field 23 (.agg #[.int .i64 262144]) 0).run Try.prog w = .ok (.int .i64 262144) w := fun _ => by kernel_rfl
  go_enter Try.func8, Try.ntmps8
  go_wp2_with (first
    | (go_at_call 5; refine (RO.out _).mono ?_; rintro e w1 ⟨rfl, B1⟩)
    | (go_at_call 7; refine (OL.out _).mono ?_; rintro e w2 ⟨rfl, B2⟩))
  go_ret
  exact ⟨rfl, new_then B1 B2⟩
end Go.Proofs.Ytmmccaaocfbdlaa
