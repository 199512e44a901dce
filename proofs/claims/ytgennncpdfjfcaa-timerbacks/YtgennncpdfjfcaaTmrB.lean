/- Package timer: does a timer go off now. -/
import Derived.Test.YtgennncpdfjfcaaTmrA
namespace Go.Proofs.Ytgennncpdfjfcaa
open Go.ChangeShapes Go.WideShapes Go.ChangeAt Go.RowKit
set_option linter.unusedVariables false

set_option maxHeartbeats 1000000 in
theorem fire22_any (c : Tm) (n : Int) (w : World) : Calls Try.prog 14 #[tmG c, .int .i64 n] w (TmWas w (tmFire c n) (tmGoes c n)) := by
  have tb := tmT_bd c
  unfold TmWas
  have IN : Hid (∀ w, Calls Try.prog 16 #[.agg #[.int .i64 c.b, .int .i64 c.m, .int .i64 c.t, .int .i64 c.d]] w fun e w' => e = .returned (.agg #[.int .i64 (tmB c), .int .i64 (tmM c), .int .i64 (tmT c), .int .i64 c.d]) ∧ Below w.heap.size w w') := Lib.hid (fun w => within22_any c w)
  have AR : Hid (∀ w, Calls Try.prog 9 #[.agg #[.int .i64 (tmB c), .int .i64 (tmM c), .int .i64 (tmT c + 1), .int .i64 c.d], .int .i64 n] w fun e w' => e = .returned (tmG (tmArm ⟨tmB c, tmM c, tmT c + 1, c.d⟩ n)) ∧ Below w.heap.size w w') := Lib.hid (fun w => arm22_any ⟨tmB c, tmM c, tmT c + 1, c.d⟩ n w)
  have CO : Hid (∀ w, Calls Try.prog 19 #[.int .i64 n] w fun e w' => e = .returned (.int .i64 (tmNow n)) ∧ w = w') := Lib.hid (fun w => counted22_any n w)
  have S := Lib.hid (tm_start w c)
  have E : Hid ((tmGoes c n = false ∧ tmFire c n = ⟨tmB c, tmM c, tmT c, c.d⟩ ∧ (c.d < 0 ∨ ¬ c.d < 0 ∧ tmNow n < c.d)) ∨ (tmGoes c n = true ∧ tmFire c n = tmArm ⟨tmB c, tmM c, tmT c + 1, c.d⟩ n ∧ ¬ c.d < 0 ∧ ¬ tmNow n < c.d)) := Lib.hid (by
    unfold tmFire
    cases hg : tmGoes c n
    · refine .inl ⟨rfl, by simp [tmIn], ?_⟩
      unfold tmGoes at hg; simp at hg; omega
    · refine .inr ⟨rfl, by simp, ?_⟩
      unfold tmGoes at hg; simp at hg; omega)
  generalize tmArm ⟨tmB c, tmM c, tmT c + 1, c.d⟩ n = D at *
  generalize tmFire c n = F at *
  generalize tmGoes c n = G at *
  generalize tmB c = B at *
  generalize tmM c = M at *
  generalize tmT c = T at *
  generalize tmNow n = X at *
  unfold tmG at *
  go_enter Try.func14, Try.ntmps14
  go_upto_region 2 with (first
    | (go_at_call 16; refine (IN.out _).mono ?_; rintro e w1 ⟨rfl, B1⟩
       have K := S.out.kept B1
       have U := Lib.hid (K.setC ⟨B, M, T, c.d⟩)
       have c0 := K.cur.cell 0 rfl; have c1 := K.cur.cell 1 rfl; have c2 := K.cur.cell 2 rfl; have c3 := K.cur.cell 3 rfl; have f0 := K.cur.frozen 0; have f1 := K.cur.frozen 1; have f2 := K.cur.frozen 2; have f3 := K.cur.frozen 3
       clear K))
  obtain ⟨W2, hW2⟩ : ∃ W2, (((w1.setCell ⟨w.heap.size, 0, none⟩ (.int .i64 B)).setCell ⟨w.heap.size, 1, none⟩ (.int .i64 M)).setCell ⟨w.heap.size, 2, none⟩ (.int .i64 T)).setCell ⟨w.heap.size, 3, none⟩ (.int .i64 c.d) = W2 := ⟨_, rfl⟩
  rw [hW2] at U ⊢
  clear c0 c1 c2 c3 f0 f1 f2 f3 B1 hW2 IN S
  have d3 := U.out.cur.cell 3 rfl
  have e3 := cell_by d3
  rcases E.out with ⟨rfl, rfl, h1 | ⟨h1, h2⟩⟩ | ⟨rfl, rfl, h1, h2⟩
  case' inl.inl => have k1 : decide (c.d < 0) = true := by simpa using h1
  case' inl.inr => have k1 : decide (c.d < 0) = false := by simpa using h1
  case' inl.inr => have k2 : decide (X < c.d) = true := by simpa using h2
  case' inr => have k1 : decide (c.d < 0) = false := by simpa using h1
  case' inr => have k2 : decide (X < c.d) = false := by simpa using h2
  all_goals
    clear E
    refine wp_region_quiet_below (by kernel_rfl) (by kernel_rfl) ?_
    repeat (go_big_quiet_step (first
      | (go_at_call 19; refine calls_by_same (CO.out _))))
    refine wpQuiet_nil ?_
    intro wq hw'
    obtain ⟨⟨wr, Bq⟩, hw''⟩ := hw'
    subst hw''
    have V := Lib.hid (U.out.kept Bq)
    clear d3 e3 U
    have d0 := V.out.cur.cell 0 rfl; have d1 := V.out.cur.cell 1 rfl; have d2 := V.out.cur.cell 2 rfl; have d3 := V.out.cur.cell 3 rfl; have g0 := V.out.cur.frozen 0; have g1 := V.out.cur.frozen 1; have g2 := V.out.cur.frozen 2; have g3 := V.out.cur.frozen 3
  case inl.inl | inl.inr =>
    have R := Lib.hid (V.out.setR ⟨B, M, T, c.d⟩)
    have r0 := V.out.res.cell 0 rfl; have r1 := V.out.res.cell 1 rfl; have r2 := V.out.res.cell 2 rfl; have r3 := V.out.res.cell 3 rfl; have q0 := V.out.res.frozen 0; have q1 := V.out.res.frozen 1; have q2 := V.out.res.frozen 2; have q3 := V.out.res.frozen 3
    clear V
    go_wp2_with fail
    exact bodyPost_ret (v := .tuple #[.agg #[.int .i64 B, .int .i64 M, .int .i64 T, .int .i64 c.d], .bool false]) (by simp [results, Try.results14, go_sem, r0, r1, r2, r3]) rfl ⟨rfl, R.out.low⟩
  case inr =>
    have O := Lib.hid ((⟨V.out.cur.set 2 (.int .i64 (T + 1)), V.out.res.far (p := ⟨w.heap.size, 2, none⟩) (show w.heap.size + 1 ≠ w.heap.size by omega) _, new_set V.out.low (p := ⟨w.heap.size, 2, none⟩) (Nat.le_refl _) _⟩ : TmAt w (wq.setCell ⟨w.heap.size, 2, none⟩ (.int .i64 (T + 1))) ⟨B, M, T + 1, c.d⟩ tmZ))
    clear V
    go_wp2_with (first
      | (go_at_call 9; refine (AR.out _).mono ?_; rintro e w5 ⟨rfl, B5⟩
         have K := O.out.kept B5
         have R := Lib.hid (K.setR F)
         have r0 := K.res.cell 0 rfl; have r1 := K.res.cell 1 rfl; have r2 := K.res.cell 2 rfl; have r3 := K.res.cell 3 rfl; have q0 := K.res.frozen 0; have q1 := K.res.frozen 1; have q2 := K.res.frozen 2; have q3 := K.res.frozen 3
         clear K))
    exact bodyPost_ret (v := .tuple #[.agg #[.int .i64 F.b, .int .i64 F.m, .int .i64 F.t, .int .i64 F.d], .bool true]) (by simp [results, Try.results14, go_sem, r0, r1, r2, r3]) rfl ⟨rfl, R.out.low⟩
end Go.Proofs.Ytgennncpdfjfcaa
