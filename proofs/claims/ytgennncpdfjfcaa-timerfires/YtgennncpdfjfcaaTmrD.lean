/- The document's own answers of layer 22: armed, and does it go off; timers compared; the chapter's example. -/
import Derived.Test.YtgennncpdfjfcaaTmrB
import Derived.Test.YtgennncpdfjfcaaTmrC
namespace Go.Proofs.Ytgennncpdfjfcaa
open Go.ChangeShapes Go.WideShapes Go.ChangeAt Go.RowKit
set_option linter.unusedVariables false

set_option maxHeartbeats 1000000 in
theorem arm22R_any (c : Tm) (n : Int) (w : World) : Calls Try.prog 10 #[tmG c, .int .i64 n] w (TmIs w (tmArm c n)) := by
  have bW := tmW_bd c
  have bM := tmM_bd c
  have bB := tmB_bd c
  have bN := tmNow_bd n
  unfold TmIs tmG tmArm
  have WA : Hid (∀ w, Calls Try.prog 8 #[.agg #[.int .i64 (tmB c), .int .i64 (tmM c), .int .i64 (tmT c), .int .i64 c.d]] w fun e w' => e = .returned (.int .i64 (tmW c)) ∧ Below w.heap.size w w') := Lib.hid (fun w => by
    have h := wait22R_any (tmIn c) w
    rw [tmW_in] at h
    exact h)
  have IN : Hid (∀ w, Calls Try.prog 6 #[.agg #[.int .i64 c.b, .int .i64 c.m, .int .i64 c.t, .int .i64 c.d]] w fun e w' => e = .returned (.agg #[.int .i64 (tmB c), .int .i64 (tmM c), .int .i64 (tmT c), .int .i64 c.d]) ∧ Below w.heap.size w w') := Lib.hid (fun w => within22R_any c w)
  have CO : Hid (∀ w, Calls Try.prog 20 #[.int .i64 n] w fun e w' => e = .returned (.int .i64 (tmNow n)) ∧ w = w') := Lib.hid (fun w => near22_any n w)
  have S := Lib.hid (tm_start w c)
  obtain ⟨D, eD⟩ : ∃ D, tmNow n + tmW c = D := ⟨_, rfl⟩
  have bD : -9223372036854775808 ≤ D ∧ D ≤ 9223372036854775807 := by omega
  rw [eD]
  clear bW bM bB bN
  generalize tmB c = B at *
  generalize tmM c = M at *
  generalize tmT c = T at *
  generalize tmW c = W at *
  generalize tmNow n = X at *
  have wD : IntKind.i64.wrap D = D := by rw [IntKind.wrap_i64]; omega
  go_enter Try.func10, Try.ntmps10
  go_upto_region 2 with (first
    | (go_at_call 6; refine (IN.out _).mono ?_; rintro e w1 ⟨rfl, B1⟩
       have K := S.out.kept B1
       have U := Lib.hid (K.setC ⟨B, M, T, c.d⟩)
       have c0 := K.cur.cell 0 rfl; have c1 := K.cur.cell 1 rfl; have c2 := K.cur.cell 2 rfl; have c3 := K.cur.cell 3 rfl; have f0 := K.cur.frozen 0; have f1 := K.cur.frozen 1; have f2 := K.cur.frozen 2; have f3 := K.cur.frozen 3
       clear K))
  obtain ⟨W2, hW2⟩ : ∃ W2, (((w1.setCell ⟨w.heap.size, 0, none⟩ (.int .i64 B)).setCell ⟨w.heap.size, 1, none⟩ (.int .i64 M)).setCell ⟨w.heap.size, 2, none⟩ (.int .i64 T)).setCell ⟨w.heap.size, 3, none⟩ (.int .i64 c.d) = W2 := ⟨_, rfl⟩
  rw [hW2] at U ⊢
  clear c0 c1 c2 c3 f0 f1 f2 f3 B1 hW2
  have d0 := U.out.cur.cell 0 rfl; have d1 := U.out.cur.cell 1 rfl; have d2 := U.out.cur.cell 2 rfl; have d3 := U.out.cur.cell 3 rfl; have g0 := U.out.cur.frozen 0; have g1 := U.out.cur.frozen 1; have g2 := U.out.cur.frozen 2; have g3 := U.out.cur.frozen 3
  go_region_with (first
    | (go_at_call 20; refine (CO.out _).mono ?_; rintro e w3 ⟨rfl, rfl⟩)
    | (go_at_call 8; refine (WA.out _).mono ?_; rintro e w4 ⟨rfl, B4⟩
       replace B4 := new_undrew B4
       have K4 := U.out.kept B4
       have V := Lib.hid (K4.setD D)
       have h3 := K4.cur.cell 3 rfl
       have k3 := K4.cur.frozen 3
       clear K4))
  all_goals
    have e0 := V.out.cur.cell 0 rfl; have e1 := V.out.cur.cell 1 rfl; have e2 := V.out.cur.cell 2 rfl; have e3 := V.out.cur.cell 3 rfl
    have R := Lib.hid (V.out.setR ⟨B, M, T, D⟩)
    have r0 := V.out.res.cell 0 rfl; have r1 := V.out.res.cell 1 rfl; have r2 := V.out.res.cell 2 rfl; have r3 := V.out.res.cell 3 rfl; have q0 := V.out.res.frozen 0; have q1 := V.out.res.frozen 1; have q2 := V.out.res.frozen 2; have q3 := V.out.res.frozen 3
    clear d0 d1 d2 d3 g0 g1 g2 g3 U B4 h3 k3 WA IN S V
    obtain ⟨W5, hW5⟩ : ∃ W5, w4.setCell ⟨w.heap.size, 3, none⟩ (.int .i64 D) = W5 := ⟨_, rfl⟩
    rw [hW5] at e0 e1 e2 e3 r0 r1 r2 r3 q0 q1 q2 q3 R ⊢
    clear hW5
    go_wp2_with fail
    exact bodyPost_ret (v := .agg #[.int .i64 B, .int .i64 M, .int .i64 T, .int .i64 D]) (by simp [results, Try.results10, go_sem, r0, r1, r2, r3]) rfl ⟨rfl, R.out.low⟩

set_option maxHeartbeats 2000000 in
theorem fire22R_any (c : Tm) (n : Int) (w : World) : Calls Try.prog 15 #[tmG c, .int .i64 n] w (TmWas w (tmFire c n) (tmGoes c n)) := by
  have tb := tmT_bd c
  unfold TmWas
  have IN : Hid (∀ w, Calls Try.prog 6 #[.agg #[.int .i64 c.b, .int .i64 c.m, .int .i64 c.t, .int .i64 c.d]] w fun e w' => e = .returned (.agg #[.int .i64 (tmB c), .int .i64 (tmM c), .int .i64 (tmT c), .int .i64 c.d]) ∧ Below w.heap.size w w') := Lib.hid (fun w => within22R_any c w)
  have CO : Hid (∀ w, Calls Try.prog 20 #[.int .i64 n] w fun e w' => e = .returned (.int .i64 (tmNow n)) ∧ w = w') := Lib.hid (fun w => near22_any n w)
  have S := Lib.hid (tm_start w c)
  obtain ⟨T1, hT1⟩ : ∃ T1, (tmT c < 32 ∧ tmT c + 1 = T1 ∨ ¬ tmT c < 32 ∧ tmT c = T1) := by
    by_cases h : tmT c < 32
    · exact ⟨_, .inl ⟨h, rfl⟩⟩
    · exact ⟨_, .inr ⟨h, rfl⟩⟩
  obtain ⟨f1, f2, f3, f4⟩ : tmB ⟨tmB c, tmM c, T1, c.d⟩ = tmB c ∧ tmM ⟨tmB c, tmM c, T1, c.d⟩ = tmM c ∧ tmT ⟨tmB c, tmM c, T1, c.d⟩ = T1 ∧ tmT ⟨tmB c, tmM c, tmT c + 1, c.d⟩ = T1 := by
    have i1 := tmB_in c
    have i2 := tmM_in c
    refine ⟨i1, i2, clampI_in (show 0 ≤ T1 by omega) (show T1 ≤ 32 by omega), ?_⟩
    unfold tmT at *
    unfold clampI at *
    dsimp only at *
    split <;> (try split) <;> omega
  have fw : tmW ⟨tmB c, tmM c, tmT c + 1, c.d⟩ = tmW ⟨tmB c, tmM c, T1, c.d⟩ := by
    unfold tmW
    rw [f3, f4]
    rfl
  have ea : tmArm ⟨tmB c, tmM c, tmT c + 1, c.d⟩ n = ⟨tmB c, tmM c, T1, tmNow n + tmW ⟨tmB c, tmM c, T1, c.d⟩⟩ := by
    have g1 : tmB ⟨tmB c, tmM c, tmT c + 1, c.d⟩ = tmB c := f1
    have g2 : tmM ⟨tmB c, tmM c, tmT c + 1, c.d⟩ = tmM c := f2
    unfold tmArm
    rw [fw, f4, g1, g2]
  have bW := tmW_bd ⟨tmB c, tmM c, T1, c.d⟩
  have bM := tmM_bd ⟨tmB c, tmM c, T1, c.d⟩
  have bB := tmB_bd ⟨tmB c, tmM c, T1, c.d⟩
  have bN := tmNow_bd n
  have WA : Hid (∀ w, Calls Try.prog 8 #[.agg #[.int .i64 (tmB c), .int .i64 (tmM c), .int .i64 T1, .int .i64 c.d]] w fun e w' => e = .returned (.int .i64 (tmW ⟨tmB c, tmM c, T1, c.d⟩)) ∧ Below w.heap.size w w') := Lib.hid (fun w => wait22R_any ⟨tmB c, tmM c, T1, c.d⟩ w)
  generalize tmW ⟨tmB c, tmM c, T1, c.d⟩ = W at *
  obtain ⟨D, eD⟩ : ∃ D, tmNow n + W = D := ⟨_, rfl⟩
  have wD : IntKind.i64.wrap D = D := by rw [IntKind.wrap_i64]; omega
  have E : Hid ((tmGoes c n = false ∧ tmFire c n = ⟨tmB c, tmM c, tmT c, c.d⟩ ∧ (c.d < 0 ∨ ¬ c.d < 0 ∧ tmNow n < c.d)) ∨ (tmGoes c n = true ∧ tmFire c n = ⟨tmB c, tmM c, T1, D⟩ ∧ ¬ c.d < 0 ∧ ¬ tmNow n < c.d)) := Lib.hid (by
    unfold tmFire
    cases hg : tmGoes c n
    · refine .inl ⟨rfl, by simp [tmIn], ?_⟩
      unfold tmGoes at hg; simp at hg; omega
    · refine .inr ⟨rfl, by simp [ea, eD], ?_⟩
      unfold tmGoes at hg; simp at hg; omega)
  have HT1 := Lib.hid hT1
  clear f1 f2 f3 f4 fw ea bW bM bB bN hT1
  generalize tmFire c n = F at *
  generalize tmGoes c n = G at *
  generalize tmB c = B at *
  generalize tmM c = M at *
  generalize tmT c = T at *
  generalize tmNow n = X at *
  unfold tmG at *
  go_enter Try.func15, Try.ntmps15
  go_upto_region 2 with (first
    | (go_at_call 6; refine (IN.out _).mono ?_; rintro e w1 ⟨rfl, B1⟩
       have K := S.out.kept B1
       have U := Lib.hid (K.setC ⟨B, M, T, c.d⟩)
       have c0 := K.cur.cell 0 rfl; have c1 := K.cur.cell 1 rfl; have c2 := K.cur.cell 2 rfl; have c3 := K.cur.cell 3 rfl; have f0 := K.cur.frozen 0; have f1 := K.cur.frozen 1; have f2 := K.cur.frozen 2; have f3 := K.cur.frozen 3
       clear K))
  obtain ⟨W2, hW2⟩ : ∃ W2, (((w1.setCell ⟨w.heap.size, 0, none⟩ (.int .i64 B)).setCell ⟨w.heap.size, 1, none⟩ (.int .i64 M)).setCell ⟨w.heap.size, 2, none⟩ (.int .i64 T)).setCell ⟨w.heap.size, 3, none⟩ (.int .i64 c.d) = W2 := ⟨_, rfl⟩
  rw [hW2] at U ⊢
  clear c0 c1 c2 c3 f0 f1 f2 f3 B1 hW2 IN S
  have d3 := U.out.cur.cell 3 rfl
  have e3 := cell_by d3
  rcases E.out with ⟨rfl, rfl, h1 | ⟨h1, h2⟩⟩ | ⟨rfl, rfl, h1, h2⟩
  case' inl.inl => have k1 : decide (c.d < 0) = true := by simpa using h1
  case' inl.inr => have k1 : decide (c.d < 0) = false := by simpa using h1
  case' inl.inr => have k2 : decide (X < c.d) = true := by simpa using h2
  case' inr => have k1 : decide (c.d < 0) = false := by simpa using h1
  case' inr => have k2 : decide (X < c.d) = false := by simpa using h2
  all_goals
    clear E
    refine wp_region_quiet_below (by kernel_rfl) (by kernel_rfl) ?_
    repeat (go_big_quiet_step (first
      | (go_at_call 20; refine calls_by_same (CO.out _))))
    refine wpQuiet_nil ?_
    intro wq hw'
    obtain ⟨⟨wr, Bq⟩, hw''⟩ := hw'
    subst hw''
    have V := Lib.hid (U.out.kept Bq)
    clear d3 e3 U
    have d0 := V.out.cur.cell 0 rfl; have d1 := V.out.cur.cell 1 rfl; have d2 := V.out.cur.cell 2 rfl; have d3 := V.out.cur.cell 3 rfl; have g0 := V.out.cur.frozen 0; have g1 := V.out.cur.frozen 1; have g2 := V.out.cur.frozen 2; have g3 := V.out.cur.frozen 3
  case inl.inl | inl.inr =>
    have R := Lib.hid (V.out.setR ⟨B, M, T, c.d⟩)
    have r0 := V.out.res.cell 0 rfl; have r1 := V.out.res.cell 1 rfl; have r2 := V.out.res.cell 2 rfl; have r3 := V.out.res.cell 3 rfl; have q0 := V.out.res.frozen 0; have q1 := V.out.res.frozen 1; have q2 := V.out.res.frozen 2; have q3 := V.out.res.frozen 3
    clear V
    go_wp2_with fail
    exact bodyPost_ret (v := .tuple #[.agg #[.int .i64 B, .int .i64 M, .int .i64 T, .int .i64 c.d], .bool false]) (by simp [results, Try.results15, go_sem, r0, r1, r2, r3]) rfl ⟨rfl, R.out.low⟩
  case inr =>
    go_upto_if 21 with fail
    go_cut [] (fun wx => TmAt w wx ⟨B, M, T1, c.d⟩ tmZ)
    case first =>
      rcases HT1.out with ⟨t1, rfl⟩ | ⟨t1, rfl⟩
      · go_wp2_with fail
        go_meet
        case rel => exact ⟨V.out.cur.set 2 (.int .i64 (T + 1)), V.out.res.far (p := ⟨w.heap.size, 2, none⟩) (show w.heap.size + 1 ≠ w.heap.size by omega) _, new_set V.out.low (p := ⟨w.heap.size, 2, none⟩) (Nat.le_refl _) _⟩
      · go_wp2_with fail
        go_meet
        case rel => exact V.out
    case rest =>
      have U2 := Lib.hid hcut
      clear V hcut d0 d1 d2 d3 g0 g1 g2 g3 Bq
      have d0 := U2.out.cur.cell 0 rfl; have d1 := U2.out.cur.cell 1 rfl; have d2 := U2.out.cur.cell 2 rfl; have d3 := U2.out.cur.cell 3 rfl; have g0 := U2.out.cur.frozen 0; have g1 := U2.out.cur.frozen 1; have g2 := U2.out.cur.frozen 2; have g3 := U2.out.cur.frozen 3
      go_upto_region 6 with fail
      go_region_with (first
        | (go_at_call 20; refine (CO.out _).mono ?_; rintro e w3 ⟨rfl, rfl⟩)
        | (go_at_call 8; refine (WA.out _).mono ?_; rintro e w4 ⟨rfl, B4⟩
           replace B4 := new_undrew B4
           have K4 := U2.out.kept B4
           have Y := Lib.hid (K4.setD D)
           have h3 := K4.cur.cell 3 rfl
           have k3 := K4.cur.frozen 3
           clear K4))
      all_goals
        have e0 := Y.out.cur.cell 0 rfl; have e1 := Y.out.cur.cell 1 rfl; have e2 := Y.out.cur.cell 2 rfl; have e3 := Y.out.cur.cell 3 rfl
        have R := Lib.hid (Y.out.setR ⟨B, M, T1, D⟩)
        have r0 := Y.out.res.cell 0 rfl; have r1 := Y.out.res.cell 1 rfl; have r2 := Y.out.res.cell 2 rfl; have r3 := Y.out.res.cell 3 rfl; have q0 := Y.out.res.frozen 0; have q1 := Y.out.res.frozen 1; have q2 := Y.out.res.frozen 2; have q3 := Y.out.res.frozen 3
        clear d0 d1 d2 d3 g0 g1 g2 g3 U2 B4 h3 k3 WA Y
        obtain ⟨W5, hW5⟩ : ∃ W5, w4.setCell ⟨w.heap.size, 3, none⟩ (.int .i64 D) = W5 := ⟨_, rfl⟩
        rw [hW5] at e0 e1 e2 e3 r0 r1 r2 r3 q0 q1 q2 q3 R ⊢
        clear hW5
        go_wp2_with fail
        exact bodyPost_ret (v := .tuple #[.agg #[.int .i64 B, .int .i64 M, .int .i64 T1, .int .i64 D], .bool true]) (by simp [results, Try.results15, go_sem, r0, r1, r2, r3]) rfl ⟨rfl, R.out.low⟩

theorem eqlT (c : Tm) (w : World) : (binOp .eql 23 (tmG c) (tmG c)).run Try.prog w = .ok (.bool true) w := by
  unfold tmG
  rw [run_eql_struct, show (10000 : Nat) = 9999 + 1 from rfl, run_equalIn_agg w 9999 _ _ _ (by kernel_rfl) (by kernel_rfl)]
  simp only [Program.fieldsOf, Try.underlying23]
  go_simp

set_option maxHeartbeats 1000000 in
theorem works22_any (w : World) : Calls Try.prog 13 #[] w fun e w' => e = .returned (.bool true) ∧ Below w.heap.size w w' := by
  have AR : Hid (∀ w, Calls Try.prog 9 #[.agg #[.int .i64 10, .int .i64 35, .int .i64 0, .int .i64 0], .int .i64 0] w fun e w' => e = .returned (.agg #[.int .i64 10, .int .i64 35, .int .i64 0, .int .i64 10]) ∧ Below w.heap.size w w') := Lib.hid (fun w => by
    have h := arm22_any ⟨10, 35, 0, 0⟩ 0 w
    unfold TmIs at h
    rw [show tmArm ⟨10, 35, 0, 0⟩ 0 = ⟨10, 35, 0, 10⟩ by decide +kernel] at h
    exact h)
  have F1 : Hid (∀ w, Calls Try.prog 14 #[.agg #[.int .i64 10, .int .i64 35, .int .i64 0, .int .i64 10], .int .i64 10] w fun e w' => e = .returned (.tuple #[.agg #[.int .i64 10, .int .i64 35, .int .i64 1, .int .i64 30], .bool true]) ∧ Below w.heap.size w w') := Lib.hid (fun w => by
    have h := fire22_any ⟨10, 35, 0, 10⟩ 10 w
    unfold TmWas at h
    rw [show tmFire ⟨10, 35, 0, 10⟩ 10 = ⟨10, 35, 1, 30⟩ by decide +kernel, show tmGoes ⟨10, 35, 0, 10⟩ 10 = true by decide +kernel] at h
    exact h)
  have F2 : Hid (∀ w, Calls Try.prog 14 #[.agg #[.int .i64 10, .int .i64 35, .int .i64 1, .int .i64 30], .int .i64 30] w fun e w' => e = .returned (.tuple #[.agg #[.int .i64 10, .int .i64 35, .int .i64 2, .int .i64 65], .bool true]) ∧ Below w.heap.size w w') := Lib.hid (fun w => by
    have h := fire22_any ⟨10, 35, 1, 30⟩ 30 w
    unfold TmWas at h
    rw [show tmFire ⟨10, 35, 1, 30⟩ 30 = ⟨10, 35, 2, 65⟩ by decide +kernel, show tmGoes ⟨10, 35, 1, 30⟩ 30 = true by decide +kernel] at h
    exact h)
  go_enter Try.func13, Try.ntmps13
  go_wp2_with (first
    | (go_at_call_of 14 (Value.int .i64 30); refine (F2.out _).mono ?_; rintro e w3 ⟨rfl, B3⟩
       have K3 := K2.kept B3
       have K4 := tm_set K3 ⟨10, 35, 2, 65⟩
       have u0 := K3.cell 0 rfl; have u1 := K3.cell 1 rfl; have u2 := K3.cell 2 rfl; have u3 := K3.cell 3 rfl; have v0 := K3.frozen 0; have v1 := K3.frozen 1; have v2 := K3.frozen 2; have v3 := K3.frozen 3
       have z3 := K4.cell 3 rfl)
    | (go_at_call_of 14 (Value.int .i64 10); refine (F1.out _).mono ?_; rintro e w2 ⟨rfl, B2⟩
       have K1 := K0.kept B2
       have K2 := tm_set K1 ⟨10, 35, 1, 30⟩
       have m0 := K1.cell 0 rfl; have m1 := K1.cell 1 rfl; have m2 := K1.cell 2 rfl; have m3 := K1.cell 3 rfl; have n0 := K1.frozen 0; have n1 := K1.frozen 1; have n2 := K1.frozen 2; have n3 := K1.frozen 3
       have y0 := K2.cell 0 rfl; have y1 := K2.cell 1 rfl; have y2 := K2.cell 2 rfl; have y3 := K2.cell 3 rfl)
    | (go_at_call 9; refine (AR.out _).mono ?_; rintro e w1 ⟨rfl, B1⟩
       have K0 := Blk.new w1 (tmV ⟨10, 35, 0, 10⟩) 23))
  have L1 := lowT4 (new_then (new_alloc B1 (.cells #[.int .i64 10, .int .i64 35, .int .i64 0, .int .i64 10] 23)) B2) B1.size (.int .i64 10) (.int .i64 35) (.int .i64 1) (.int .i64 30)
  have L2 := lowT4 (new_then L1 B3) B1.size (.int .i64 10) (.int .i64 35) (.int .i64 2) (.int .i64 65)
  go_ret
  exact ⟨rfl, L2⟩
end Go.Proofs.Ytgennncpdfjfcaa
