/- Package pacer: Fill, When, Spend, Rate. -/
import Derived.Test.YtimipikabedjnaaPacB
namespace Go.Proofs.Ytimipikabedjnaa
open Go.ChangeShapes Go.WideShapes Go.ChangeAt Go.RowKit
set_option linter.unusedVariables false

theorem minP_is {X M W : Int} (h : min X M = W) : (if X < M then X else M) = W ∧ (if M < X then M else X) = W ∧ min X M = W := by
  refine ⟨?_, ?_, h⟩ <;> (split <;> omega)
set_option maxHeartbeats 2000000 in
theorem fill23_any (c : Pc) (n : Int) (w : World) : Calls Try.prog 7 #[pcG' c, .int .i64 n] w (PcIs w (pcFill c n)) := by
  have bu := pcE_bd c.u
  have br := pcE_bd c.r
  have bl := pcL_bd c
  have bf := pcF_bd c.u
  have ba := pcN_bd c.a
  have bn := pcN_bd n
  unfold PcIs
  have IN : Hid (∀ w, Calls Try.prog 18 #[.agg #[.int .i64 c.r, .int .i64 c.u, .int .i64 c.l, .int .i64 c.a]] w fun e w' => e = .returned (.agg #[.int .i64 (pcE c.r), .int .i64 (pcE c.u), .int .i64 (pcL c), .int .i64 (pcN c.a)]) ∧ Below w.heap.size w w') := Lib.hid (fun w => within23_any c w)
  have CO : Hid (∀ w, Calls Try.prog 19 #[.int .i64 n] w fun e w' => e = .returned (.int .i64 (pcN n)) ∧ Below w.heap.size w w') := Lib.hid (fun w => counted23_any n w)
  have FU : Hid (∀ w, Calls Try.prog 23 #[.agg #[.int .i64 (pcE c.r), .int .i64 (pcE c.u), .int .i64 (pcL c), .int .i64 (pcN c.a)]] w fun e w' => e = .returned (.int .i64 (pcF c.u)) ∧ Below w.heap.size w w') := Lib.hid (fun w => full23_any _ _ _ _ w bu)
  have S := Lib.hid (pc_start w c)
  have SM : Hid (pcN n ≤ pcN c.a → pcFill c n = pcIn c) := Lib.hid pcFill_same
  have FL : Hid (¬ pcN n ≤ pcN c.a → pcFill c n = ⟨pcE c.r, pcE c.u, pcFl c n, pcN n⟩ ∧ min (sat64 (pcL c + sat64 (pcE c.r * (pcN n - pcN c.a)))) (pcF c.u) = pcFl c n) := Lib.hid (fun h => by
    have hm : pcM c n = pcN n := by unfold pcM; omega
    have h2 := pcFl_sat c n
    rw [hm] at h2
    refine ⟨?_, h2⟩
    unfold pcFill
    rw [hm])
  unfold pcIn at SM
  generalize pcFill c n = Q at *
  generalize pcFl c n = Y at *
  generalize pcE c.r = R at *
  generalize pcE c.u = U at *
  generalize pcF c.u = F at *
  generalize pcL c = L at *
  generalize pcN c.a = A at *
  generalize pcN n = X at *
  unfold pcG'
  go_enter Try.func7, Try.ntmps7
  go_upto_region 2 with (first
    | (go_at_call 18; refine (IN.out _).mono ?_; rintro e w1 ⟨rfl, B1⟩
       have K := Lib.hid (S.out.kept B1)
       have V := Lib.hid (K.out.setC ⟨R, U, L, A⟩)
       have c0 := K.out.cur.cell 0 rfl; have c1 := K.out.cur.cell 1 rfl; have c2 := K.out.cur.cell 2 rfl; have c3 := K.out.cur.cell 3 rfl; have f0 := K.out.cur.frozen 0; have f1 := K.out.cur.frozen 1; have f2 := K.out.cur.frozen 2; have f3 := K.out.cur.frozen 3))
  obtain ⟨W2, hW2⟩ : ∃ W2, (((w1.setCell ⟨w.heap.size, 0, none⟩ (.int .i64 R)).setCell ⟨w.heap.size, 1, none⟩ (.int .i64 U)).setCell ⟨w.heap.size, 2, none⟩ (.int .i64 L)).setCell ⟨w.heap.size, 3, none⟩ (.int .i64 A) = W2 := ⟨_, rfl⟩
  replace V : Hid (PcAt w W2 ⟨R, U, L, A⟩ pcO) := Lib.hid (by rw [← hW2]; exact V.out)
  rw [hW2]
  clear hW2 c0 c1 c2 c3 f0 f1 f2 f3 K B1 S IN
  go_upto_region 3 with (first
    | (go_at_call 19; refine (CO.out _).mono ?_; rintro e w3 ⟨rfl, B3⟩
       have S3 := Lib.hid (V.out.kept B3)
       have c0 := S3.out.cur.cell 0 rfl; have c1 := S3.out.cur.cell 1 rfl; have c2 := S3.out.cur.cell 2 rfl; have c3 := S3.out.cur.cell 3 rfl; have f0 := S3.out.cur.frozen 0; have f1 := S3.out.cur.frozen 1; have f2 := S3.out.cur.frozen 2; have f3 := S3.out.cur.frozen 3))
  clear V B3 CO
  by_cases hle : X ≤ A
  · have e := SM.out (by omega)
    subst e
    have Z := Lib.hid (S3.out.setR ⟨R, U, L, A⟩)
    have r0 := S3.out.res.cell 0 rfl; have r1 := S3.out.res.cell 1 rfl; have r2 := S3.out.res.cell 2 rfl; have r3 := S3.out.res.cell 3 rfl; have q0 := S3.out.res.frozen 0; have q1 := S3.out.res.frozen 1; have q2 := S3.out.res.frozen 2; have q3 := S3.out.res.frozen 3
    go_wp2_with fail
    exact bodyPost_ret (v := .agg #[.int .i64 R, .int .i64 U, .int .i64 L, .int .i64 A]) (by simp [results, Try.results7, go_sem, r0, r1, r2, r3]) rfl ⟨rfl, Z.out.low⟩
  · obtain ⟨e, hmin⟩ := FL.out (by omega)
    subst e
    have HM := Lib.hid hmin
    clear hmin SM FL
    have SB : Hid (∀ w, Calls Try.prog 21 #[.int .i64 X, .int .i64 A] w fun e w' => e = .returned (.int .i64 (X - A)) ∧ w = w') := Lib.hid (fun w => by
      have h := satSub_any X A w (by omega) (by omega)
      rwa [sat64_mid _ (by omega) (by omega)] at h)
    have MU : Hid (∀ w, Calls Try.prog 20 #[.int .i64 R, .int .i64 (X - A)] w fun e w' => e = .returned (.int .i64 (sat64 (R * (X - A)))) ∧ w = w') := Lib.hid (fun w => satMul_any _ _ w (by omega) (by omega))
    have bD := sat64_bd (R * (X - A))
    generalize sat64 (R * (X - A)) = D at *
    have AD : Hid (∀ w, Calls Try.prog 22 #[.int .i64 L, .int .i64 D] w fun e w' => e = .returned (.int .i64 (sat64 (L + D))) ∧ w = w') := Lib.hid (fun w => satAdd_any _ _ w (by omega) (by omega))
    generalize sat64 (L + D) = G at *
    obtain ⟨m1, m2, m3⟩ := minP_is HM.out
    clear HM bu br bl bf ba bn bD
    go_upto_region 5 with fail
    have e0 := cell_by c0
    have e3 := cell_by c3
    refine wp_region_quiet_below (by kernel_rfl) (by kernel_rfl) ?_
    repeat (go_big_quiet_step (first
      | (go_at_call 21; refine calls_by_same (SB.out _))
      | (go_at_call 20; refine calls_by_same (MU.out _))))
    refine wpQuiet_nil ?_
    intro wq hw'
    obtain ⟨⟨wr, Bq⟩, hw''⟩ := hw'
    subst hw''
    have S5 := Lib.hid (S3.out.kept Bq)
    clear e0 e3 c0 c1 c2 c3 f0 f1 f2 f3 Bq S3
    have c0 := S5.out.cur.cell 0 rfl; have c1 := S5.out.cur.cell 1 rfl; have c2 := S5.out.cur.cell 2 rfl; have c3 := S5.out.cur.cell 3 rfl
    go_upto_region 6 with fail
    go_cut [] (fun wx => PcAt w wx ⟨R, U, Y, A⟩ pcO)
    case first =>
      go_region_with (first
        | (go_at_call 22; refine (AD.out _).mono ?_; rintro e w5 ⟨rfl, rfl⟩)
        | (go_at_call 23; refine (FU.out _).mono ?_; rintro e w6 ⟨rfl, B6⟩
           replace B6 := new_undrew B6
           have K6 := Lib.hid (S5.out.kept B6)
           have V := Lib.hid (K6.out.set2 Y)
           have k62 := K6.out.cur.cell 2 rfl
           have n62 := K6.out.cur.frozen 2))
      all_goals
        go_wp2_with fail
        go_meet
        exact V.out
    case rest =>
      have S6 := Lib.hid hcut
      clear hcut S5 c0 c1 c2 c3
      have c0 := S6.out.cur.cell 0 rfl; have c1 := S6.out.cur.cell 1 rfl; have c2 := S6.out.cur.cell 2 rfl; have c3 := S6.out.cur.cell 3 rfl; have f0 := S6.out.cur.frozen 0; have f1 := S6.out.cur.frozen 1; have f2 := S6.out.cur.frozen 2; have f3 := S6.out.cur.frozen 3
      have S7 := Lib.hid (S6.out.set3 X)
      go_upto_region 8 with fail
      obtain ⟨W8, hW8⟩ : ∃ W8, wc.setCell ⟨w.heap.size, 3, none⟩ (.int .i64 X) = W8 := ⟨_, rfl⟩
      replace S7 : Hid (PcAt w W8 ⟨R, U, Y, X⟩ pcO) := Lib.hid (by rw [← hW8]; exact S7.out)
      rw [hW8]
      clear hW8 c0 c1 c2 c3 f0 f1 f2 f3 S6
      have d0 := S7.out.cur.cell 0 rfl; have d1 := S7.out.cur.cell 1 rfl; have d2 := S7.out.cur.cell 2 rfl; have d3 := S7.out.cur.cell 3 rfl
      have Z := Lib.hid (S7.out.setR ⟨R, U, Y, X⟩)
      have r0 := S7.out.res.cell 0 rfl; have r1 := S7.out.res.cell 1 rfl; have r2 := S7.out.res.cell 2 rfl; have r3 := S7.out.res.cell 3 rfl; have q0 := S7.out.res.frozen 0; have q1 := S7.out.res.frozen 1; have q2 := S7.out.res.frozen 2; have q3 := S7.out.res.frozen 3
      go_wp2_with fail
      exact bodyPost_ret (v := .agg #[.int .i64 R, .int .i64 U, .int .i64 Y, .int .i64 X]) (by simp [results, Try.results7, go_sem, r0, r1, r2, r3]) rfl ⟨rfl, Z.out.low⟩
end Go.Proofs.Ytimipikabedjnaa
