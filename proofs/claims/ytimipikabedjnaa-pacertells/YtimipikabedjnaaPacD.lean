/- Package pacer: When, Spend, Rate. -/
import Derived.Test.YtimipikabedjnaaPacC
import Derived.Laws.Cover1
namespace Go.Proofs.Ytimipikabedjnaa
open Go.ChangeShapes Go.WideShapes Go.ChangeAt Go.RowKit
set_option linter.unusedVariables false

set_option maxHeartbeats 2000000 in
theorem when23_any (c : Pc) (n s : Int) (w : World) : Calls Try.prog 12 #[pcG' c, .int .i64 n, .int .i64 s] w fun e w' => e = .returned (.int .i64 (pcWhen c n s)) ∧ Below w.heap.size w w' := by
  have bu := pcE_bd c.u
  have br := pcE_bd c.r
  have bl := pcL_bd c
  have bf := pcF_bd c.u
  have bt := pcT_bd c s
  have ba := pcN_bd c.a
  have bn := pcN_bd n
  have IN : Hid (∀ w, Calls Try.prog 18 #[.agg #[.int .i64 c.r, .int .i64 c.u, .int .i64 c.l, .int .i64 c.a]] w fun e w' => e = .returned (.agg #[.int .i64 (pcE c.r), .int .i64 (pcE c.u), .int .i64 (pcL c), .int .i64 (pcN c.a)]) ∧ Below w.heap.size w w') := Lib.hid (fun w => within23_any c w)
  have CO : Hid (∀ w, Calls Try.prog 19 #[.int .i64 n] w fun e w' => e = .returned (.int .i64 (pcN n)) ∧ Below w.heap.size w w') := Lib.hid (fun w => counted23_any n w)
  have TK : Hid (∀ w, Calls Try.prog 24 #[.agg #[.int .i64 (pcE c.r), .int .i64 (pcE c.u), .int .i64 (pcL c), .int .i64 (pcN c.a)], .int .i64 s] w fun e w' => e = .returned (.int .i64 (pcT c s)) ∧ Below w.heap.size w w') := Lib.hid (fun w => taken23_any _ _ _ _ s w bu)
  have S := Lib.hid (Blk.new w (pcV c) 23)
  have LO := Lib.hid (new_alloc (new_refl w) (.cells #[.int .i64 c.r, .int .i64 c.u, .int .i64 c.l, .int .i64 c.a] 23))
  have EW : Hid (max (max (pcN n) (pcN c.a)) (pcN c.a + pcUp (pcT c s - pcL c) (pcE c.r)) = pcWhen c n s) := Lib.hid rfl
  generalize pcWhen c n s = Q at *
  generalize pcE c.r = R at *
  generalize pcE c.u = U at *
  generalize pcF c.u = F at *
  generalize pcL c = L at *
  generalize pcT c s = T at *
  generalize pcN c.a = A at *
  generalize pcN n = X at *
  have SB : Hid (∀ w, Calls Try.prog 21 #[.int .i64 T, .int .i64 L] w fun e w' => e = .returned (.int .i64 (T - L)) ∧ w = w') := Lib.hid (fun w => by
    have h := satSub_any T L w (by omega) (by omega)
    rwa [sat64_mid _ (by omega) (by omega)] at h)
  have UP : Hid (∀ w, Calls Try.prog 25 #[.int .i64 (T - L), .int .i64 R] w fun e w' => e = .returned (.int .i64 (pcUp (T - L) R)) ∧ Below w.heap.size w w') := Lib.hid (fun w => upwards23_any _ _ w (by omega) (by omega))
  have bp := pcUp_bd (m := T - L) (r := R) (X := 4611686018427387904) (by omega) (by omega)
  generalize T - L = D at *
  generalize pcUp D R = P at *
  have AD : Hid (∀ w, Calls Try.prog 22 #[.int .i64 A, .int .i64 P] w fun e w' => e = .returned (.int .i64 (A + P)) ∧ w = w') := Lib.hid (fun w => by
    have h := satAdd_any A P w (by omega) (by omega)
    rwa [sat64_mid _ (by omega) (by omega)] at h)
  generalize A + P = Y at *
  have hmx : ∀ (w : World) (ts : Array TypeId) (t : TypeId), (Builtin.max_ ts t #[.int .i64 X, .int .i64 A, .int .i64 Y]).run Try.prog w = .ok (.int .i64 Q) w := fun w ts t => by
    rw [run_max_int3, ← EW.out]
    congr 2
    split <;> split <;> omega
  clear bu br bl bf bt ba bn bp
  unfold pcG'
  go_enter Try.func12, Try.ntmps12
  go_upto_region 2 with (first
    | (go_at_call 18; refine (IN.out _).mono ?_; rintro e w1 ⟨rfl, B1⟩
       have K := Lib.hid (S.out.kept B1)
       have V := Lib.hid (pc_set K.out ⟨R, U, L, A⟩)
       have LV := Lib.hid (lowP4 (new_then LO.out B1) (Nat.le_refl _) (.int .i64 R) (.int .i64 U) (.int .i64 L) (.int .i64 A))
       have c0 := K.out.cell 0 rfl; have c1 := K.out.cell 1 rfl; have c2 := K.out.cell 2 rfl; have c3 := K.out.cell 3 rfl; have f0 := K.out.frozen 0; have f1 := K.out.frozen 1; have f2 := K.out.frozen 2; have f3 := K.out.frozen 3))
  obtain ⟨W2, hW2⟩ : ∃ W2, (((w1.setCell ⟨w.heap.size, 0, none⟩ (.int .i64 R)).setCell ⟨w.heap.size, 1, none⟩ (.int .i64 U)).setCell ⟨w.heap.size, 2, none⟩ (.int .i64 L)).setCell ⟨w.heap.size, 3, none⟩ (.int .i64 A) = W2 := ⟨_, rfl⟩
  replace V : Hid (Blk W2 w.heap.size (pcV ⟨R, U, L, A⟩) 23) := Lib.hid (by rw [← hW2]; exact V.out)
  replace LV : Hid (Below w.heap.size w W2) := Lib.hid (by rw [← hW2]; exact LV.out)
  rw [hW2]
  clear hW2 c0 c1 c2 c3 f0 f1 f2 f3 K B1 S IN LO
  have c0 := V.out.cell 0 rfl; have c1 := V.out.cell 1 rfl; have c2 := V.out.cell 2 rfl; have c3 := V.out.cell 3 rfl
  have e0 := cell_by c0
  have e1 := cell_by c1
  have e2 := cell_by c2
  have e3 := cell_by c3
  refine wp_region_quiet_below (by kernel_rfl) (by kernel_rfl) ?_
  repeat (go_big_quiet_step (first
    | (go_at_call 24; refine calls_by (TK.out _))
    | (go_at_call 21; refine calls_by_same (SB.out _))))
  refine wpQuiet_nil ?_
  intro wq hw'
  obtain ⟨⟨wr, Bq⟩, hw''⟩ := hw'
  subst hw''
  clear e0 e1 e2 e3 c0 c1 c2 c3 TK SB
  have V3 := Lib.hid (V.out.kept Bq)
  have LV3 := Lib.hid (new_then LV.out Bq)
  clear V LV Bq
  have c0 := V3.out.cell 0 rfl; have c1 := V3.out.cell 1 rfl; have c2 := V3.out.cell 2 rfl; have c3 := V3.out.cell 3 rfl
  go_upto_region 3 with fail
  have e0 := cell_by c0
  have e3 := cell_by c3
  refine wp_region_quiet_below (by kernel_rfl) (by kernel_rfl) ?_
  repeat (go_big_quiet_step (first
    | (go_at_call 19; refine calls_by (CO.out _))
    | (go_at_call 25; refine calls_by (UP.out _))
    | (go_at_call 22; refine calls_by_same (AD.out _))))
  refine wpQuiet_nil ?_
  intro wq hw'
  obtain ⟨⟨wr, Bq⟩, hw''⟩ := hw'
  subst hw''
  have LV4 := Lib.hid (new_then LV3.out Bq)
  clear e0 e3 c0 c1 c2 c3 V3
  go_wp2_with fail
  go_ret
  exact ⟨rfl, LV4.out⟩

set_option maxHeartbeats 2000000 in
theorem spend23_any (c : Pc) (n s : Int) (w : World) : Calls Try.prog 9 #[pcG' c, .int .i64 n, .int .i64 s] w (PcIs w (pcSpend c n s)) := by
  have bu := pcE_bd c.u
  have bl := pcL_bd c
  have bf := pcF_bd c.u
  have by_ := pcFl_bd c n
  have bt := pcT_bd c s
  unfold PcIs
  have FI : Hid (∀ w, Calls Try.prog 7 #[.agg #[.int .i64 c.r, .int .i64 c.u, .int .i64 c.l, .int .i64 c.a], .int .i64 n] w fun e w' => e = .returned (.agg #[.int .i64 (pcE c.r), .int .i64 (pcE c.u), .int .i64 (pcFl c n), .int .i64 (pcM c n)]) ∧ Below w.heap.size w w') := Lib.hid (fun w => fill23_any c n w)
  have TK : Hid (∀ w, Calls Try.prog 24 #[.agg #[.int .i64 (pcE c.r), .int .i64 (pcE c.u), .int .i64 (pcFl c n), .int .i64 (pcM c n)], .int .i64 s] w fun e w' => e = .returned (.int .i64 (pcT c s)) ∧ Below w.heap.size w w') := Lib.hid (fun w => taken23_any _ _ _ _ s w bu)
  have SB : Hid (∀ w, Calls Try.prog 21 #[.int .i64 (pcFl c n), .int .i64 (pcT c s)] w fun e w' => e = .returned (.int .i64 (pcFl c n - pcT c s)) ∧ w = w') := Lib.hid (fun w => by
    have h := satSub_any (pcFl c n) (pcT c s) w (by omega) (by omega)
    rwa [sat64_mid _ (by omega) (by omega)] at h)
  have IN : Hid (∀ w, Calls Try.prog 18 #[.agg #[.int .i64 (pcE c.r), .int .i64 (pcE c.u), .int .i64 (pcFl c n - pcT c s), .int .i64 (pcM c n)]] w fun e w' => e = .returned (.agg #[.int .i64 (pcE c.r), .int .i64 (pcE c.u), .int .i64 (pcSl c n s), .int .i64 (pcM c n)]) ∧ Below w.heap.size w w') := Lib.hid (fun w => by
    have h := within23_any ⟨pcE c.r, pcE c.u, pcFl c n - pcT c s, pcM c n⟩ w
    rw [pcIn_spent] at h
    exact h)
  have S := Lib.hid (pc_start w c)
  unfold pcG' pcSpend
  clear bu bl bf by_ bt
  generalize pcE c.r = R at *
  generalize pcE c.u = U at *
  generalize pcFl c n - pcT c s = D at *
  generalize pcFl c n = Y at *
  generalize pcT c s = T at *
  generalize pcM c n = M at *
  generalize pcSl c n s = Q at *
  go_enter Try.func9, Try.ntmps9
  go_upto_region 2 with (first
    | (go_at_call 7; refine (FI.out _).mono ?_; rintro e w1 ⟨rfl, B1⟩
       have K := Lib.hid (S.out.kept B1)
       have V := Lib.hid (K.out.setC ⟨R, U, Y, M⟩)
       have c0 := K.out.cur.cell 0 rfl; have c1 := K.out.cur.cell 1 rfl; have c2 := K.out.cur.cell 2 rfl; have c3 := K.out.cur.cell 3 rfl; have f0 := K.out.cur.frozen 0; have f1 := K.out.cur.frozen 1; have f2 := K.out.cur.frozen 2; have f3 := K.out.cur.frozen 3))
  obtain ⟨W2, hW2⟩ : ∃ W2, (((w1.setCell ⟨w.heap.size, 0, none⟩ (.int .i64 R)).setCell ⟨w.heap.size, 1, none⟩ (.int .i64 U)).setCell ⟨w.heap.size, 2, none⟩ (.int .i64 Y)).setCell ⟨w.heap.size, 3, none⟩ (.int .i64 M) = W2 := ⟨_, rfl⟩
  replace V : Hid (PcAt w W2 ⟨R, U, Y, M⟩ pcO) := Lib.hid (by rw [← hW2]; exact V.out)
  rw [hW2]
  clear hW2 c0 c1 c2 c3 f0 f1 f2 f3 K B1 S FI
  have c0 := V.out.cur.cell 0 rfl; have c1 := V.out.cur.cell 1 rfl; have c2 := V.out.cur.cell 2 rfl; have c3 := V.out.cur.cell 3 rfl
  go_cut [] (fun wx => PcAt w wx ⟨R, U, D, M⟩ pcO)
  case first =>
    go_region_with (first
      | (go_at_call 24; refine (TK.out _).mono ?_; rintro e w3 ⟨rfl, B3⟩
         replace B3 := new_undrew B3
         have K3 := Lib.hid (V.out.kept B3)
         have Z := Lib.hid (K3.out.set2 D)
         have k32 := K3.out.cur.cell 2 rfl
         have n32 := K3.out.cur.frozen 2)
      | (go_at_call 21; refine (SB.out _).mono ?_; rintro e w4 ⟨rfl, rfl⟩))
    all_goals
      go_wp2_with fail
      go_meet
      exact Z.out
  case rest =>
    have S3 := Lib.hid hcut
    clear hcut V c0 c1 c2 c3 TK SB
    have c0 := S3.out.cur.cell 0 rfl; have c1 := S3.out.cur.cell 1 rfl; have c2 := S3.out.cur.cell 2 rfl; have c3 := S3.out.cur.cell 3 rfl
    go_wp2_with (first
      | (go_at_call 18; refine (IN.out _).mono ?_; rintro e w5 ⟨rfl, B5⟩
         have K5 := Lib.hid (S3.out.kept B5)
         have Z := Lib.hid (K5.out.setR ⟨R, U, Q, M⟩)
         have r0 := K5.out.res.cell 0 rfl; have r1 := K5.out.res.cell 1 rfl; have r2 := K5.out.res.cell 2 rfl; have r3 := K5.out.res.cell 3 rfl; have q0 := K5.out.res.frozen 0; have q1 := K5.out.res.frozen 1; have q2 := K5.out.res.frozen 2; have q3 := K5.out.res.frozen 3))
    exact bodyPost_ret (v := .agg #[.int .i64 R, .int .i64 U, .int .i64 Q, .int .i64 M]) (by simp [results, Try.results9, go_sem, r0, r1, r2, r3]) rfl ⟨rfl, Z.out.low⟩

theorem rate23_any (cw sr ga : Int) (w : World) : Calls Try.prog 14 #[.int .i64 cw, .int .i64 sr, .int .i64 ga] w fun e w' => e = .returned (.int .i64 (pcRate cw sr ga)) ∧ Below w.heap.size w w' := by
  have b1 := pcQ_bd cw sr
  have b2 := pcG_bd ga
  have b3 : 0 ≤ pcC cw ∧ pcC cw ≤ 1073741824 := clampP_bd cw (by decide)
  have b4 : 1 ≤ pcS sr ∧ pcS sr ≤ 1125899906842624 := clampP_bd sr (by decide)
  have M1 : Hid (∀ w, Calls Try.prog 20 #[.int .i64 (pcC cw), .int .i64 1000000] w fun e w' => e = .returned (.int .i64 (pcC cw * 1000000)) ∧ w = w') := Lib.hid (fun w => by
    have h := satMul_any (pcC cw) 1000000 w (by omega) (by omega)
    rwa [sat64_mid _ (by omega) (by omega)] at h)
  have D1 : Hid (∀ w, Calls Try.prog 27 #[.int .i64 (pcC cw * 1000000), .int .i64 (pcS sr)] w fun e w' => e = .returned (.int .i64 (pcQ cw sr)) ∧ Below w.heap.size w w') := Lib.hid (fun w => divP_any _ _ w (by omega) (by omega))
  have M2 : Hid (∀ w, Calls Try.prog 20 #[.int .i64 (pcQ cw sr), .int .i64 (pcG ga)] w fun e w' => e = .returned (.int .i64 (sat64 (pcQ cw sr * pcG ga))) ∧ w = w') := Lib.hid (fun w => satMul_any _ _ w (by omega) (by omega))
  have bX := sat64_bd (pcQ cw sr * pcG ga)
  have D2 : Hid (∀ w, Calls Try.prog 27 #[.int .i64 (sat64 (pcQ cw sr * pcG ga)), .int .i64 1048576] w fun e w' => e = .returned (.int .i64 (sat64 (pcQ cw sr * pcG ga) / 1048576)) ∧ Below w.heap.size w w') := Lib.hid (fun w => divP_any _ _ w (by omega) (by omega))
  have RA : Hid (∀ w, Calls Try.prog 28 #[.int .i64 (sat64 (pcQ cw sr * pcG ga) / 1048576)] w fun e w' => e = .returned (.int .i64 (pcRate cw sr ga)) ∧ Below w.heap.size w w') := Lib.hid (fun w => by
    have h := rated23_any (sat64 (pcQ cw sr * pcG ga) / 1048576) w
    rwa [pcRate_sat] at h)
  have EC : Hid (clampI cw 0 1073741824 = pcC cw) := Lib.hid rfl
  have ES : Hid (clampI sr 1 1125899906842624 = pcS sr) := Lib.hid rfl
  have EG : Hid (clampI ga 0 16777216 = pcG ga) := Lib.hid rfl
  clear b1 b2 b3 b4 bX
  generalize sat64 (pcQ cw sr * pcG ga) / 1048576 = X2 at *
  generalize sat64 (pcQ cw sr * pcG ga) = X1 at *
  generalize pcC cw * 1000000 = C1 at *
  generalize pcQ cw sr = Q at *
  generalize pcC cw = C at *
  generalize pcS sr = S at *
  generalize pcG ga = G at *
  generalize pcRate cw sr ga = Z at *
  go_enter Try.func14, Try.ntmps14
  go_wp2_with (first
    | (go_at_call_of 26 (Value.int .i64 1073741824); refine (endsP_any _ _ _).mono ?_; rintro e w1 ⟨p1, q1, rfl, hp1, hq1, B1, lp1, lq1⟩)
    | (go_at_call_of 26 (Value.int .i64 1125899906842624); refine (endsP_any _ _ _).mono ?_; rintro e w2 ⟨p2, q2, rfl, hp2, hq2, B2, lp2, lq2⟩)
    | (go_at_call_of 26 (Value.int .i64 16777216); refine (endsP_any _ _ _).mono ?_; rintro e w3 ⟨p3, q3, rfl, hp3, hq3, B3, lp3, lq3⟩)
    | (go_at_call_of 35 (Value.int .i64 cw); refine (ends1P_any _ _ _ p1 q1 _ hp1 hq1).mono ?_; rintro e w' ⟨rfl, rfl⟩; rw [EC.out])
    | (go_at_call_of 35 (Value.int .i64 sr); refine (ends1P_any _ _ _ p2 q2 _ hp2 hq2).mono ?_; rintro e w' ⟨rfl, rfl⟩; rw [ES.out])
    | (go_at_call_of 35 (Value.int .i64 ga); refine (ends1P_any _ _ _ p3 q3 _ hp3 hq3).mono ?_; rintro e w' ⟨rfl, rfl⟩; rw [EG.out])
    | (go_at_call_of 20 (Value.int .i64 C); refine (M1.out _).mono ?_; rintro e w' ⟨rfl, rfl⟩)
    | (go_at_call_of 20 (Value.int .i64 Q); refine (M2.out _).mono ?_; rintro e w' ⟨rfl, rfl⟩)
    | (go_at_call_of 27 (Value.int .i64 C1); refine (D1.out _).mono ?_; rintro e w4 ⟨rfl, B4⟩)
    | (go_at_call_of 27 (Value.int .i64 X1); refine (D2.out _).mono ?_; rintro e w5 ⟨rfl, B5⟩)
    | (go_at_call 28; refine (RA.out _).mono ?_; rintro e w6 ⟨rfl, B6⟩))
  go_ret
  exact ⟨rfl, new_then (new_then (new_then (new_then (new_then B1 B2) B3) B4) B5) B6⟩
end Go.Proofs.Ytimipikabedjnaa
