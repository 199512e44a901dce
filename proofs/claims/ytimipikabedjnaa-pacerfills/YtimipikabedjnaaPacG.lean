/- The document's own answers of layer 23: When, Spend; buckets compared; the chapter's example. -/
import Derived.Test.YtimipikabedjnaaPacF
namespace Go.Proofs.Ytimipikabedjnaa
open Go.ChangeShapes Go.WideShapes Go.ChangeAt Go.RowKit
set_option linter.unusedVariables false

theorem maxP_is {X M W : Int} (h : max X M = W) : (if X < M then M else X) = W ∧ (if M < X then X else M) = W ∧ max X M = W := by
  refine ⟨?_, ?_, h⟩ <;> (split <;> omega)
set_option maxHeartbeats 2000000 in
theorem spend23R_any (c : Pc) (n s : Int) (w : World) : Calls Try.prog 10 #[pcG' c, .int .i64 n, .int .i64 s] w (PcIs w (pcSpend c n s)) := by
  have bu := pcE_bd c.u
  have bl := pcL_bd c
  have bf := pcF_bd c.u
  have by_ := pcFl_bd c n
  have bt := pcT_bd c s
  unfold PcIs
  have FI : Hid (∀ w, Calls Try.prog 8 #[.agg #[.int .i64 c.r, .int .i64 c.u, .int .i64 c.l, .int .i64 c.a], .int .i64 n] w fun e w' => e = .returned (.agg #[.int .i64 (pcE c.r), .int .i64 (pcE c.u), .int .i64 (pcFl c n), .int .i64 (pcM c n)]) ∧ Below w.heap.size w w') := Lib.hid (fun w => fill23R_any c n w)
  have TK : Hid (∀ w, Calls Try.prog 17 #[.agg #[.int .i64 (pcE c.r), .int .i64 (pcE c.u), .int .i64 (pcFl c n), .int .i64 (pcM c n)], .int .i64 s] w fun e w' => e = .returned (.int .i64 (pcT c s)) ∧ Below w.heap.size w w') := Lib.hid (fun w => need23_any _ _ _ _ s w bu)
  have S := Lib.hid (pc_start w c)
  obtain ⟨D, hD⟩ : ∃ D, pcFl c n - pcT c s = D := ⟨_, rfl⟩
  have bD : -9223372036854775808 ≤ D ∧ D ≤ 9223372036854775807 := by omega
  have wD : IntKind.i64.wrap D = D := by rw [IntKind.wrap_i64]; omega
  have HM : max D (-2305843009213693952) = pcSl c n s := by rw [← hD]; rfl
  unfold pcG' pcSpend
  clear bu bl bf by_ bt bD
  generalize pcE c.r = R at *
  generalize pcE c.u = U at *
  generalize pcFl c n = Y at *
  generalize pcT c s = T at *
  generalize pcM c n = M at *
  generalize pcSl c n s = Q at *
  obtain ⟨m1, m2, m3⟩ := maxP_is HM
  clear HM
  go_enter Try.func10, Try.ntmps10
  go_upto_region 2 with (first
    | (go_at_call 8; refine (FI.out _).mono ?_; rintro e w1 ⟨rfl, B1⟩
       have K := Lib.hid (S.out.kept B1)
       have V := Lib.hid (K.out.setC ⟨R, U, Y, M⟩)
       have c0 := K.out.cur.cell 0 rfl; have c1 := K.out.cur.cell 1 rfl; have c2 := K.out.cur.cell 2 rfl; have c3 := K.out.cur.cell 3 rfl; have f0 := K.out.cur.frozen 0; have f1 := K.out.cur.frozen 1; have f2 := K.out.cur.frozen 2; have f3 := K.out.cur.frozen 3))
  obtain ⟨W2, hW2⟩ : ∃ W2, (((w1.setCell ⟨w.heap.size, 0, none⟩ (.int .i64 R)).setCell ⟨w.heap.size, 1, none⟩ (.int .i64 U)).setCell ⟨w.heap.size, 2, none⟩ (.int .i64 Y)).setCell ⟨w.heap.size, 3, none⟩ (.int .i64 M) = W2 := ⟨_, rfl⟩
  replace V : Hid (PcAt w W2 ⟨R, U, Y, M⟩ pcO) := Lib.hid (by rw [← hW2]; exact V.out)
  rw [hW2]
  clear hW2 c0 c1 c2 c3 f0 f1 f2 f3 K B1 S FI
  have c0 := V.out.cur.cell 0 rfl; have c1 := V.out.cur.cell 1 rfl; have c2 := V.out.cur.cell 2 rfl; have c3 := V.out.cur.cell 3 rfl
  go_cut [] (fun wx => PcAt w wx ⟨R, U, Q, M⟩ pcO)
  case first =>
    go_region_with (first
      | (go_at_call 17; refine (TK.out _).mono ?_; rintro e w3 ⟨rfl, B3⟩
         replace B3 := new_undrew B3
         have K3 := Lib.hid (V.out.kept B3)
         have Z := Lib.hid (K3.out.set2 Q)
         have k32 := K3.out.cur.cell 2 rfl
         have n32 := K3.out.cur.frozen 2))
    all_goals
      go_wp2_with fail
      go_meet
      exact Z.out
  case rest =>
    have S3 := Lib.hid hcut
    clear hcut V c0 c1 c2 c3 TK hD wD m1 m2 m3
    have c0 := S3.out.cur.cell 0 rfl; have c1 := S3.out.cur.cell 1 rfl; have c2 := S3.out.cur.cell 2 rfl; have c3 := S3.out.cur.cell 3 rfl
    have Z := Lib.hid (S3.out.setR ⟨R, U, Q, M⟩)
    have r0 := S3.out.res.cell 0 rfl; have r1 := S3.out.res.cell 1 rfl; have r2 := S3.out.res.cell 2 rfl; have r3 := S3.out.res.cell 3 rfl; have q0 := S3.out.res.frozen 0; have q1 := S3.out.res.frozen 1; have q2 := S3.out.res.frozen 2; have q3 := S3.out.res.frozen 3
    go_wp2_with fail
    exact bodyPost_ret (v := .agg #[.int .i64 R, .int .i64 U, .int .i64 Q, .int .i64 M]) (by simp [results, Try.results10, go_sem, r0, r1, r2, r3]) rfl ⟨rfl, Z.out.low⟩

set_option maxHeartbeats 2000000 in
theorem when23R_any (c : Pc) (n s : Int) (w : World) : Calls Try.prog 13 #[pcG' c, .int .i64 n, .int .i64 s] w fun e w' => e = .returned (.int .i64 (pcWhen c n s)) ∧ Below w.heap.size w w' := by
  have bu := pcE_bd c.u
  have br := pcE_bd c.r
  have bl := pcL_bd c
  have bf := pcF_bd c.u
  have by_ := pcFl_bd c n
  have bt := pcT_bd c s
  have bm := pcM_bd c n
  have FI : Hid (∀ w, Calls Try.prog 8 #[.agg #[.int .i64 c.r, .int .i64 c.u, .int .i64 c.l, .int .i64 c.a], .int .i64 n] w fun e w' => e = .returned (.agg #[.int .i64 (pcE c.r), .int .i64 (pcE c.u), .int .i64 (pcFl c n), .int .i64 (pcM c n)]) ∧ Below w.heap.size w w') := Lib.hid (fun w => fill23R_any c n w)
  have TK : Hid (∀ w, Calls Try.prog 17 #[.agg #[.int .i64 (pcE c.r), .int .i64 (pcE c.u), .int .i64 (pcFl c n), .int .i64 (pcM c n)], .int .i64 s] w fun e w' => e = .returned (.int .i64 (pcT c s)) ∧ Below w.heap.size w w') := Lib.hid (fun w => need23_any _ _ _ _ s w bu)
  have S := Lib.hid (Blk.new w (pcV c) 23)
  have LO := Lib.hid (new_alloc (new_refl w) (.cells #[.int .i64 c.r, .int .i64 c.u, .int .i64 c.l, .int .i64 c.a] 23))
  have EW := Lib.hid (pcWhen_ref c n s)
  obtain ⟨D, hD⟩ : ∃ D, pcT c s - pcFl c n = D := ⟨_, rfl⟩
  have bD : -1099511627776000000 ≤ D ∧ D ≤ 4611686018427387904 := by omega
  rw [hD] at EW
  obtain ⟨q, hq⟩ : ∃ q, D / pcE c.r = q := ⟨_, rfl⟩
  rw [hq] at EW
  have bq : ¬ D ≤ 0 → D.tdiv (pcE c.r) = q ∧ 0 ≤ q ∧ q ≤ D := fun h => by
    have h1 := Int.tdiv_eq_ediv_of_nonneg (a := D) (b := pcE c.r) (by omega)
    have h2 := Int.ediv_nonneg (a := D) (b := pcE c.r) (by omega) (by omega)
    have h3 := Int.ediv_le_self (a := D) (pcE c.r) (by omega)
    omega
  have bqr : ¬ D ≤ 0 → 0 ≤ q * pcE c.r ∧ q * pcE c.r ≤ D := fun h => by
    have h1 := Int.mul_ediv_add_emod D (pcE c.r)
    have h2 := Int.emod_nonneg D (b := pcE c.r) (by omega)
    have h3 := Int.mul_nonneg (a := q) (b := pcE c.r) (by omega) (by omega)
    rw [hq, Int.mul_comm] at h1
    omega
  have BQ := Lib.hid bq
  have BQR := Lib.hid bqr
  obtain ⟨P, hP⟩ : ∃ P, q * pcE c.r = P := ⟨_, rfl⟩
  rw [hP] at BQR EW
  have HP := Lib.hid hP
  have HD := Lib.hid hD
  clear hq bu bl bf by_ bt bq bqr hP hD
  generalize pcE c.r = R at *
  generalize pcE c.u = U at *
  generalize pcFl c n = Y at *
  generalize pcT c s = T at *
  generalize pcM c n = M at *
  generalize pcWhen c n s = Q at *
  have wD : IntKind.i64.wrap D = D := by rw [IntKind.wrap_i64]; omega
  unfold pcG'
  go_enter Try.func13, Try.ntmps13
  go_upto_region 2 with (first
    | (go_at_call 8; refine (FI.out _).mono ?_; rintro e w1 ⟨rfl, B1⟩
       have K := Lib.hid (S.out.kept B1)
       have V := Lib.hid (pc_set K.out ⟨R, U, Y, M⟩)
       have LV := Lib.hid (lowP4 (new_then LO.out B1) (Nat.le_refl _) (.int .i64 R) (.int .i64 U) (.int .i64 Y) (.int .i64 M))
       have c0 := K.out.cell 0 rfl; have c1 := K.out.cell 1 rfl; have c2 := K.out.cell 2 rfl; have c3 := K.out.cell 3 rfl; have f0 := K.out.frozen 0; have f1 := K.out.frozen 1; have f2 := K.out.frozen 2; have f3 := K.out.frozen 3))
  obtain ⟨W2, hW2⟩ : ∃ W2, (((w1.setCell ⟨w.heap.size, 0, none⟩ (.int .i64 R)).setCell ⟨w.heap.size, 1, none⟩ (.int .i64 U)).setCell ⟨w.heap.size, 2, none⟩ (.int .i64 Y)).setCell ⟨w.heap.size, 3, none⟩ (.int .i64 M) = W2 := ⟨_, rfl⟩
  replace V : Hid (Blk W2 w.heap.size (pcV ⟨R, U, Y, M⟩) 23) := Lib.hid (by rw [← hW2]; exact V.out)
  replace LV : Hid (Below w.heap.size w W2) := Lib.hid (by rw [← hW2]; exact LV.out)
  rw [hW2]
  clear hW2 c0 c1 c2 c3 f0 f1 f2 f3 K B1 S FI LO
  have c0 := V.out.cell 0 rfl; have c1 := V.out.cell 1 rfl; have c2 := V.out.cell 2 rfl; have c3 := V.out.cell 3 rfl
  have hD := HD.out
  have e0 := cell_by c0
  have e1 := cell_by c1
  have e2 := cell_by c2
  have e3 := cell_by c3
  refine wp_region_quiet_below (by kernel_rfl) (by kernel_rfl) ?_
  repeat (go_big_quiet_step (first
    | (go_at_call 17; refine calls_by (TK.out _))))
  refine wpQuiet_nil ?_
  intro wq hw'
  obtain ⟨⟨wr, Bq⟩, hw''⟩ := hw'
  subst hw''
  clear e0 e1 e2 e3 c0 c1 c2 c3 TK
  have V3 := Lib.hid (V.out.kept Bq)
  have LV3 := Lib.hid (new_then LV.out Bq)
  clear V LV Bq hD
  have c0 := V3.out.cell 0 rfl; have c1 := V3.out.cell 1 rfl; have c2 := V3.out.cell 2 rfl; have c3 := V3.out.cell 3 rfl
  by_cases hd : D ≤ 0
  · have e := EW.out.1 (by omega)
    subst e
    clear EW BQ BQR
    go_wp2_with fail
    go_ret
    exact ⟨rfl, LV3.out⟩
  · obtain ⟨q0, q1, q2⟩ := BQ.out (by omega)
    obtain ⟨p0, p1⟩ := BQR.out (by omega)
    have hP := HP.out
    have hR0 : ¬ R = 0 := by omega
    clear BQ BQR HP
    by_cases hp : P < D
    · have e := EW.out.2.1 (by omega) (by omega)
      subst e
      clear EW
      go_wp2_with fail
      go_ret
      exact ⟨rfl, LV3.out⟩
    · have e := EW.out.2.2 (by omega) (by omega)
      subst e
      clear EW
      go_wp2_with fail
      go_ret
      exact ⟨rfl, LV3.out⟩

theorem eqlP (c : Pc) (w : World) : (binOp .eql 23 (pcG' c) (pcG' c)).run Try.prog w = .ok (.bool true) w := by
  unfold pcG'
  rw [run_eql_struct, show (10000 : Nat) = 9999 + 1 from rfl, run_equalIn_agg w 9999 _ _ _ (by kernel_rfl) (by kernel_rfl)]
  simp only [Program.fieldsOf, Try.underlying23]
  go_simp

set_option maxHeartbeats 1000000 in
theorem works23_any (w : World) : Calls Try.prog 11 #[] w fun e w' => e = .returned (.bool true) ∧ Below w.heap.size w w' := by
  have WN : Hid (∀ w, Calls Try.prog 12 #[.agg #[.int .i64 1000000, .int .i64 10, .int .i64 0, .int .i64 0], .int .i64 0, .int .i64 4] w fun e w' => e = .returned (.int .i64 4) ∧ Below w.heap.size w w') := Lib.hid (fun w => by
    have h := when23_any ⟨1000000, 10, 0, 0⟩ 0 4 w
    rw [show pcWhen ⟨1000000, 10, 0, 0⟩ 0 4 = 4 by decide +kernel] at h
    exact h)
  have FI : Hid (∀ w, Calls Try.prog 7 #[.agg #[.int .i64 1000000, .int .i64 10, .int .i64 0, .int .i64 0], .int .i64 100] w fun e w' => e = .returned (.agg #[.int .i64 1000000, .int .i64 10, .int .i64 10000000, .int .i64 100]) ∧ Below w.heap.size w w') := Lib.hid (fun w => by
    have h := fill23_any ⟨1000000, 10, 0, 0⟩ 100 w
    unfold PcIs at h
    rw [show pcFill ⟨1000000, 10, 0, 0⟩ 100 = ⟨1000000, 10, 10000000, 100⟩ by decide +kernel] at h
    exact h)
  have hfd : ∀ w : World, (Instr.field 23 (.agg #[.int .i64 1000000, .int .i64 10, .int .i64 10000000, .int .i64 100]) 2).run Try.prog w = .ok (.int .i64 10000000) w := fun _ => by kernel_rfl
  have K0 := Lib.hid (Blk.new w (pcV ⟨1000000, 10, 0, 0⟩) 23)
  have L0 := Lib.hid (new_alloc (new_refl w) (.cells #[.int .i64 1000000, .int .i64 10, .int .i64 0, .int .i64 0] 23))
  go_enter Try.func11, Try.ntmps11
  go_wp2_with (first
    | (go_at_call 12; refine (WN.out _).mono ?_; rintro e w1 ⟨rfl, B1⟩
       have K1 := Lib.hid (K0.out.kept B1)
       have m0 := K1.out.cell 0 rfl; have m1 := K1.out.cell 1 rfl; have m2 := K1.out.cell 2 rfl; have m3 := K1.out.cell 3 rfl)
    | (go_at_call 7; refine (FI.out _).mono ?_; rintro e w2 ⟨rfl, B2⟩))
  go_ret
  exact ⟨rfl, new_then (new_then L0.out B1) B2⟩
end Go.Proofs.Ytimipikabedjnaa
