/- The document's own answers of layer 26: Grow, Reduce. -/
import Derived.Test.YtgbcgnlibnkjpaaPraD
namespace Go.Proofs.Ytgbcgnlibnkjpaa
open Go.ChangeShapes Go.WideShapes Go.ChangeAt Go.RowKit
set_option linter.unusedVariables false

set_option maxHeartbeats 1000000 in
theorem grow26R_any (c : Rn) (a m r t : Int) (w : World) (hr : -9223372036854775808 ≤ r ∧ r ≤ 9223372036854775807) (ht : -9223372036854775808 ≤ t ∧ t ≤ 9223372036854775807) :
    Calls Try.prog 12 #[rnW c, .int .i64 a, .int .i64 m, .int .i64 r, .int .i64 t] w (RnIs w (rnGrow c a m (prS r t))) := by
  unfold RnIs rnW
  have SC : Hid (∀ w, Calls Try.prog 7 #[.int .i64 r, .int .i64 t] w fun e w' => e = .returned (.int .i64 (prS r t)) ∧ Below w.heap.size w w') := Lib.hid (fun w => scale26R_any r t w hr ht)
  have GR : Hid (∀ w, Calls Try.prog 22 #[.agg #[.int .i64 c.c, .int .i64 c.t, .int .i64 c.k], .int .i64 a, .int .i64 m, .int .i64 (prS r t)] w fun e w' => e = .returned (rnW (rnGrow c a m (prS r t))) ∧ Below w.heap.size w w') := Lib.hid (fun w => grow24R_any c a m (prS r t) w)
  generalize rnGrow c a m (prS r t) = D at *
  generalize prS r t = X at *
  clear hr ht
  have S := Lib.hid (rn_start w c)
  unfold rnW at GR
  go_enter Try.func12, Try.ntmps12
  go_upto_region 1 with fail
  go_cut [] (fun wx => RnAt w wx c D)
  case first =>
    have c0 := S.out.cur.cell 0 rfl; have c1 := S.out.cur.cell 1 rfl; have c2 := S.out.cur.cell 2 rfl
    go_region_with (first
      | (go_at_call 7; refine (SC.out _).mono ?_; rintro e w3 ⟨rfl, B3⟩
         replace B3 := new_undrew B3
         have K3 := Lib.hid (S.out.kept B3)
         have k0 := K3.out.cur.cell 0 rfl; have k1 := K3.out.cur.cell 1 rfl; have k2 := K3.out.cur.cell 2 rfl)
      | (go_at_call 22; refine (GR.out _).mono ?_; rintro e w4 ⟨rfl, B4⟩
         have K4 := Lib.hid (K3.out.kept B4)
         have Z := Lib.hid (K4.out.setR D)
         have q0 := K4.out.res.cell 0 rfl; have q1 := K4.out.res.cell 1 rfl; have q2 := K4.out.res.cell 2 rfl; have f0 := K4.out.res.frozen 0; have f1 := K4.out.res.frozen 1; have f2 := K4.out.res.frozen 2))
    all_goals
      go_wp2_with fail
      go_meet
      exact Z.out
  case rest =>
    have S2 := Lib.hid hcut
    clear hcut S
    have r0 := S2.out.res.cell 0 rfl; have r1 := S2.out.res.cell 1 rfl; have r2 := S2.out.res.cell 2 rfl
    go_wp2_with fail
    exact bodyPost_ret (v := .agg #[.int .i64 D.c, .int .i64 D.t, .int .i64 D.k]) (by simp [results, Try.results12, go_sem, r0, r1, r2]) rfl ⟨rfl, S2.out.low⟩

set_option maxHeartbeats 1000000 in
theorem reduce26R_any (c : Rn) (s m : Int) (w : World) : Calls Try.prog 14 #[rnW c, .int .i64 s, .int .i64 m] w (RnIs w (prFall c s m)) := by
  have bs := shr_bd s
  have bl := prLo_bd s
  unfold RnIs rnW prFall
  have SH : Hid (∀ w, Calls Try.prog 20 #[.int .i64 s] w fun e w' => e = .returned (.int .i64 (shr s)) ∧ w = w') := Lib.hid (fun w => refShare_any s w)
  have CU : Hid (∀ w, Calls Try.prog 24 #[.agg #[.int .i64 c.c, .int .i64 c.t, .int .i64 c.k], .int .i64 (prLo s), .int .i64 m] w fun e w' => e = .returned (rnW (rnCut c (prLo s) m)) ∧ Below w.heap.size w w') := Lib.hid (fun w => cut24R_any c (prLo s) m w)
  have q1 : (shr s).tdiv 2 = prLo s := Int.tdiv_eq_ediv_of_nonneg bs.1
  generalize rnCut c (prLo s) m = D at *
  generalize prLo s = X at *
  generalize shr s = R at *
  have q2 : IntKind.i64.wrap X = X := by rw [IntKind.wrap_i64]; omega
  have q3 : wrap64 X = X := by unfold wrap64; omega
  clear bs bl
  have S := Lib.hid (rn_start w c)
  unfold rnW at CU
  go_enter Try.func14, Try.ntmps14
  go_upto_region 1 with fail
  go_cut [] (fun wx => RnAt w wx c D)
  case first =>
    have c0 := S.out.cur.cell 0 rfl; have c1 := S.out.cur.cell 1 rfl; have c2 := S.out.cur.cell 2 rfl
    go_region_with (first
      | (go_at_call 20; refine (SH.out _).mono ?_; rintro e w3 ⟨rfl, rfl⟩)
      | (go_at_call 24; refine (CU.out _).mono ?_; rintro e w4 ⟨rfl, B4⟩
         replace B4 := new_undrew B4
         have K4 := Lib.hid (S.out.kept B4)
         have Z := Lib.hid (K4.out.setR D)
         have q0 := K4.out.res.cell 0 rfl; have q1 := K4.out.res.cell 1 rfl; have q2 := K4.out.res.cell 2 rfl; have f0 := K4.out.res.frozen 0; have f1 := K4.out.res.frozen 1; have f2 := K4.out.res.frozen 2))
    all_goals
      go_wp2_with fail
      go_meet
      exact Z.out
  case rest =>
    have S2 := Lib.hid hcut
    clear hcut S
    have r0 := S2.out.res.cell 0 rfl; have r1 := S2.out.res.cell 1 rfl; have r2 := S2.out.res.cell 2 rfl
    go_wp2_with fail
    exact bodyPost_ret (v := .agg #[.int .i64 D.c, .int .i64 D.t, .int .i64 D.k]) (by simp [results, Try.results14, go_sem, r0, r1, r2]) rfl ⟨rfl, S2.out.low⟩
end Go.Proofs.Ytgbcgnlibnkjpaa
