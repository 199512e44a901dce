/- Package prague: windows that grow and fall. -/
import Derived.Test.YtgbcgnlibnkjpaaPraA
namespace Go.Proofs.Ytgbcgnlibnkjpaa
open Go.ChangeShapes Go.WideShapes Go.ChangeAt Go.RowKit
set_option linter.unusedVariables false

set_option maxHeartbeats 1000000 in
theorem grow26_any (c : Rn) (a m r t : Int) (w : World) (hr : -9223372036854775808 ≤ r ∧ r ≤ 9223372036854775807) (ht : -9223372036854775808 ≤ t ∧ t ≤ 9223372036854775807) :
    Calls Try.prog 11 #[rnW c, .int .i64 a, .int .i64 m, .int .i64 r, .int .i64 t] w (RnIs w (rnGrow c a m (prS r t))) := by
  unfold RnIs rnW
  have SC : Hid (∀ w, Calls Try.prog 6 #[.int .i64 r, .int .i64 t] w fun e w' => e = .returned (.int .i64 (prS r t)) ∧ Below w.heap.size w w') := Lib.hid (fun w => scale26_any r t w hr ht)
  have GR : Hid (∀ w, Calls Try.prog 21 #[.agg #[.int .i64 c.c, .int .i64 c.t, .int .i64 c.k], .int .i64 a, .int .i64 m, .int .i64 (prS r t)] w fun e w' => e = .returned (rnW (rnGrow c a m (prS r t))) ∧ Below w.heap.size w w') := Lib.hid (fun w => grow24_any c a m (prS r t) w)
  generalize rnGrow c a m (prS r t) = D at *
  generalize prS r t = X at *
  clear hr ht
  have S := Lib.hid (rn_start w c)
  unfold rnW at GR
  go_enter Try.func11, Try.ntmps11
  go_upto_region 1 with fail
  go_cut [] (fun wx => RnAt w wx c D)
  case first =>
    have c0 := S.out.cur.cell 0 rfl; have c1 := S.out.cur.cell 1 rfl; have c2 := S.out.cur.cell 2 rfl
    go_region_with (first
      | (go_at_call 6; refine (SC.out _).mono ?_; rintro e w3 ⟨rfl, B3⟩
         replace B3 := new_undrew B3
         have K3 := Lib.hid (S.out.kept B3)
         have k0 := K3.out.cur.cell 0 rfl; have k1 := K3.out.cur.cell 1 rfl; have k2 := K3.out.cur.cell 2 rfl)
      | (go_at_call 21; refine (GR.out _).mono ?_; rintro e w4 ⟨rfl, B4⟩
         have K4 := Lib.hid (K3.out.kept B4)
         have Z := Lib.hid (K4.out.setR D)
         have q0 := K4.out.res.cell 0 rfl; have q1 := K4.out.res.cell 1 rfl; have q2 := K4.out.res.cell 2 rfl; have f0 := K4.out.res.frozen 0; have f1 := K4.out.res.frozen 1; have f2 := K4.out.res.frozen 2))
    all_goals
      go_wp2_with fail
      go_meet
      exact Z.out
  case rest =>
    have S2 := Lib.hid hcut
    clear hcut S
    have r0 := S2.out.res.cell 0 rfl; have r1 := S2.out.res.cell 1 rfl; have r2 := S2.out.res.cell 2 rfl
    go_wp2_with fail
    exact bodyPost_ret (v := .agg #[.int .i64 D.c, .int .i64 D.t, .int .i64 D.k]) (by simp [results, Try.results11, go_sem, r0, r1, r2]) rfl ⟨rfl, S2.out.low⟩

/-- A window that falls by half of a share. -/
def prFall (c : Rn) (s m : Int) : Rn := rnCut c (prLo s) m
set_option maxHeartbeats 1000000 in
theorem reduce26_any (c : Rn) (s m : Int) (w : World) : Calls Try.prog 13 #[rnW c, .int .i64 s, .int .i64 m] w (RnIs w (prFall c s m)) := by
  unfold RnIs rnW prFall
  have HA : Hid (∀ w, Calls Try.prog 19 #[.int .i64 s] w fun e w' => e = .returned (.int .i64 (prLo s)) ∧ Below w.heap.size w w') := Lib.hid (fun w => halved_any s w)
  have CU : Hid (∀ w, Calls Try.prog 23 #[.agg #[.int .i64 c.c, .int .i64 c.t, .int .i64 c.k], .int .i64 (prLo s), .int .i64 m] w fun e w' => e = .returned (rnW (rnCut c (prLo s) m)) ∧ Below w.heap.size w w') := Lib.hid (fun w => cut24_any c (prLo s) m w)
  generalize rnCut c (prLo s) m = D at *
  generalize prLo s = X at *
  have S := Lib.hid (rn_start w c)
  unfold rnW at CU
  go_enter Try.func13, Try.ntmps13
  go_upto_region 1 with fail
  go_cut [] (fun wx => RnAt w wx c D)
  case first =>
    have c0 := S.out.cur.cell 0 rfl; have c1 := S.out.cur.cell 1 rfl; have c2 := S.out.cur.cell 2 rfl
    go_region_with (first
      | (go_at_call 19; refine (HA.out _).mono ?_; rintro e w3 ⟨rfl, B3⟩
         replace B3 := new_undrew B3
         have K3 := Lib.hid (S.out.kept B3)
         have k0 := K3.out.cur.cell 0 rfl; have k1 := K3.out.cur.cell 1 rfl; have k2 := K3.out.cur.cell 2 rfl)
      | (go_at_call 23; refine (CU.out _).mono ?_; rintro e w4 ⟨rfl, B4⟩
         have K4 := Lib.hid (K3.out.kept B4)
         have Z := Lib.hid (K4.out.setR D)
         have q0 := K4.out.res.cell 0 rfl; have q1 := K4.out.res.cell 1 rfl; have q2 := K4.out.res.cell 2 rfl; have f0 := K4.out.res.frozen 0; have f1 := K4.out.res.frozen 1; have f2 := K4.out.res.frozen 2))
    all_goals
      go_wp2_with fail
      go_meet
      exact Z.out
  case rest =>
    have S2 := Lib.hid hcut
    clear hcut S
    have r0 := S2.out.res.cell 0 rfl; have r1 := S2.out.res.cell 1 rfl; have r2 := S2.out.res.cell 2 rfl
    go_wp2_with fail
    exact bodyPost_ret (v := .agg #[.int .i64 D.c, .int .i64 D.t, .int .i64 D.k]) (by simp [results, Try.results13, go_sem, r0, r1, r2]) rfl ⟨rfl, S2.out.low⟩
end Go.Proofs.Ytgbcgnlibnkjpaa
