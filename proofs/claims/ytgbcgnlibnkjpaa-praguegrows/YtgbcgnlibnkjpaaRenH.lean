/- The document's own answers of layer 24: Size, Within, Cut, Collapse, Start; windows compared; the chapter's example. -/
import Derived.Test.YtgbcgnlibnkjpaaRenG
import Derived.Test.YtgbcgnlibnkjpaaFixR
namespace Go.Proofs.Ytgbcgnlibnkjpaa
open Go.ChangeShapes Go.WideShapes Go.ChangeAt Go.RowKit
set_option linter.unusedVariables false

theorem size24_any (m : Int) (w : World) : Calls Try.prog 45 #[.int .i64 m] w fun e w' => e = .returned (.int .i64 (rnS m)) ∧ w = w' := by
  obtain ⟨e1, e2, e3, e4, e5⟩ : RnEnd 1 65536 m (rnS m) := rnEnd_is (by decide)
  generalize rnS m = X at *
  go_enter Try.func45, Try.ntmps45
  go_wp2_with fail
  go_ret
  exact ⟨rfl, rfl⟩
set_option maxHeartbeats 1000000 in
theorem within24R_any (c : Rn) (m : Int) (w : World) : Calls Try.prog 43 #[rnW c, .int .i64 m] w (RnIs w (rnIn c m)) := by
  have bs := rnS_bd m
  unfold RnIs rnW rnIn
  have SZ : Hid (∀ w, Calls Try.prog 45 #[.int .i64 m] w fun e w' => e = .returned (.int .i64 (rnS m)) ∧ w = w') := Lib.hid (fun w => size24_any m w)
  obtain ⟨a1, a2, a3, a4, a5⟩ : RnEnd (rnS m) 1073741824 c.c (rnC c m) := rnEnd_is (by omega)
  obtain ⟨b1, b2, b3, b4, b5⟩ : RnEnd 0 1073741824 c.t (rnT c) := rnEnd_is (by decide)
  obtain ⟨k1, k2, k3, k4, k5⟩ : RnEnd 0 1125899906842623 c.k (rnK c) := rnEnd_is (by decide)
  have S := Lib.hid (rn_start w c)
  clear bs
  generalize rnC c m = C at *
  generalize rnT c = T at *
  generalize rnK c = K at *
  generalize rnS m = Z at *
  go_enter Try.func43, Try.ntmps43
  go_upto_region 1 with fail
  go_cut [] (fun wx => RnAt w wx ⟨C, c.t, c.k⟩ rnO)
  case first =>
    have c0 := S.out.cur.cell 0 rfl; have c1 := S.out.cur.cell 1 rfl; have c2 := S.out.cur.cell 2 rfl
    have V := Lib.hid (rn_start w ⟨C, c.t, c.k⟩).drew
    go_region_with (first
      | (go_at_call 45; refine (SZ.out _).mono ?_; rintro e w' ⟨rfl, rfl⟩))
    all_goals
      go_wp2_with fail
      go_meet
      exact V.out
  case rest =>
    have S2 := Lib.hid hcut
    clear hcut S SZ a1 a2 a3 a4 a5
    have c0 := S2.out.cur.cell 0 rfl; have c1 := S2.out.cur.cell 1 rfl; have c2 := S2.out.cur.cell 2 rfl; have f0 := S2.out.cur.frozen 0; have f1 := S2.out.cur.frozen 1; have f2 := S2.out.cur.frozen 2
    go_upto_region 4 with fail
    have V := Lib.hid ((S2.out.set1 T).set2 K)
    obtain ⟨W2, hW2⟩ : ∃ W2, (wc.setCell ⟨w.heap.size, 1, none⟩ (.int .i64 T)).setCell ⟨w.heap.size, 2, none⟩ (.int .i64 K) = W2 := ⟨_, rfl⟩
    replace V : Hid (RnAt w W2 ⟨C, T, K⟩ rnO) := Lib.hid (by rw [← hW2]; exact V.out)
    rw [hW2]
    clear hW2 c0 c1 c2 f0 f1 f2 S2
    have d0 := V.out.cur.cell 0 rfl; have d1 := V.out.cur.cell 1 rfl; have d2 := V.out.cur.cell 2 rfl
    have Z := Lib.hid (V.out.setR ⟨C, T, K⟩)
    have r0 := V.out.res.cell 0 rfl; have r1 := V.out.res.cell 1 rfl; have r2 := V.out.res.cell 2 rfl; have q0 := V.out.res.frozen 0; have q1 := V.out.res.frozen 1; have q2 := V.out.res.frozen 2
    go_wp2_with fail
    exact bodyPost_ret (v := .agg #[.int .i64 C, .int .i64 T, .int .i64 K]) (by simp [results, Try.results43, go_sem, r0, r1, r2]) rfl ⟨rfl, Z.out.low⟩
theorem eqlN (c : Rn) (w : World) : (binOp .eql 27 (rnW c) (rnW c)).run Try.prog w = .ok (.bool true) w := by
  unfold rnW
  rw [run_eql_struct, show (10000 : Nat) = 9999 + 1 from rfl, run_equalIn_agg w 9999 _ _ _ (by kernel_rfl) (by kernel_rfl)]
  simp only [Program.fieldsOf, Try.underlying27]
  go_simp
end Go.Proofs.Ytgbcgnlibnkjpaa
