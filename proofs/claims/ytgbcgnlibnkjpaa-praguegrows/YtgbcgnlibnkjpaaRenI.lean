/- The document's own answers of layer 24: Cut, Collapse. -/
import Derived.Test.YtgbcgnlibnkjpaaRenH
namespace Go.Proofs.Ytgbcgnlibnkjpaa
open Go.ChangeShapes Go.WideShapes Go.ChangeAt Go.RowKit
set_option linter.unusedVariables false

set_option maxHeartbeats 2000000 in
theorem cut24R_any (c : Rn) (s m : Int) (w : World) : Calls Try.prog 24 #[rnW c, .int .i64 s, .int .i64 m] w (RnIs w (rnCut c s m)) := by
  have ok := rnIn_ok c m
  have hd := rnD_bd s ok
  have hc := ok.c
  have hs := rnS_bd m
  have ER := Lib.hid (rnD_ref s ok)
  unfold RnIs rnW rnCut
  have IN : Hid (∀ w, Calls Try.prog 43 #[.agg #[.int .i64 c.c, .int .i64 c.t, .int .i64 c.k], .int .i64 m] w fun e w' => e = .returned (rnW (rnIn c m)) ∧ Below w.heap.size w w') := Lib.hid (fun w => within24R_any c m w)
  have SZ : Hid (∀ w, Calls Try.prog 45 #[.int .i64 m] w fun e w' => e = .returned (.int .i64 (rnS m)) ∧ w = w') := Lib.hid (fun w => size24_any m w)
  have S := Lib.hid (rn_start w c)
  obtain ⟨d, hdd⟩ : ∃ d, rnIn c m = d := ⟨_, rfl⟩
  rw [hdd] at IN ER hd hc ⊢
  clear hdd ok
  have PT : Hid (∀ w, Calls Try.prog 44 #[.int .i64 d.c, .int .i64 s] w fun e w' => e = .returned (.int .i64 (prs d.c (shr s))) ∧ Below w.heap.size w w') := Lib.hid (fun w => refPart_any d.c s w (by omega))
  have wN : IntKind.i64.wrap (d.c - prs d.c (shr s)) = d.c - prs d.c (shr s) := by rw [IntKind.wrap_i64]; omega
  have wN2 : wrap64 (d.c - prs d.c (shr s)) = d.c - prs d.c (shr s) := by unfold wrap64; omega
  have wT : IntKind.i64.wrap (2 * rnS m) = 2 * rnS m := by rw [IntKind.wrap_i64]; omega
  have wT2 : wrap64 (2 * rnS m) = 2 * rnS m := by unfold wrap64; omega
  obtain ⟨N, hN⟩ : ∃ N, d.c - prs d.c (shr s) = N := ⟨_, rfl⟩
  rw [hN] at ER wN wN2
  obtain ⟨T, hT⟩ : ∃ T, 2 * rnS m = T := ⟨_, rfl⟩
  rw [hT] at ER wT wT2
  clear hd hc hs
  generalize rnD d s m = D at *
  generalize prs d.c (shr s) = P at *
  generalize rnS m = Z at *
  unfold rnW at IN
  go_enter Try.func24, Try.ntmps24
  have c0 := S.out.cur.cell 0 rfl; have c1 := S.out.cur.cell 1 rfl; have c2 := S.out.cur.cell 2 rfl; have f0 := S.out.cur.frozen 0; have f1 := S.out.cur.frozen 1; have f2 := S.out.cur.frozen 2
  go_upto_region 2 with (first
    | (go_at_call 43; refine (IN.out _).mono ?_; rintro e w1 ⟨rfl, B1⟩
       have K := Lib.hid (S.out.kept B1)
       have V := Lib.hid (K.out.setC d)
       have k0 := K.out.cur.cell 0 rfl; have k1 := K.out.cur.cell 1 rfl; have k2 := K.out.cur.cell 2 rfl; have g0 := K.out.cur.frozen 0; have g1 := K.out.cur.frozen 1; have g2 := K.out.cur.frozen 2))
  obtain ⟨W2, hW2⟩ : ∃ W2, ((w1.setCell ⟨w.heap.size, 0, none⟩ (.int .i64 d.c)).setCell ⟨w.heap.size, 1, none⟩ (.int .i64 d.t)).setCell ⟨w.heap.size, 2, none⟩ (.int .i64 d.k) = W2 := ⟨_, rfl⟩
  replace V : Hid (RnAt w W2 d rnO) := Lib.hid (by rw [← hW2]; exact V.out)
  rw [hW2]
  clear hW2 c0 c1 c2 f0 f1 f2 k0 k1 k2 g0 g1 g2 K B1 S IN
  have c0 : W2.cell? ⟨w.heap.size, 0, none⟩ = some (.int .i64 d.c) := V.out.cur.cell 0 rfl
  have e0 := cell_by c0
  refine wp_region_quiet_below (by kernel_rfl) (by kernel_rfl) ?_
  repeat (go_big_quiet_step (first
    | (go_at_call 44; refine calls_by (PT.out _))))
  refine wpQuiet_nil ?_
  intro _ hw'
  obtain ⟨⟨wq, Bq⟩, hw''⟩ := hw'
  subst hw''
  have S2 := Lib.hid (V.out.kept Bq)
  clear e0 c0 V Bq PT wN wN2 hN
  by_cases hlt : N < T
  · obtain ⟨n1, n2, n3⟩ := rnMin_is (show min T d.c = D by have := ER.out; rwa [if_pos hlt] at this)
    clear ER
    go_upto_region 4 with (first
      | (go_at_call 45; refine (SZ.out _).mono ?_; rintro e w' ⟨rfl, rfl⟩))
    have c0 : _ = some (Value.int .i64 d.c) := S2.out.cur.cell 0 rfl
    have e0 := cell_by c0
    refine wp_region_quiet_below (by kernel_rfl) (by kernel_rfl) ?_
    repeat (go_big_quiet_step (first
      | (go_at_call 45; refine calls_by_same (SZ.out _))))
    refine wpQuiet_nil ?_
    intro _ hw'
    obtain ⟨⟨wr, Br⟩, hw''⟩ := hw'
    subst hw''
    have S3 := Lib.hid (S2.out.kept Br)
    clear e0 c0 S2 Br SZ wT wT2 hT n1 n2 n3
    have Z2 := Lib.hid (S3.out.setR ⟨D, D, 0⟩)
    have r0 := S3.out.res.cell 0 rfl; have r1 := S3.out.res.cell 1 rfl; have r2 := S3.out.res.cell 2 rfl; have q0 := S3.out.res.frozen 0; have q1 := S3.out.res.frozen 1; have q2 := S3.out.res.frozen 2
    go_wp2_with fail
    exact bodyPost_ret (v := .agg #[.int .i64 D, .int .i64 D, .int .i64 0]) (by simp [results, Try.results24, go_sem, r0, r1, r2]) rfl ⟨rfl, Z2.out.low⟩
  · obtain rfl : N = D := by have := ER.out; rwa [if_neg hlt] at this
    clear ER
    have Z2 := Lib.hid (S2.out.setR ⟨N, N, 0⟩)
    have r0 := S2.out.res.cell 0 rfl; have r1 := S2.out.res.cell 1 rfl; have r2 := S2.out.res.cell 2 rfl; have q0 := S2.out.res.frozen 0; have q1 := S2.out.res.frozen 1; have q2 := S2.out.res.frozen 2
    go_wp2_with (first
      | (go_at_call 45; refine (SZ.out _).mono ?_; rintro e w' ⟨rfl, rfl⟩))
    exact bodyPost_ret (v := .agg #[.int .i64 N, .int .i64 N, .int .i64 0]) (by simp [results, Try.results24, go_sem, r0, r1, r2]) rfl ⟨rfl, Z2.out.low⟩
end Go.Proofs.Ytgbcgnlibnkjpaa
