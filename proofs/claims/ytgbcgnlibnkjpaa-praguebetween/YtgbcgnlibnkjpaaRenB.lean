/- Package reno: the steps, each a closure. -/
import Derived.Test.YtgbcgnlibnkjpaaRenA
namespace Go.Proofs.Ytgbcgnlibnkjpaa
open Go.ChangeShapes Go.WideShapes Go.ChangeAt Go.RowKit
set_option linter.unusedVariables false

set_option maxHeartbeats 1000000 in
theorem cut1_any (c : Rn) (s m : Int) (p q : Nat) (w : World) (h : RnOk c m) (hp : w.cell? ⟨p, 0, none⟩ = some (.int .i64 s)) (hq : w.cell? ⟨q, 0, none⟩ = some (.int .i64 m)) :
    Calls Try.prog 46 #[rnW c, .pointer (some ⟨p, 0, none⟩), .pointer (some ⟨q, 0, none⟩)] w (RnIs w ⟨rnD c s m, rnD c s m, 0⟩) := by
  have hd := rnD_bd s h
  have hc := h.c
  have hs := rnS_bd m
  unfold RnIs rnW
  have PT : Hid (∀ w, Calls Try.prog 27 #[.int .i64 c.c, .int .i64 s] w fun e w' => e = .returned (.int .i64 (prs c.c (shr s))) ∧ Below w.heap.size w w') := Lib.hid (fun w => part_any c.c s w (by omega))
  have SU : Hid (∀ w, Calls Try.prog 31 #[.int .i64 c.c, .int .i64 (prs c.c (shr s))] w fun e w' => e = .returned (.int .i64 (c.c - prs c.c (shr s))) ∧ w = w') := Lib.hid (fun w => by
    have h := satSub_any c.c (prs c.c (shr s)) w (by omega) (by omega)
    rwa [sat64_mid _ (by omega) (by omega)] at h)
  have TW : Hid (∀ w, Calls Try.prog 47 #[.int .i64 m] w fun e w' => e = .returned (.int .i64 (2 * rnS m)) ∧ w = w') := Lib.hid (fun w => twice24_any m w)
  have EX : Hid (max (c.c - prs c.c (shr s)) (min c.c (2 * rnS m)) = rnD c s m) := Lib.hid rfl
  have S := Lib.hid (rn_start w c)
  have hp1 := cell_kept S.out.low hp
  have hq1 := cell_kept S.out.low hq
  clear hp hq hd hc hs h
  generalize rnD c s m = D at *
  generalize prs c.c (shr s) = P at *
  generalize c.c - P = N at *
  generalize 2 * rnS m = T at *
  obtain ⟨M, hM⟩ : ∃ M, min c.c T = M := ⟨_, rfl⟩
  rw [hM] at EX
  obtain ⟨n1, n2, n3⟩ := rnMin_is hM
  obtain ⟨x1, x2, x3⟩ := rnMax_is EX.out
  clear hM EX
  go_enter Try.func46, Try.ntmps46
  go_upto_region 1 with fail
  have c0 := S.out.cur.cell 0 rfl; have c1 := S.out.cur.cell 1 rfl; have c2 := S.out.cur.cell 2 rfl
  have e0 := cell_by c0
  have e1 := cell_by hp1
  refine wp_region_quiet_below (by kernel_rfl) (by kernel_rfl) ?_
  repeat (go_big_quiet_step (first
    | (go_at_call 27; refine calls_by (PT.out _))
    | (go_at_call 31; refine calls_by_same (SU.out _))))
  refine wpQuiet_nil ?_
  intro _ hw'
  obtain ⟨⟨wq, Bq⟩, hw''⟩ := hw'
  subst hw''
  have S2 := Lib.hid (S.out.kept Bq)
  have hq2 := cell_kept Bq hq1
  clear e0 e1 c0 c1 c2 hp1 hq1 S Bq PT SU
  have c0 := S2.out.cur.cell 0 rfl; have c1 := S2.out.cur.cell 1 rfl; have c2 := S2.out.cur.cell 2 rfl
  have e0 := cell_by c0
  have e1 := cell_by hq2
  go_upto_region 2 with fail
  refine wp_region_quiet_below (by kernel_rfl) (by kernel_rfl) ?_
  repeat (go_big_quiet_step (first
    | (go_at_call 47; refine calls_by_same (TW.out _))))
  refine wpQuiet_nil ?_
  intro _ hw'
  obtain ⟨⟨wr, Br⟩, hw''⟩ := hw'
  subst hw''
  have S3 := Lib.hid (S2.out.kept Br)
  clear e0 e1 c0 c1 c2 hq2 S2 Br TW n1 n2 n3 x1 x2 x3
  have Z := Lib.hid (S3.out.setR ⟨D, D, 0⟩)
  have r0 := S3.out.res.cell 0 rfl; have r1 := S3.out.res.cell 1 rfl; have r2 := S3.out.res.cell 2 rfl; have q0 := S3.out.res.frozen 0; have q1 := S3.out.res.frozen 1; have q2 := S3.out.res.frozen 2
  go_wp2_with fail
  exact bodyPost_ret (v := .agg #[.int .i64 D, .int .i64 D, .int .i64 0]) (by simp [results, Try.results46, go_sem, r0, r1, r2]) rfl ⟨rfl, Z.out.low⟩
end Go.Proofs.Ytgbcgnlibnkjpaa
