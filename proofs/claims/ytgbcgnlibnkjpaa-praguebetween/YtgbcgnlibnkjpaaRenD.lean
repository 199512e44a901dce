/- Package reno: growing fast, and by a share. -/
import Derived.Test.YtgbcgnlibnkjpaaRenC
namespace Go.Proofs.Ytgbcgnlibnkjpaa
open Go.ChangeShapes Go.WideShapes Go.ChangeAt Go.RowKit
set_option linter.unusedVariables false

/-- What growing fast leaves behind: the count of what is left is written. -/
def FastIs (w : World) (g : Nat) (c : Rn) (l : Int) (e : Ending) (w' : World) : Prop := e = .returned (rnW c) ∧ Out (· = g) w w' ∧ Blk w' g [.int .i64 l] 2
set_option maxHeartbeats 2000000 in
theorem fast_any (c : Rn) (a m : Int) (g : Nat) (w : World) (h : RnOk c m) (ha : 0 ≤ a ∧ a ≤ 16777216) (hg : Blk w g [.int .i64 a] 2) :
    Calls Try.prog 35 #[rnW c, .pointer (some ⟨g, 0, none⟩)] w (FastIs w g (rnFast c a) (a - rnF c a)) := by
  have hc := h.c
  have ht := h.t
  have hs := rnS_bd m
  have hf := rnF_bd h ha
  unfold FastIs rnW rnFast
  have RM : Hid (∀ w, Calls Try.prog 36 #[.agg #[.int .i64 c.c, .int .i64 c.t, .int .i64 c.k]] w fun e w' => e = .returned (.int .i64 (rnR c)) ∧ Below w.heap.size w w') := Lib.hid (fun w => room24_any c w (by omega) ht)
  have AD : Hid (∀ w, Calls Try.prog 30 #[.int .i64 c.c, .int .i64 (rnF c a)] w fun e w' => e = .returned (.int .i64 (c.c + rnF c a)) ∧ w = w') := Lib.hid (fun w => by
    have h := satAdd_any c.c (rnF c a) w (by omega) (by omega)
    rwa [sat64_mid _ (by omega) (by omega)] at h)
  have SU : Hid (∀ w, Calls Try.prog 31 #[.int .i64 a, .int .i64 (rnF c a)] w fun e w' => e = .returned (.int .i64 (a - rnF c a)) ∧ w = w') := Lib.hid (fun w => by
    have h := satSub_any a (rnF c a) w (by omega) (by omega)
    rwa [sat64_mid _ (by omega) (by omega)] at h)
  have EX : Hid (min a (rnR c) = rnF c a) := Lib.hid rfl
  have S := Lib.hid (rn_start w c)
  have G1 := Lib.hid (hg.kept S.out.low)
  have lg : Hid (g < w.heap.size) := Lib.hid hg.lt
  clear hg hc ht hs h hf ha
  generalize a - rnF c a = L at *
  generalize c.c + rnF c a = C at *
  generalize rnF c a = F at *
  generalize rnR c = R at *
  obtain ⟨x1, x2, x3⟩ := rnMin_is EX.out
  clear EX
  go_enter Try.func35, Try.ntmps35
  go_upto_region 1 with fail
  have c0 := S.out.cur.cell 0 rfl; have c1 := S.out.cur.cell 1 rfl; have c2 := S.out.cur.cell 2 rfl
  have g0 := G1.out.cell 0 rfl
  have e0 := cell_by c0
  have e1 := cell_by c1
  have e2 := cell_by c2
  have e3 := cell_by g0
  refine wp_region_quiet_below (by kernel_rfl) (by kernel_rfl) ?_
  repeat (go_big_quiet_step (first
    | (go_at_call 36; refine calls_by (RM.out _))))
  refine wpQuiet_nil ?_
  intro _ hw'
  obtain ⟨⟨wq, Bq⟩, hw''⟩ := hw'
  subst hw''
  have S2 := Lib.hid (S.out.kept Bq)
  have G2 := Lib.hid (G1.out.kept Bq)
  clear e0 e1 e2 e3 c0 c1 c2 g0 S G1 Bq RM x1 x2 x3
  have c0 := S2.out.cur.cell 0 rfl; have c1 := S2.out.cur.cell 1 rfl; have c2 := S2.out.cur.cell 2 rfl; have f0 := S2.out.cur.frozen 0; have f1 := S2.out.cur.frozen 1; have f2 := S2.out.cur.frozen 2
  go_upto_region 3 with (first
    | (go_at_call 30; refine (AD.out _).mono ?_; rintro e w' ⟨rfl, rfl⟩))
  have V := Lib.hid (S2.out.set0 C)
  have G3 := Lib.hid (G2.out.far (p := ⟨w.heap.size, 0, none⟩) (show g ≠ w.heap.size from Nat.ne_of_lt lg.out) (.int .i64 C))
  generalize World.setCell _ _ (.int .i64 C) = W3 at *
  clear c0 c1 c2 f0 f1 f2 S2 G2 AD
  have g0 := G3.out.cell 0 rfl
  have g1 := G3.out.frozen 0
  go_upto_region 4 with (first
    | (go_at_call 31; refine (SU.out _).mono ?_; rintro e w' ⟨rfl, rfl⟩))
  have G4 := Lib.hid (G3.out.set 0 (.int .i64 L))
  have U4 := Lib.hid (V.out.cur.far (p := ⟨g, 0, none⟩) (show w.heap.size ≠ g from (Nat.ne_of_lt lg.out).symm) (.int .i64 L))
  have R4 := Lib.hid (V.out.res.far (p := ⟨g, 0, none⟩) (show w.heap.size + 1 ≠ g by have := lg.out; omega) (.int .i64 L))
  have O4 := Lib.hid ((Out.of V.out.low (· = g)).set (p := ⟨g, 0, none⟩) (.inl rfl) (.int .i64 L))
  obtain ⟨W4, hW4⟩ : ∃ W4, W3.setCell ⟨g, 0, none⟩ (.int .i64 L) = W4 := ⟨_, rfl⟩
  rw [hW4] at G4 U4 R4 O4 ⊢
  clear hW4 g0 g1 G3 V SU
  have Z := Lib.hid ((((O4.out.set (p := ⟨w.heap.size + 1, 0, none⟩) (.inr (Nat.le_succ _)) (.int .i64 C)).set (p := ⟨w.heap.size + 1, 1, none⟩) (.inr (Nat.le_succ _)) (.int .i64 c.t)).set (p := ⟨w.heap.size + 1, 2, none⟩) (.inr (Nat.le_succ _)) (.int .i64 c.k)))
  have G5 := Lib.hid (farN3 (p := w.heap.size + 1) G4.out (show g ≠ w.heap.size + 1 by have := lg.out; omega) (.int .i64 C) (.int .i64 c.t) (.int .i64 c.k))
  have c0 := U4.out.cell 0 rfl; have c1 := U4.out.cell 1 rfl; have c2 := U4.out.cell 2 rfl; have r0 := R4.out.cell 0 rfl; have r1 := R4.out.cell 1 rfl; have r2 := R4.out.cell 2 rfl; have q0 := R4.out.frozen 0; have q1 := R4.out.frozen 1; have q2 := R4.out.frozen 2
  go_wp2_with fail
  exact bodyPost_ret (v := .agg #[.int .i64 C, .int .i64 c.t, .int .i64 c.k]) (by simp [results, Try.results35, go_sem, r0, r1, r2]) rfl ⟨rfl, Z.out, G5.out⟩

theorem div24_any (a b : Int) (w : World) (ha : -9223372036854775808 ≤ a ∧ a ≤ 9223372036854775807) (hb : 0 < b ∧ b ≤ 9223372036854775807) :
    Calls Try.prog 41 #[.int .i64 a, .int .i64 b] w fun e w' => e = .returned (.int .i64 (a / b)) ∧ Below w.heap.size w w' := by
  rw [← fdv_ed a b ha hb.1]
  exact div_pos a b w ha (by omega)
set_option maxHeartbeats 2000000 in
theorem slow_any (c : Rn) (l m s : Int) (g p q : Nat) (w : World) (hc : 1 ≤ c.c ∧ c.c ≤ 1073741824) (hk : 0 ≤ c.k ∧ c.k ≤ 1125899906842623) (hl : 0 ≤ l ∧ l ≤ 16777216)
    (hg : w.cell? ⟨g, 0, none⟩ = some (.int .i64 l)) (hp : w.cell? ⟨p, 0, none⟩ = some (.int .i64 m)) (hq : w.cell? ⟨q, 0, none⟩ = some (.int .i64 s)) :
    Calls Try.prog 37 #[rnW c, .pointer (some ⟨g, 0, none⟩), .pointer (some ⟨p, 0, none⟩), .pointer (some ⟨q, 0, none⟩)] w (RnIs w (rnG c l m s)) := by
  have hs := rnS_bd m
  have hL := rnL_bd (m := m) hl
  have hP := rnP_bd (m := m) s hl
  have hA := rnAll_bd (w := c) (m := m) s hk hl
  have hQ := rnQ_bd hA.1 (show 0 < c.c by omega)
  unfold RnIs rnW rnG
  have SZ : Hid (∀ w, Calls Try.prog 39 #[.int .i64 m] w fun e w' => e = .returned (.int .i64 (rnS m)) ∧ w = w') := Lib.hid (fun w => sized_any m w)
  have MU : Hid (∀ w, Calls Try.prog 38 #[.int .i64 l, .int .i64 (rnS m)] w fun e w' => e = .returned (.int .i64 (l * rnS m)) ∧ w = w') := Lib.hid (fun w => by
    have h := satMul_any l (rnS m) w (by omega) (by omega)
    rwa [sat64_mid _ (by omega) (by omega)] at h)
  have PT : Hid (∀ w, Calls Try.prog 27 #[.int .i64 (l * rnS m), .int .i64 s] w fun e w' => e = .returned (.int .i64 (prs (l * rnS m) (shr s))) ∧ Below w.heap.size w w') := Lib.hid (fun w => part_any _ s w (by omega))
  have AD : Hid (∀ w, Calls Try.prog 30 #[.int .i64 c.k, .int .i64 (prs (l * rnS m) (shr s))] w fun e w' => e = .returned (.int .i64 (rnAll c l m s)) ∧ w = w') := Lib.hid (fun w => by
    have h := satAdd_any c.k (prs (l * rnS m) (shr s)) w (by omega) (by omega)
    rw [sat64_mid _ (by omega) (by omega)] at h
    exact h)
  generalize rnAll c l m s = A at *
  generalize prs (l * rnS m) (shr s) = P at *
  generalize l * rnS m = X at *
  generalize rnS m = Z at *
  have MO : Hid (∀ w, Calls Try.prog 40 #[.int .i64 A, .int .i64 c.c] w fun e w' => e = .returned (.int .i64 (A % c.c)) ∧ w = w') := Lib.hid (fun w => by
    have h := satMod_any A c.c w (by omega) (by omega)
    rwa [fmd_em _ _ (by omega)] at h)
  have DV : Hid (∀ w, Calls Try.prog 41 #[.int .i64 A, .int .i64 c.c] w fun e w' => e = .returned (.int .i64 (A / c.c)) ∧ Below w.heap.size w w') := Lib.hid (fun w => div24_any A c.c w (by omega) (by omega))
  have A2 : Hid (∀ w, Calls Try.prog 30 #[.int .i64 c.c, .int .i64 (A / c.c)] w fun e w' => e = .returned (.int .i64 (c.c + A / c.c)) ∧ w = w') := Lib.hid (fun w => by
    have h := satAdd_any c.c (A / c.c) w (by omega) (by omega)
    rwa [sat64_mid _ (by omega) (by omega)] at h)
  generalize c.c + A / c.c = C at *
  generalize A / c.c = Q at *
  generalize A % c.c = R at *
  have S := Lib.hid (rn_start w c)
  have hg1 := cell_kept S.out.low hg
  have hp1 := cell_kept S.out.low hp
  have hq1 := cell_kept S.out.low hq
  clear hs hL hP hA hQ hc hk hl hg hp hq
  go_enter Try.func37, Try.ntmps37
  go_upto_region 1 with fail
  have c0 := S.out.cur.cell 0 rfl; have c1 := S.out.cur.cell 1 rfl; have c2 := S.out.cur.cell 2 rfl
  have e2 := cell_by c2
  have e3 := cell_by hg1
  have e4 := cell_by hp1
  have e5 := cell_by hq1
  refine wp_region_quiet_below (by kernel_rfl) (by kernel_rfl) ?_
  repeat (go_big_quiet_step (first
    | (go_at_call 39; refine calls_by_same (SZ.out _))
    | (go_at_call 38; refine calls_by_same (MU.out _))
    | (go_at_call 27; refine calls_by (PT.out _))
    | (go_at_call 30; refine calls_by_same (AD.out _))))
  refine wpQuiet_nil ?_
  intro _ hw'
  obtain ⟨⟨wq, Bq⟩, hw''⟩ := hw'
  subst hw''
  have S2 := Lib.hid (S.out.kept Bq)
  clear e2 e3 e4 e5 c0 c1 c2 hg1 hp1 hq1 S Bq SZ MU PT AD
  have c0 := S2.out.cur.cell 0 rfl; have c1 := S2.out.cur.cell 1 rfl; have c2 := S2.out.cur.cell 2 rfl; have f0 := S2.out.cur.frozen 0; have f1 := S2.out.cur.frozen 1; have f2 := S2.out.cur.frozen 2
  go_upto_region 3 with (first
    | (go_at_call 40; refine (MO.out _).mono ?_; rintro e w' ⟨rfl, rfl⟩))
  have V := Lib.hid (S2.out.set2 R)
  generalize World.setCell _ _ (.int .i64 R) = W3 at *
  clear c0 c1 c2 f0 f1 f2 S2 MO
  go_cut [] (fun wx => RnAt w wx ⟨C, c.t, R⟩ rnO)
  case first =>
    have c0 : W3.cell? ⟨w.heap.size, 0, none⟩ = some (.int .i64 c.c) := V.out.cur.cell 0 rfl
    go_region_with (first
      | (go_at_call 41; refine (DV.out _).mono ?_; rintro e w4 ⟨rfl, B4⟩
         replace B4 := new_undrew B4
         have K4 := Lib.hid (V.out.kept B4)
         have V4 := Lib.hid (K4.out.set0 C)
         have k40 : w4.cell? ⟨w.heap.size, 0, none⟩ = some (.int .i64 c.c) := K4.out.cur.cell 0 rfl
         have n40 := K4.out.cur.frozen 0)
      | (go_at_call 30; refine (A2.out _).mono ?_; rintro e w' ⟨rfl, rfl⟩))
    all_goals
      go_wp2_with fail
      go_meet
      exact V4.out
  case rest =>
    have S3 := Lib.hid hcut
    clear hcut V DV A2
    have Z := Lib.hid (S3.out.setR ⟨C, c.t, R⟩)
    have d0 := S3.out.cur.cell 0 rfl; have d1 := S3.out.cur.cell 1 rfl; have d2 := S3.out.cur.cell 2 rfl; have r0 := S3.out.res.cell 0 rfl; have r1 := S3.out.res.cell 1 rfl; have r2 := S3.out.res.cell 2 rfl; have q0 := S3.out.res.frozen 0; have q1 := S3.out.res.frozen 1; have q2 := S3.out.res.frozen 2
    go_wp2_with fail
    exact bodyPost_ret (v := .agg #[.int .i64 C, .int .i64 c.t, .int .i64 R]) (by simp [results, Try.results37, go_sem, r0, r1, r2]) rfl ⟨rfl, Z.out.low⟩
end Go.Proofs.Ytgbcgnlibnkjpaa
