/- Package timer: a timer within its ends, how long it waits, armed, put off, begun anew. -/
import Derived.Test.YtgennncpdfjfcaaTmrM
import Derived.Test.YtgennncpdfjfcaaMem
import Derived.Test.YtgennncpdfjfcaaSatC
import Derived.Test.YtgennncpdfjfcaaQuiB
import Derived.Laws.StructEq
import Derived.StillTailTactics
import Derived.OwnWalk
import Derived.Deep.RegionHeld3
import Derived.Deep.RegionWith
import Derived.Deep.DeepCutAuto
import Derived.Deep.LoopGhost
import Derived.Deep.QuietTactic
import Derived.BigQuiet
import Derived.IntWalk
import Derived.Deep.Light
import Derived.Deep.Onto
namespace Go.Proofs.Ytgennncpdfjfcaa
open Go.ChangeShapes Go.WideShapes Go.ChangeAt Go.RowKit
set_option linter.unusedVariables false

abbrev tmV (c : Tm) : List Value := [.int .i64 c.b, .int .i64 c.m, .int .i64 c.t, .int .i64 c.d]
abbrev tmG (c : Tm) : Value := .agg #[.int .i64 c.b, .int .i64 c.m, .int .i64 c.t, .int .i64 c.d]
def TmIs (w : World) (c : Tm) (e : Ending) (w' : World) : Prop := e = .returned (tmG c) ∧ Below w.heap.size w w'
def TmWas (w : World) (c : Tm) (f : Bool) (e : Ending) (w' : World) : Prop := e = .returned (.tuple #[tmG c, .bool f]) ∧ Below w.heap.size w w'

abbrev tmZ : Tm := ⟨0, 0, 0, 0⟩
theorem tm_set {w : World} {g : Nat} {c : Tm} (h : Blk w g (tmV c) 23) (d : Tm) :
    Blk ((((w.setCell ⟨g, 0, none⟩ (.int .i64 d.b)).setCell ⟨g, 1, none⟩ (.int .i64 d.m)).setCell ⟨g, 2, none⟩ (.int .i64 d.t)).setCell ⟨g, 3, none⟩ (.int .i64 d.d)) g (tmV d) 23 :=
  (((h.set 0 (.int .i64 d.b)).set 1 (.int .i64 d.m)).set 2 (.int .i64 d.t)).set 3 (.int .i64 d.d)
theorem farT4 {w : World} {g p : Nat} {vs : List Value} {t : TypeId} (h : Blk w g vs t) (hp : g ≠ p) (a b c d : Value) :
    Blk ((((w.setCell ⟨p, 0, none⟩ a).setCell ⟨p, 1, none⟩ b).setCell ⟨p, 2, none⟩ c).setCell ⟨p, 3, none⟩ d) g vs t :=
  (((h.far (p := ⟨p, 0, none⟩) hp a).far (p := ⟨p, 1, none⟩) hp b).far (p := ⟨p, 2, none⟩) hp c).far (p := ⟨p, 3, none⟩) hp d
theorem lowT4 {w0 w : World} {p : Nat} (h : Below w0.heap.size w0 w) (hp : w0.heap.size ≤ p) (a b c d : Value) :
    Below w0.heap.size w0 ((((w.setCell ⟨p, 0, none⟩ a).setCell ⟨p, 1, none⟩ b).setCell ⟨p, 2, none⟩ c).setCell ⟨p, 3, none⟩ d) :=
  new_set (new_set (new_set (new_set h (p := ⟨p, 0, none⟩) hp a) (p := ⟨p, 1, none⟩) hp b) (p := ⟨p, 2, none⟩) hp c) (p := ⟨p, 3, none⟩) hp d

/-- Both blocks: what came in, and the answer's room. -/
structure TmAt (w wr : World) (c d : Tm) : Prop where
  cur : Blk wr w.heap.size (tmV c) 23
  res : Blk wr (w.heap.size + 1) (tmV d) 23
  low : Below w.heap.size w wr
theorem tm_start (w : World) (c : Tm) : TmAt w ((w.alloc (.cells #[.int .i64 c.b, .int .i64 c.m, .int .i64 c.t, .int .i64 c.d] 23)).alloc (.cells #[.int .i64 0, .int .i64 0, .int .i64 0, .int .i64 0] 23)) c tmZ :=
  ⟨(Blk.new w (tmV c) _).alloc _, Blk.newAt (alloc_size w _) (tmV tmZ) _, new_alloc (new_alloc (new_refl w) _) _⟩
theorem TmAt.kept {w wr w1 : World} {c d : Tm} (h : TmAt w wr c d) (B : Below wr.heap.size wr w1) : TmAt w w1 c d := ⟨h.cur.kept B, h.res.kept B, new_then h.low B⟩
theorem TmAt.drawN {w wr : World} {c d : Tm} (h : TmAt w wr c d) (n : Nat) : TmAt w (wr.drewN n) c d := ⟨h.cur, h.res, new_draw h.low n⟩
theorem TmAt.drew {w wr : World} {c d : Tm} (h : TmAt w wr c d) : TmAt w wr.drew c d := ⟨h.cur, h.res, new_drew h.low⟩
theorem TmAt.setC {w wr : World} {c d : Tm} (h : TmAt w wr c d) (x : Tm) : TmAt w ((((wr.setCell ⟨w.heap.size, 0, none⟩ (.int .i64 x.b)).setCell ⟨w.heap.size, 1, none⟩ (.int .i64 x.m)).setCell ⟨w.heap.size, 2, none⟩ (.int .i64 x.t)).setCell ⟨w.heap.size, 3, none⟩ (.int .i64 x.d)) x d :=
  ⟨tm_set h.cur x, farT4 h.res (by omega) _ _ _ _, lowT4 h.low (Nat.le_refl _) _ _ _ _⟩
theorem TmAt.setR {w wr : World} {c d : Tm} (h : TmAt w wr c d) (x : Tm) : TmAt w ((((wr.setCell ⟨w.heap.size + 1, 0, none⟩ (.int .i64 x.b)).setCell ⟨w.heap.size + 1, 1, none⟩ (.int .i64 x.m)).setCell ⟨w.heap.size + 1, 2, none⟩ (.int .i64 x.t)).setCell ⟨w.heap.size + 1, 3, none⟩ (.int .i64 x.d)) c x :=
  ⟨farT4 h.cur (by omega) _ _ _ _, tm_set h.res x, lowT4 h.low (Nat.le_succ _) _ _ _ _⟩
theorem TmAt.setD {w wr : World} {c d : Tm} (h : TmAt w wr c d) (x : Int) : TmAt w (wr.setCell ⟨w.heap.size, 3, none⟩ (.int .i64 x)) ⟨c.b, c.m, c.t, x⟩ d :=
  ⟨h.cur.set 3 _, h.res.far (p := ⟨w.heap.size, 3, none⟩) (show w.heap.size + 1 ≠ w.heap.size by omega) _, new_set h.low (p := ⟨w.heap.size, 3, none⟩) (Nat.le_refl _) _⟩

theorem within22_any (c : Tm) (w : World) : Calls Try.prog 16 #[tmG c] w (TmIs w (tmIn c)) := by
  unfold TmIs tmG tmIn
  have EB : Hid (clampI c.b 1 1125899906842624 = tmB c) := Lib.hid rfl
  have EM : Hid (clampI c.m (tmB c) 1125899906842624 = tmM c) := Lib.hid rfl
  have ET : Hid (clampI c.t 0 32 = tmT c) := Lib.hid rfl
  generalize tmB c = B at *
  generalize tmM c = M at *
  generalize tmT c = T at *
  go_enter Try.func16, Try.ntmps16
  go_wp2_with (first
    | (go_at_call_of 21 (Value.int .i64 c.b); refine (satClamp_any _ _ _ _).mono ?_; rintro e w' ⟨rfl, rfl⟩; rw [EB.out])
    | (go_at_call_of 21 (Value.int .i64 c.m); refine (satClamp_any _ _ _ _).mono ?_; rintro e w' ⟨rfl, rfl⟩; rw [EM.out])
    | (go_at_call_of 21 (Value.int .i64 c.t); refine (satClamp_any _ _ _ _).mono ?_; rintro e w' ⟨rfl, rfl⟩; rw [ET.out]))
  exact bodyPost_ret (v := .agg #[.int .i64 B, .int .i64 M, .int .i64 T, .int .i64 c.d]) (by simp [results, Try.results16, go_sem]) rfl ⟨rfl, new_alloc (new_alloc (new_refl w) _) _⟩

theorem counted22_any (n : Int) (w : World) : Calls Try.prog 19 #[.int .i64 n] w fun e w' => e = .returned (.int .i64 (tmNow n)) ∧ w = w' := by
  go_enter Try.func19, Try.ntmps19
  go_wp2_with (go_at_call 21; refine (satClamp_any _ _ _ _).mono ?_; rintro e w' ⟨rfl, rfl⟩)
  go_ret
  exact ⟨rfl, rfl⟩

theorem min_is {X M W : Int} (h : min X M = W) : (if X < M then X else M) = W ∧ (if M < X then M else X) = W ∧ min X M = W := by
  refine ⟨?_, ?_, h⟩ <;> (split <;> omega)
theorem wait22_any (c : Tm) (w : World) : Calls Try.prog 7 #[tmG c] w fun e w' => e = .returned (.int .i64 (tmW c)) ∧ Below w.heap.size w w' := by
  have HW := Lib.hid (tmW_sat c)
  have bB := tmB_bd c
  have bP := tmP_bd c
  have bT := tmT_bd c
  have IN : Hid (∀ w, Calls Try.prog 16 #[.agg #[.int .i64 c.b, .int .i64 c.m, .int .i64 c.t, .int .i64 c.d]] w fun e w' => e = .returned (.agg #[.int .i64 (tmB c), .int .i64 (tmM c), .int .i64 (tmT c), .int .i64 c.d]) ∧ Below w.heap.size w w') := Lib.hid (fun w => within22_any c w)
  have L := Lib.hid (new_alloc (new_refl w) (.cells #[.int .i64 c.b, .int .i64 c.m, .int .i64 c.t, .int .i64 c.d] 23))
  have S := Lib.hid (Blk.new w (tmV c) 23)
  unfold tmG
  obtain ⟨P, eP⟩ : ∃ P, (2 : Int) ^ (tmT c).toNat = P := ⟨_, rfl⟩
  rw [eP] at HW bP
  have hp : wrap64 (2 ^ (tmT c).toNat) = P := by rw [eP]; unfold wrap64; omega
  have MU : Hid (∀ w, Calls Try.prog 17 #[.int .i64 (tmB c), .int .i64 P] w fun e w' => e = .returned (.int .i64 (sat64 (tmB c * P))) ∧ w = w') := Lib.hid (fun w => satMul_any _ _ w (by omega) (by omega))
  clear eP
  generalize tmB c = B at *
  generalize tmM c = M at *
  generalize tmT c = T at *
  generalize sat64 (B * P) = X at *
  obtain ⟨W, eW⟩ : ∃ W, tmW c = W := ⟨_, rfl⟩
  rw [eW] at HW ⊢
  clear eW
  go_enter Try.func7, Try.ntmps7
  go_upto_region 2 with (first
    | (go_at_call 16; refine (IN.out _).mono ?_; rintro e w1 ⟨rfl, B1⟩
       have K := S.out.kept B1
       have D := tm_set K ⟨B, M, T, c.d⟩
       have L2 := Lib.hid (lowT4 (new_then L.out B1) (Nat.le_refl _) (.int .i64 B) (.int .i64 M) (.int .i64 T) (.int .i64 c.d))
       have c0 := K.cell 0 rfl; have c1 := K.cell 1 rfl; have c2 := K.cell 2 rfl; have c3 := K.cell 3 rfl; have f0 := K.frozen 0; have f1 := K.frozen 1; have f2 := K.frozen 2; have f3 := K.frozen 3
       have d0 := D.cell 0 rfl
       have d1 := D.cell 1 rfl
       have d2 := D.cell 2 rfl
       clear K))
  generalize (((w1.setCell ⟨w.heap.size, 0, none⟩ (.int .i64 B)).setCell ⟨w.heap.size, 1, none⟩ (.int .i64 M)).setCell ⟨w.heap.size, 2, none⟩ (.int .i64 T)).setCell ⟨w.heap.size, 3, none⟩ (.int .i64 c.d) = W2 at *
  clear D c0 c1 c2 c3 f0 f1 f2 f3
  obtain ⟨m1, m2, m3⟩ := min_is HW.out
  have e0 := cell_by d0
  have e1 := cell_by d1
  have e2 := cell_by d2
  refine wp_region_quiet_below (by kernel_rfl) (by kernel_rfl) ?_
  repeat (go_big_quiet_step (first
    | (go_at_call 17; refine calls_by_same (MU.out _))))
  refine wpQuiet_nil ?_
  intro _ hw'
  obtain ⟨⟨wq, Bq⟩, hw''⟩ := hw'
  subst hw''
  clear d0 d1 d2 e0 e1 e2
  go_wp2_with fail
  go_ret
  exact ⟨rfl, new_then L2.out Bq⟩
set_option maxHeartbeats 1000000 in
theorem arm22_any (c : Tm) (n : Int) (w : World) : Calls Try.prog 9 #[tmG c, .int .i64 n] w (TmIs w (tmArm c n)) := by
  have bW := tmW_bd c
  have bM := tmM_bd c
  have bB := tmB_bd c
  have bN := tmNow_bd n
  have hs := sat64_mid (tmNow n + tmW c) (by omega) (by omega)
  unfold TmIs tmG tmArm
  have AD : Hid (∀ w, Calls Try.prog 18 #[.int .i64 (tmNow n), .int .i64 (tmW c)] w fun e w' => e = .returned (.int .i64 (tmNow n + tmW c)) ∧ w = w') := Lib.hid (fun w => by
    have h := satAdd_any (tmNow n) (tmW c) w (by omega) (by omega)
    rwa [hs] at h)
  have WA : Hid (∀ w, Calls Try.prog 7 #[.agg #[.int .i64 (tmB c), .int .i64 (tmM c), .int .i64 (tmT c), .int .i64 c.d]] w fun e w' => e = .returned (.int .i64 (tmW c)) ∧ Below w.heap.size w w') := Lib.hid (fun w => by
    have h := wait22_any (tmIn c) w
    rw [tmW_in] at h
    exact h)
  have IN : Hid (∀ w, Calls Try.prog 16 #[.agg #[.int .i64 c.b, .int .i64 c.m, .int .i64 c.t, .int .i64 c.d]] w fun e w' => e = .returned (.agg #[.int .i64 (tmB c), .int .i64 (tmM c), .int .i64 (tmT c), .int .i64 c.d]) ∧ Below w.heap.size w w') := Lib.hid (fun w => within22_any c w)
  have S := Lib.hid (tm_start w c)
  clear hs bW bM bB bN
  generalize tmNow n + tmW c = D at *
  generalize tmB c = B at *
  generalize tmM c = M at *
  generalize tmT c = T at *
  generalize tmW c = W at *
  go_enter Try.func9, Try.ntmps9
  go_upto_region 2 with (first
    | (go_at_call 16; refine (IN.out _).mono ?_; rintro e w1 ⟨rfl, B1⟩
       have K := S.out.kept B1
       have U := Lib.hid (K.setC ⟨B, M, T, c.d⟩)
       have c0 := K.cur.cell 0 rfl; have c1 := K.cur.cell 1 rfl; have c2 := K.cur.cell 2 rfl; have c3 := K.cur.cell 3 rfl; have f0 := K.cur.frozen 0; have f1 := K.cur.frozen 1; have f2 := K.cur.frozen 2; have f3 := K.cur.frozen 3
       clear K))
  obtain ⟨W2, hW2⟩ : ∃ W2, (((w1.setCell ⟨w.heap.size, 0, none⟩ (.int .i64 B)).setCell ⟨w.heap.size, 1, none⟩ (.int .i64 M)).setCell ⟨w.heap.size, 2, none⟩ (.int .i64 T)).setCell ⟨w.heap.size, 3, none⟩ (.int .i64 c.d) = W2 := ⟨_, rfl⟩
  rw [hW2] at U ⊢
  clear c0 c1 c2 c3 f0 f1 f2 f3 B1 hW2
  have d0 := U.out.cur.cell 0 rfl; have d1 := U.out.cur.cell 1 rfl; have d2 := U.out.cur.cell 2 rfl; have d3 := U.out.cur.cell 3 rfl; have g0 := U.out.cur.frozen 0; have g1 := U.out.cur.frozen 1; have g2 := U.out.cur.frozen 2; have g3 := U.out.cur.frozen 3
  go_region_with (first
    | (go_at_call 19; refine (counted22_any _ _).mono ?_; rintro e w3 ⟨rfl, rfl⟩)
    | (go_at_call 7; refine (WA.out _).mono ?_; rintro e w4 ⟨rfl, B4⟩
       replace B4 := new_undrew B4
       have K4 := U.out.kept B4
       have V := Lib.hid (K4.setD D)
       have h3 := K4.cur.cell 3 rfl
       have k3 := K4.cur.frozen 3
       clear K4)
    | (go_at_call 18; refine (AD.out _).mono ?_; rintro e w5 ⟨rfl, rfl⟩))
  all_goals
    have e0 := V.out.cur.cell 0 rfl; have e1 := V.out.cur.cell 1 rfl; have e2 := V.out.cur.cell 2 rfl; have e3 := V.out.cur.cell 3 rfl
    have R := Lib.hid (V.out.setR ⟨B, M, T, D⟩)
    have r0 := V.out.res.cell 0 rfl; have r1 := V.out.res.cell 1 rfl; have r2 := V.out.res.cell 2 rfl; have r3 := V.out.res.cell 3 rfl; have q0 := V.out.res.frozen 0; have q1 := V.out.res.frozen 1; have q2 := V.out.res.frozen 2; have q3 := V.out.res.frozen 3
    clear d0 d1 d2 d3 g0 g1 g2 g3 U B4 h3 k3 AD WA IN S V
    generalize w4.setCell ⟨w.heap.size, 3, none⟩ (.int .i64 D) = W5 at *
    go_wp2_with fail
    exact bodyPost_ret (v := .agg #[.int .i64 B, .int .i64 M, .int .i64 T, .int .i64 D]) (by simp [results, Try.results9, go_sem, r0, r1, r2, r3]) rfl ⟨rfl, R.out.low⟩

theorem off22_any (c : Tm) (w : World) : Calls Try.prog 11 #[tmG c] w (TmIs w ⟨tmB c, tmM c, tmT c, -1⟩) := by
  unfold TmIs tmG
  have IN : Hid (∀ w, Calls Try.prog 16 #[.agg #[.int .i64 c.b, .int .i64 c.m, .int .i64 c.t, .int .i64 c.d]] w fun e w' => e = .returned (.agg #[.int .i64 (tmB c), .int .i64 (tmM c), .int .i64 (tmT c), .int .i64 c.d]) ∧ Below w.heap.size w w') := Lib.hid (fun w => within22_any c w)
  have S := Lib.hid (tm_start w c)
  generalize tmB c = B at *
  generalize tmM c = M at *
  generalize tmT c = T at *
  go_enter Try.func11, Try.ntmps11
  go_upto_region 2 with (first
    | (go_at_call 16; refine (IN.out _).mono ?_; rintro e w1 ⟨rfl, B1⟩
       have K := S.out.kept B1
       have U := Lib.hid (K.setC ⟨B, M, T, c.d⟩)
       have c0 := K.cur.cell 0 rfl; have c1 := K.cur.cell 1 rfl; have c2 := K.cur.cell 2 rfl; have c3 := K.cur.cell 3 rfl; have f0 := K.cur.frozen 0; have f1 := K.cur.frozen 1; have f2 := K.cur.frozen 2; have f3 := K.cur.frozen 3
       clear K))
  obtain ⟨W2, hW2⟩ : ∃ W2, (((w1.setCell ⟨w.heap.size, 0, none⟩ (.int .i64 B)).setCell ⟨w.heap.size, 1, none⟩ (.int .i64 M)).setCell ⟨w.heap.size, 2, none⟩ (.int .i64 T)).setCell ⟨w.heap.size, 3, none⟩ (.int .i64 c.d) = W2 := ⟨_, rfl⟩
  rw [hW2] at U ⊢
  clear c0 c1 c2 c3 f0 f1 f2 f3 B1 hW2
  have V := Lib.hid (U.out.setD (-1))
  have R := Lib.hid (V.out.setR ⟨B, M, T, -1⟩)
  have d0 := U.out.cur.cell 0 rfl; have d1 := U.out.cur.cell 1 rfl; have d2 := U.out.cur.cell 2 rfl; have d3 := U.out.cur.cell 3 rfl; have g0 := U.out.cur.frozen 0; have g1 := U.out.cur.frozen 1; have g2 := U.out.cur.frozen 2; have g3 := U.out.cur.frozen 3
  have r0 := V.out.res.cell 0 rfl; have r1 := V.out.res.cell 1 rfl; have r2 := V.out.res.cell 2 rfl; have r3 := V.out.res.cell 3 rfl; have q0 := V.out.res.frozen 0; have q1 := V.out.res.frozen 1; have q2 := V.out.res.frozen 2; have q3 := V.out.res.frozen 3
  have s0 := V.out.cur.cell 0 rfl; have s1 := V.out.cur.cell 1 rfl; have s2 := V.out.cur.cell 2 rfl; have s3 := V.out.cur.cell 3 rfl
  clear U V IN S
  go_wp2_with fail
  exact bodyPost_ret (v := .agg #[.int .i64 B, .int .i64 M, .int .i64 T, .int .i64 (-1)]) (by simp [results, Try.results11, go_sem, r0, r1, r2, r3]) rfl ⟨rfl, R.out.low⟩

theorem heard22_any (c : Tm) (b n : Int) (w : World) : Calls Try.prog 12 #[tmG c, .int .i64 b, .int .i64 n] w (TmIs w (tmArm ⟨b, c.m, 0, c.d⟩ n)) := by
  have AR : Hid (∀ w, Calls Try.prog 9 #[.agg #[.int .i64 b, .int .i64 c.m, .int .i64 0, .int .i64 c.d], .int .i64 n] w fun e w' => e = .returned (tmG (tmArm ⟨b, c.m, 0, c.d⟩ n)) ∧ Below w.heap.size w w') := Lib.hid (fun w => arm22_any ⟨b, c.m, 0, c.d⟩ n w)
  unfold TmIs
  generalize tmArm ⟨b, c.m, 0, c.d⟩ n = D at *
  have S := Lib.hid (tm_start w ⟨b, c.m, 0, c.d⟩)
  unfold tmG at *
  go_enter Try.func12, Try.ntmps12
  go_wp2_with (first
    | (go_at_call 9; refine (AR.out _).mono ?_; rintro e w1 ⟨rfl, B1⟩
       have K := S.out.kept B1
       have R := Lib.hid (K.setR D)
       have r0 := K.res.cell 0 rfl; have r1 := K.res.cell 1 rfl; have r2 := K.res.cell 2 rfl; have r3 := K.res.cell 3 rfl; have q0 := K.res.frozen 0; have q1 := K.res.frozen 1; have q2 := K.res.frozen 2; have q3 := K.res.frozen 3
       clear K))
  exact bodyPost_ret (v := .agg #[.int .i64 D.b, .int .i64 D.m, .int .i64 D.t, .int .i64 D.d]) (by simp [results, Try.results12, go_sem, r0, r1, r2, r3]) rfl ⟨rfl, R.out.low⟩
end Go.Proofs.Ytgennncpdfjfcaa
