/- Package reno: sizes, a window within its ends, how far below Thresh it is. -/
import Derived.Test.YtgbcgnlibnkjpaaRenM
import Derived.Test.YtgbcgnlibnkjpaaMem
import Derived.Test.YtgbcgnlibnkjpaaSatC
import Derived.Test.YtgbcgnlibnkjpaaFixB
import Derived.Test.YtgbcgnlibnkjpaaQuiB
import Derived.Laws.StructEq
import Derived.StillTailTactics
import Derived.OwnWalk
import Derived.Deep.RegionHeld3
import Derived.Deep.RegionWith
import Derived.Deep.CutBlock
import Derived.Deep.DeepCutAuto
import Derived.Deep.LoopGhost
import Derived.Deep.QuietTactic
import Derived.BigQuiet
import Derived.IntWalk
import Derived.Deep.Light
import Derived.Deep.Onto
namespace Go.Proofs.Ytgbcgnlibnkjpaa
open Go.ChangeShapes Go.WideShapes Go.ChangeAt Go.RowKit
set_option linter.unusedVariables false

abbrev rnV (c : Rn) : List Value := [.int .i64 c.c, .int .i64 c.t, .int .i64 c.k]
abbrev rnW (c : Rn) : Value := .agg #[.int .i64 c.c, .int .i64 c.t, .int .i64 c.k]
def RnIs (w : World) (c : Rn) (e : Ending) (w' : World) : Prop := e = .returned (rnW c) ∧ Below w.heap.size w w'
abbrev rnO : Rn := ⟨0, 0, 0⟩
theorem rn_set {w : World} {g : Nat} {c : Rn} (h : Blk w g (rnV c) 27) (d : Rn) :
    Blk (((w.setCell ⟨g, 0, none⟩ (.int .i64 d.c)).setCell ⟨g, 1, none⟩ (.int .i64 d.t)).setCell ⟨g, 2, none⟩ (.int .i64 d.k)) g (rnV d) 27 :=
  ((h.set 0 (.int .i64 d.c)).set 1 (.int .i64 d.t)).set 2 (.int .i64 d.k)
theorem farN3 {w : World} {g p : Nat} {vs : List Value} {t : TypeId} (h : Blk w g vs t) (hp : g ≠ p) (a b c : Value) :
    Blk (((w.setCell ⟨p, 0, none⟩ a).setCell ⟨p, 1, none⟩ b).setCell ⟨p, 2, none⟩ c) g vs t :=
  ((h.far (p := ⟨p, 0, none⟩) hp a).far (p := ⟨p, 1, none⟩) hp b).far (p := ⟨p, 2, none⟩) hp c
theorem lowN3 {w0 w : World} {p : Nat} (h : Below w0.heap.size w0 w) (hp : w0.heap.size ≤ p) (a b c : Value) :
    Below w0.heap.size w0 (((w.setCell ⟨p, 0, none⟩ a).setCell ⟨p, 1, none⟩ b).setCell ⟨p, 2, none⟩ c) :=
  new_set (new_set (new_set h (p := ⟨p, 0, none⟩) hp a) (p := ⟨p, 1, none⟩) hp b) (p := ⟨p, 2, none⟩) hp c
/-- Both blocks: what came in, and the answer's room. -/
structure RnAt (w wr : World) (c d : Rn) : Prop where
  cur : Blk wr w.heap.size (rnV c) 27
  res : Blk wr (w.heap.size + 1) (rnV d) 27
  low : Below w.heap.size w wr
theorem rn_start (w : World) (c : Rn) : RnAt w ((w.alloc (.cells #[.int .i64 c.c, .int .i64 c.t, .int .i64 c.k] 27)).alloc (.cells #[.int .i64 0, .int .i64 0, .int .i64 0] 27)) c rnO :=
  ⟨(Blk.new w (rnV c) _).alloc _, Blk.newAt (alloc_size w _) (rnV rnO) _, new_alloc (new_alloc (new_refl w) _) _⟩
theorem RnAt.kept {w wr w1 : World} {c d : Rn} (h : RnAt w wr c d) (B : Below wr.heap.size wr w1) : RnAt w w1 c d := ⟨h.cur.kept B, h.res.kept B, new_then h.low B⟩
theorem RnAt.drew {w wr : World} {c d : Rn} (h : RnAt w wr c d) : RnAt w wr.drew c d := ⟨h.cur, h.res, new_drew h.low⟩
theorem RnAt.setC {w wr : World} {c d : Rn} (h : RnAt w wr c d) (x : Rn) : RnAt w (((wr.setCell ⟨w.heap.size, 0, none⟩ (.int .i64 x.c)).setCell ⟨w.heap.size, 1, none⟩ (.int .i64 x.t)).setCell ⟨w.heap.size, 2, none⟩ (.int .i64 x.k)) x d :=
  ⟨rn_set h.cur x, farN3 h.res (by omega) _ _ _, lowN3 h.low (Nat.le_refl _) _ _ _⟩
theorem RnAt.setR {w wr : World} {c d : Rn} (h : RnAt w wr c d) (x : Rn) : RnAt w (((wr.setCell ⟨w.heap.size + 1, 0, none⟩ (.int .i64 x.c)).setCell ⟨w.heap.size + 1, 1, none⟩ (.int .i64 x.t)).setCell ⟨w.heap.size + 1, 2, none⟩ (.int .i64 x.k)) c x :=
  ⟨farN3 h.cur (by omega) _ _ _, rn_set h.res x, lowN3 h.low (Nat.le_succ _) _ _ _⟩
theorem RnAt.set0 {w wr : World} {c d : Rn} (h : RnAt w wr c d) (x : Int) : RnAt w (wr.setCell ⟨w.heap.size, 0, none⟩ (.int .i64 x)) ⟨x, c.t, c.k⟩ d :=
  ⟨h.cur.set 0 _, h.res.far (p := ⟨w.heap.size, 0, none⟩) (show w.heap.size + 1 ≠ w.heap.size by omega) _, new_set h.low (p := ⟨w.heap.size, 0, none⟩) (Nat.le_refl _) _⟩
theorem RnAt.set1 {w wr : World} {c d : Rn} (h : RnAt w wr c d) (x : Int) : RnAt w (wr.setCell ⟨w.heap.size, 1, none⟩ (.int .i64 x)) ⟨c.c, x, c.k⟩ d :=
  ⟨h.cur.set 1 _, h.res.far (p := ⟨w.heap.size, 1, none⟩) (show w.heap.size + 1 ≠ w.heap.size by omega) _, new_set h.low (p := ⟨w.heap.size, 1, none⟩) (Nat.le_refl _) _⟩
theorem RnAt.set2 {w wr : World} {c d : Rn} (h : RnAt w wr c d) (x : Int) : RnAt w (wr.setCell ⟨w.heap.size, 2, none⟩ (.int .i64 x)) ⟨c.c, c.t, x⟩ d :=
  ⟨h.cur.set 2 _, h.res.far (p := ⟨w.heap.size, 2, none⟩) (show w.heap.size + 1 ≠ w.heap.size by omega) _, new_set h.low (p := ⟨w.heap.size, 2, none⟩) (Nat.le_refl _) _⟩

theorem sized_any (m : Int) (w : World) : Calls Try.prog 39 #[.int .i64 m] w fun e w' => e = .returned (.int .i64 (rnS m)) ∧ w = w' := by
  go_enter Try.func39, Try.ntmps39
  go_wp2_with (go_at_call 34; refine (satClamp_any _ _ _ _).mono ?_; rintro e w' ⟨rfl, rfl⟩)
  go_ret
  exact ⟨rfl, rfl⟩
theorem twice24_any (m : Int) (w : World) : Calls Try.prog 47 #[.int .i64 m] w fun e w' => e = .returned (.int .i64 (2 * rnS m)) ∧ w = w' := by
  have b := rnS_bd m
  have MU : Hid (∀ w, Calls Try.prog 38 #[.int .i64 2, .int .i64 (rnS m)] w fun e w' => e = .returned (.int .i64 (2 * rnS m)) ∧ w = w') := Lib.hid (fun w => by
    have h := satMul_any 2 (rnS m) w (by omega) (by omega)
    rwa [sat64_mid _ (by omega) (by omega)] at h)
  have SZ : Hid (∀ w, Calls Try.prog 39 #[.int .i64 m] w fun e w' => e = .returned (.int .i64 (rnS m)) ∧ w = w') := Lib.hid (fun w => sized_any m w)
  generalize rnS m = S at *
  go_enter Try.func47, Try.ntmps47
  go_wp2_with (first
    | (go_at_call 39; refine (SZ.out _).mono ?_; rintro e w' ⟨rfl, rfl⟩)
    | (go_at_call 38; refine (MU.out _).mono ?_; rintro e w' ⟨rfl, rfl⟩))
  go_ret
  exact ⟨rfl, rfl⟩
theorem room24_any (c : Rn) (w : World) (hc : 0 ≤ c.c ∧ c.c ≤ 1073741824) (ht : 0 ≤ c.t ∧ c.t ≤ 1073741824) :
    Calls Try.prog 36 #[rnW c] w fun e w' => e = .returned (.int .i64 (rnR c)) ∧ Below w.heap.size w w' := by
  have L := Lib.hid (new_alloc (new_refl w) (.cells #[.int .i64 c.c, .int .i64 c.t, .int .i64 c.k] 27))
  obtain ⟨D, hD⟩ : ∃ D, c.t - c.c = D := ⟨_, rfl⟩
  have MU : Hid (∀ w, Calls Try.prog 31 #[.int .i64 c.t, .int .i64 c.c] w fun e w' => e = .returned (.int .i64 D) ∧ w = w') := Lib.hid (fun w => by
    have h := satSub_any c.t c.c w (by omega) (by omega)
    rwa [sat64_mid _ (by omega) (by omega), hD] at h)
  obtain ⟨m1, m2, m3⟩ : (if D < 0 then 0 else D) = rnR c ∧ (if 0 < D then D else 0) = rnR c ∧ max D 0 = rnR c := rnMax_is (by unfold rnR; rw [hD])
  clear hD hc ht
  generalize rnR c = R at *
  go_enter Try.func36, Try.ntmps36
  go_wp2_with (go_at_call 31; refine (MU.out _).mono ?_; rintro e w' ⟨rfl, rfl⟩)
  go_ret
  exact ⟨rfl, L.out⟩
set_option maxHeartbeats 1000000 in
theorem within24_any (c : Rn) (m : Int) (w : World) : Calls Try.prog 57 #[rnW c, .int .i64 m] w (RnIs w (rnIn c m)) := by
  unfold RnIs rnW rnIn
  have SZ : Hid (∀ w, Calls Try.prog 39 #[.int .i64 m] w fun e w' => e = .returned (.int .i64 (rnS m)) ∧ w = w') := Lib.hid (fun w => sized_any m w)
  have EC : Hid (clampI c.c (rnS m) 1073741824 = rnC c m) := Lib.hid rfl
  have ET : Hid (clampI c.t 0 1073741824 = rnT c) := Lib.hid rfl
  have EK : Hid (clampI c.k 0 1125899906842623 = rnK c) := Lib.hid rfl
  have S := Lib.hid (rn_start w c)
  generalize rnC c m = C at *
  generalize rnT c = T at *
  generalize rnK c = K at *
  generalize rnS m = Z at *
  go_enter Try.func57, Try.ntmps57
  go_upto_region 1 with fail
  go_cut [] (fun wx => RnAt w wx ⟨C, c.t, c.k⟩ rnO)
  case first =>
    have c0 := S.out.cur.cell 0 rfl; have c1 := S.out.cur.cell 1 rfl; have c2 := S.out.cur.cell 2 rfl
    have V := Lib.hid (rn_start w ⟨C, c.t, c.k⟩).drew
    go_region_with (first
      | (go_at_call 39; refine (SZ.out _).mono ?_; rintro e w' ⟨rfl, rfl⟩)
      | (go_at_call_of 34 (Value.int .i64 c.c); refine (satClamp_any _ _ _ _).mono ?_; rintro e w' ⟨rfl, rfl⟩; rw [EC.out]))
    all_goals
      go_wp2_with fail
      go_meet
      exact V.out
  case rest =>
    have S2 := Lib.hid hcut
    clear hcut S SZ EC
    have c0 := S2.out.cur.cell 0 rfl; have c1 := S2.out.cur.cell 1 rfl; have c2 := S2.out.cur.cell 2 rfl; have f0 := S2.out.cur.frozen 0; have f1 := S2.out.cur.frozen 1; have f2 := S2.out.cur.frozen 2
    go_upto_region 4 with (first
      | (go_at_call_of 34 (Value.int .i64 c.t); refine (satClamp_any _ _ _ _).mono ?_; rintro e w' ⟨rfl, rfl⟩; rw [ET.out])
      | (go_at_call_of 34 (Value.int .i64 c.k); refine (satClamp_any _ _ _ _).mono ?_; rintro e w' ⟨rfl, rfl⟩; rw [EK.out]))
    have V := Lib.hid ((S2.out.set1 T).set2 K)
    obtain ⟨W2, hW2⟩ : ∃ W2, (wc.setCell ⟨w.heap.size, 1, none⟩ (.int .i64 T)).setCell ⟨w.heap.size, 2, none⟩ (.int .i64 K) = W2 := ⟨_, rfl⟩
    replace V : Hid (RnAt w W2 ⟨C, T, K⟩ rnO) := Lib.hid (by rw [← hW2]; exact V.out)
    rw [hW2]
    clear hW2 c0 c1 c2 f0 f1 f2 S2
    have d0 := V.out.cur.cell 0 rfl; have d1 := V.out.cur.cell 1 rfl; have d2 := V.out.cur.cell 2 rfl
    have Z := Lib.hid (V.out.setR ⟨C, T, K⟩)
    have r0 := V.out.res.cell 0 rfl; have r1 := V.out.res.cell 1 rfl; have r2 := V.out.res.cell 2 rfl; have q0 := V.out.res.frozen 0; have q1 := V.out.res.frozen 1; have q2 := V.out.res.frozen 2
    go_wp2_with fail
    exact bodyPost_ret (v := .agg #[.int .i64 C, .int .i64 T, .int .i64 K]) (by simp [results, Try.results57, go_sem, r0, r1, r2]) rfl ⟨rfl, Z.out.low⟩
end Go.Proofs.Ytgbcgnlibnkjpaa
