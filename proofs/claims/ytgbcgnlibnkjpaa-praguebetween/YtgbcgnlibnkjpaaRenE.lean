/- Package reno: Cut, Collapse: their one step, within the ends ahead of it and behind it. -/
import Derived.Test.YtgbcgnlibnkjpaaRenD
namespace Go.Proofs.Ytgbcgnlibnkjpaa
open Go.ChangeShapes Go.WideShapes Go.ChangeAt Go.RowKit
set_option linter.unusedVariables false

/-- The one step is still to come, or was taken. -/
def GoneI (w : World) (d e : Rn) (gh : Nat) (vi : Value) (wr : World) : Prop := (gh = 1 ∧ vi = .int .i64 0 ∧ RnAt w wr d rnO) ∨ (gh = 0 ∧ vi = .int .i64 1 ∧ RnAt w wr e rnO)
set_option maxHeartbeats 1000000 in
theorem goneCut_any (c : Rn) (s m : Int) (b p q : Nat) (w : World) (hb : Blk w b [.func (.func 46) #[] #[.pointer (some ⟨p, 0, none⟩), .pointer (some ⟨q, 0, none⟩)]] 57) (hp : w.cell? ⟨p, 0, none⟩ = some (.int .i64 s)) (hq : w.cell? ⟨q, 0, none⟩ = some (.int .i64 m)) :
    Calls Try.prog 42 #[rnW c, .int .i64 m, .slice (some ⟨b, 0, none⟩) 1 1] w (RnIs w (rnCut c s m)) := by
  unfold RnIs rnW
  have IN : Hid (∀ w, Calls Try.prog 57 #[.agg #[.int .i64 c.c, .int .i64 c.t, .int .i64 c.k], .int .i64 m] w fun e w' => e = .returned (rnW (rnIn c m)) ∧ Below w.heap.size w w') := Lib.hid (fun w => within24_any c m w)
  have EN : Hid (∀ w, Calls Try.prog 57 #[rnW (rnCut c s m), .int .i64 m] w fun e w' => e = .returned (rnW (rnCut c s m)) ∧ Below w.heap.size w w') := Lib.hid (fun w => by
    have h := within24_any (rnCut c s m) m w
    rw [(rnCut_ok c s m).own] at h
    exact h)
  have CL : Hid (∀ w, w.cell? ⟨p, 0, none⟩ = some (.int .i64 s) → w.cell? ⟨q, 0, none⟩ = some (.int .i64 m) → Calls Try.prog 46 #[rnW (rnIn c m), .pointer (some ⟨p, 0, none⟩), .pointer (some ⟨q, 0, none⟩)] w fun e w' => e = .returned (rnW (rnCut c s m)) ∧ Below w.heap.size w w') := Lib.hid (fun w hp hq => cut1_any (rnIn c m) s m p q w (rnIn_ok c m) hp hq)
  have S := Lib.hid (rn_start w c)
  have HB := Lib.hid hb
  have Hp := Lib.hid hp
  have Hq := Lib.hid hq
  clear hb hp hq
  obtain ⟨d, hd⟩ : ∃ d, rnIn c m = d := ⟨_, rfl⟩
  obtain ⟨e0, he⟩ : ∃ e, rnCut c s m = e := ⟨_, rfl⟩
  rw [hd] at IN CL
  rw [he] at EN CL ⊢
  clear hd he
  unfold rnW at IN EN CL
  go_enter Try.func42, Try.ntmps42
  have c0 := S.out.cur.cell 0 rfl; have c1 := S.out.cur.cell 1 rfl; have c2 := S.out.cur.cell 2 rfl; have f0 := S.out.cur.frozen 0; have f1 := S.out.cur.frozen 1; have f2 := S.out.cur.frozen 2
  go_upto_region 2 with (first
    | (go_at_call 57; refine (IN.out _).mono ?_; rintro e w1 ⟨rfl, B1⟩
       have K := Lib.hid (S.out.kept B1)
       have V := Lib.hid (K.out.setC d)
       have k0 := K.out.cur.cell 0 rfl; have k1 := K.out.cur.cell 1 rfl; have k2 := K.out.cur.cell 2 rfl; have g0 := K.out.cur.frozen 0; have g1 := K.out.cur.frozen 1; have g2 := K.out.cur.frozen 2))
  obtain ⟨W2, hW2⟩ : ∃ W2, ((w1.setCell ⟨w.heap.size, 0, none⟩ (.int .i64 d.c)).setCell ⟨w.heap.size, 1, none⟩ (.int .i64 d.t)).setCell ⟨w.heap.size, 2, none⟩ (.int .i64 d.k) = W2 := ⟨_, rfl⟩
  replace V : Hid (RnAt w W2 d rnO) := Lib.hid (by rw [← hW2]; exact V.out)
  rw [hW2]
  clear hW2 c0 c1 c2 f0 f1 f2 k0 k1 k2 g0 g1 g2 K B1 S IN
  go_wp2_with fail
  go_loopg [14] 1 (fun gh vi wr => GoneI w d e0 gh vi wr)
  case atStart => exact .inl ⟨rfl, rfl, V.out⟩
  case round =>
    clear V
    rcases hrel with ⟨rfl, rfl, C⟩ | ⟨rfl, rfl, C⟩
    · have HC := Lib.hid C
      have b0 := (HB.out.kept C.low).cell 0 rfl
      have kp := cell_kept C.low Hp.out
      have kq := cell_kept C.low Hq.out
      have c0 := C.cur.cell 0 rfl; have c1 := C.cur.cell 1 rfl; have c2 := C.cur.cell 2 rfl; have f0 := C.cur.frozen 0; have f1 := C.cur.frozen 1; have f2 := C.cur.frozen 2
      clear C
      go_wp2_with (first
        | (go_at_call 46; refine (CL.out _ kp kq).mono ?_; rintro e w2 ⟨rfl, B2⟩
           have K := Lib.hid (HC.out.kept B2)
           have V := Lib.hid (K.out.setC e0)
           have l0 := K.out.cur.cell 0 rfl; have l1 := K.out.cur.cell 1 rfl; have l2 := K.out.cur.cell 2 rfl; have g0 := K.out.cur.frozen 0; have g1 := K.out.cur.frozen 1; have g2 := K.out.cur.frozen 2))
      go_roundg 0
      case measure => omega
      case rel => exact .inr ⟨rfl, by go_num, V.out⟩
    · have HC := Lib.hid C
      have c0 := C.cur.cell 0 rfl; have c1 := C.cur.cell 1 rfl; have c2 := C.cur.cell 2 rfl; have f0 := C.cur.frozen 0; have f1 := C.cur.frozen 1; have f2 := C.cur.frozen 2
      clear C
      go_wp2_with (first
        | (go_at_call 57; refine (EN.out _).mono ?_; rintro e w2 ⟨rfl, B2⟩
           have K := Lib.hid (HC.out.kept B2)
           have V := Lib.hid (K.out.setR e0)
           have r0 := K.out.res.cell 0 rfl; have r1 := K.out.res.cell 1 rfl; have r2 := K.out.res.cell 2 rfl; have g0 := K.out.res.frozen 0; have g1 := K.out.res.frozen 1; have g2 := K.out.res.frozen 2))
      exact bodyPost_ret (v := .agg #[.int .i64 e0.c, .int .i64 e0.t, .int .i64 e0.k]) (by simp [results, Try.results42, go_sem, r0, r1, r2]) rfl ⟨rfl, V.out.low⟩
end Go.Proofs.Ytgbcgnlibnkjpaa
