/- Package pacer: within. -/
import Derived.Test.YtimipikabedjnaaPacA
namespace Go.Proofs.Ytimipikabedjnaa
open Go.ChangeShapes Go.WideShapes Go.ChangeAt Go.RowKit
set_option linter.unusedVariables false

abbrev pcO : Pc := ⟨0, 0, 0, 0⟩
theorem pc_set {w : World} {g : Nat} {c : Pc} (h : Blk w g (pcV c) 23) (d : Pc) :
    Blk ((((w.setCell ⟨g, 0, none⟩ (.int .i64 d.r)).setCell ⟨g, 1, none⟩ (.int .i64 d.u)).setCell ⟨g, 2, none⟩ (.int .i64 d.l)).setCell ⟨g, 3, none⟩ (.int .i64 d.a)) g (pcV d) 23 :=
  (((h.set 0 (.int .i64 d.r)).set 1 (.int .i64 d.u)).set 2 (.int .i64 d.l)).set 3 (.int .i64 d.a)
theorem farP4 {w : World} {g p : Nat} {vs : List Value} {t : TypeId} (h : Blk w g vs t) (hp : g ≠ p) (a b c d : Value) :
    Blk ((((w.setCell ⟨p, 0, none⟩ a).setCell ⟨p, 1, none⟩ b).setCell ⟨p, 2, none⟩ c).setCell ⟨p, 3, none⟩ d) g vs t :=
  (((h.far (p := ⟨p, 0, none⟩) hp a).far (p := ⟨p, 1, none⟩) hp b).far (p := ⟨p, 2, none⟩) hp c).far (p := ⟨p, 3, none⟩) hp d
theorem lowP4 {w0 w : World} {p : Nat} (h : Below w0.heap.size w0 w) (hp : w0.heap.size ≤ p) (a b c d : Value) :
    Below w0.heap.size w0 ((((w.setCell ⟨p, 0, none⟩ a).setCell ⟨p, 1, none⟩ b).setCell ⟨p, 2, none⟩ c).setCell ⟨p, 3, none⟩ d) :=
  new_set (new_set (new_set (new_set h (p := ⟨p, 0, none⟩) hp a) (p := ⟨p, 1, none⟩) hp b) (p := ⟨p, 2, none⟩) hp c) (p := ⟨p, 3, none⟩) hp d
/-- Both blocks: what came in, and the answer's room. -/
structure PcAt (w wr : World) (c d : Pc) : Prop where
  cur : Blk wr w.heap.size (pcV c) 23
  res : Blk wr (w.heap.size + 1) (pcV d) 23
  low : Below w.heap.size w wr
theorem pc_start (w : World) (c : Pc) : PcAt w ((w.alloc (.cells #[.int .i64 c.r, .int .i64 c.u, .int .i64 c.l, .int .i64 c.a] 23)).alloc (.cells #[.int .i64 0, .int .i64 0, .int .i64 0, .int .i64 0] 23)) c pcO :=
  ⟨(Blk.new w (pcV c) _).alloc _, Blk.newAt (alloc_size w _) (pcV pcO) _, new_alloc (new_alloc (new_refl w) _) _⟩
theorem PcAt.kept {w wr w1 : World} {c d : Pc} (h : PcAt w wr c d) (B : Below wr.heap.size wr w1) : PcAt w w1 c d := ⟨h.cur.kept B, h.res.kept B, new_then h.low B⟩
theorem PcAt.setC {w wr : World} {c d : Pc} (h : PcAt w wr c d) (x : Pc) : PcAt w ((((wr.setCell ⟨w.heap.size, 0, none⟩ (.int .i64 x.r)).setCell ⟨w.heap.size, 1, none⟩ (.int .i64 x.u)).setCell ⟨w.heap.size, 2, none⟩ (.int .i64 x.l)).setCell ⟨w.heap.size, 3, none⟩ (.int .i64 x.a)) x d :=
  ⟨pc_set h.cur x, farP4 h.res (by omega) _ _ _ _, lowP4 h.low (Nat.le_refl _) _ _ _ _⟩
theorem PcAt.setR {w wr : World} {c d : Pc} (h : PcAt w wr c d) (x : Pc) : PcAt w ((((wr.setCell ⟨w.heap.size + 1, 0, none⟩ (.int .i64 x.r)).setCell ⟨w.heap.size + 1, 1, none⟩ (.int .i64 x.u)).setCell ⟨w.heap.size + 1, 2, none⟩ (.int .i64 x.l)).setCell ⟨w.heap.size + 1, 3, none⟩ (.int .i64 x.a)) c x :=
  ⟨farP4 h.cur (by omega) _ _ _ _, pc_set h.res x, lowP4 h.low (Nat.le_succ _) _ _ _ _⟩
theorem PcAt.set0 {w wr : World} {c d : Pc} (h : PcAt w wr c d) (x : Int) : PcAt w (wr.setCell ⟨w.heap.size, 0, none⟩ (.int .i64 x)) ⟨x, c.u, c.l, c.a⟩ d :=
  ⟨h.cur.set 0 _, h.res.far (p := ⟨w.heap.size, 0, none⟩) (show w.heap.size + 1 ≠ w.heap.size by omega) _, new_set h.low (p := ⟨w.heap.size, 0, none⟩) (Nat.le_refl _) _⟩
theorem PcAt.set1 {w wr : World} {c d : Pc} (h : PcAt w wr c d) (x : Int) : PcAt w (wr.setCell ⟨w.heap.size, 1, none⟩ (.int .i64 x)) ⟨c.r, x, c.l, c.a⟩ d :=
  ⟨h.cur.set 1 _, h.res.far (p := ⟨w.heap.size, 1, none⟩) (show w.heap.size + 1 ≠ w.heap.size by omega) _, new_set h.low (p := ⟨w.heap.size, 1, none⟩) (Nat.le_refl _) _⟩
theorem PcAt.set2 {w wr : World} {c d : Pc} (h : PcAt w wr c d) (x : Int) : PcAt w (wr.setCell ⟨w.heap.size, 2, none⟩ (.int .i64 x)) ⟨c.r, c.u, x, c.a⟩ d :=
  ⟨h.cur.set 2 _, h.res.far (p := ⟨w.heap.size, 2, none⟩) (show w.heap.size + 1 ≠ w.heap.size by omega) _, new_set h.low (p := ⟨w.heap.size, 2, none⟩) (Nat.le_refl _) _⟩
theorem PcAt.set3 {w wr : World} {c d : Pc} (h : PcAt w wr c d) (x : Int) : PcAt w (wr.setCell ⟨w.heap.size, 3, none⟩ (.int .i64 x)) ⟨c.r, c.u, c.l, x⟩ d :=
  ⟨h.cur.set 3 _, h.res.far (p := ⟨w.heap.size, 3, none⟩) (show w.heap.size + 1 ≠ w.heap.size by omega) _, new_set h.low (p := ⟨w.heap.size, 3, none⟩) (Nat.le_refl _) _⟩

set_option maxHeartbeats 2000000 in
theorem within23_any (c : Pc) (w : World) : Calls Try.prog 18 #[pcG' c] w (PcIs w (pcIn c)) := by
  unfold PcIs pcG' pcIn
  have bu := pcE_bd c.u
  have RR : Hid (∀ w, Calls Try.prog 28 #[.int .i64 c.r] w fun e w' => e = .returned (.int .i64 (pcE c.r)) ∧ Below w.heap.size w w') := Lib.hid (fun w => rated23_any c.r w)
  have RU : Hid (∀ w, Calls Try.prog 28 #[.int .i64 c.u] w fun e w' => e = .returned (.int .i64 (pcE c.u)) ∧ Below w.heap.size w w') := Lib.hid (fun w => rated23_any c.u w)
  have CO : Hid (∀ w, Calls Try.prog 19 #[.int .i64 c.a] w fun e w' => e = .returned (.int .i64 (pcN c.a)) ∧ Below w.heap.size w w') := Lib.hid (fun w => counted23_any c.a w)
  have FU : Hid (∀ w, Calls Try.prog 23 #[.agg #[.int .i64 (pcE c.r), .int .i64 (pcE c.u), .int .i64 c.l, .int .i64 c.a]] w fun e w' => e = .returned (.int .i64 (pcF c.u)) ∧ Below w.heap.size w w') := Lib.hid (fun w => full23_any _ _ _ _ w bu)
  have EL : Hid (clampI c.l (-2305843009213693952) (pcF c.u) = pcL c) := Lib.hid rfl
  have S := Lib.hid (pc_start w c)
  generalize pcE c.r = R at *
  generalize pcE c.u = U at *
  generalize pcF c.u = F at *
  generalize pcL c = L at *
  generalize pcN c.a = A at *
  go_enter Try.func18, Try.ntmps18
  go_upto_region 1 with fail
  go_cut [] (fun wx => PcAt w wx ⟨R, U, c.l, c.a⟩ pcO)
  case first =>
    have c0 := S.out.cur.cell 0 rfl; have c1 := S.out.cur.cell 1 rfl
    go_region_with (first
      | (go_at_call_of 28 (Value.int .i64 c.r); refine (RR.out _).mono ?_; rintro e w1 ⟨rfl, B1⟩
         replace B1 := new_undrew B1
         have K1 := Lib.hid (S.out.kept B1)
         have k11 := K1.out.cur.cell 1 rfl)
      | (go_at_call_of 28 (Value.int .i64 c.u); refine (RU.out _).mono ?_; rintro e w2 ⟨rfl, B2⟩
         have K2 := Lib.hid (K1.out.kept B2)
         have V := Lib.hid ((K2.out.set0 R).set1 U)
         have m0 := K2.out.cur.cell 0 rfl; have m1 := K2.out.cur.cell 1 rfl; have m2 := K2.out.cur.cell 2 rfl; have m3 := K2.out.cur.cell 3 rfl; have n0 := K2.out.cur.frozen 0; have n1 := K2.out.cur.frozen 1; have n2 := K2.out.cur.frozen 2; have n3 := K2.out.cur.frozen 3))
    all_goals
      go_wp2_with fail
      go_meet
      exact V.out
  case rest =>
    have S2 := Lib.hid hcut
    clear hcut S RR RU
    have c0 := S2.out.cur.cell 0 rfl; have c1 := S2.out.cur.cell 1 rfl; have c2 := S2.out.cur.cell 2 rfl; have c3 := S2.out.cur.cell 3 rfl
    go_upto_region 2 with fail
    go_cut [] (fun wx => PcAt w wx ⟨R, U, L, c.a⟩ pcO)
    case first =>
      go_region_with (first
        | (go_at_call 23; refine (FU.out _).mono ?_; rintro e w3 ⟨rfl, B3⟩
           replace B3 := new_undrew B3
           have K3 := Lib.hid (S2.out.kept B3)
           have k32 := K3.out.cur.cell 2 rfl)
        | (go_at_call 26; refine (endsP_any _ _ _).mono ?_; rintro e w4 ⟨p, q, rfl, hp, hq, B4, lp, lq⟩
           have K4 := Lib.hid (K3.out.kept B4)
           have V := Lib.hid (K4.out.set2 L)
           have k42 := K4.out.cur.cell 2 rfl
           have n42 := K4.out.cur.frozen 2)
        | (go_at_call 35; refine (ends1P_any _ _ _ p q _ hp hq).mono ?_; rintro e w5 ⟨rfl, rfl⟩; rw [EL.out]))
      all_goals
        go_wp2_with fail
        go_meet
        exact V.out
    case rest =>
      have S3 := Lib.hid hcut
      clear hcut S2 FU EL c0 c1 c2 c3
      have c0 := S3.out.cur.cell 0 rfl; have c1 := S3.out.cur.cell 1 rfl; have c2 := S3.out.cur.cell 2 rfl; have c3 := S3.out.cur.cell 3 rfl
      go_upto_region 4 with (first
        | (go_at_call 19; refine (CO.out _).mono ?_; rintro e w6 ⟨rfl, B6⟩
           have K6 := Lib.hid (S3.out.kept B6)
           have V := Lib.hid (K6.out.set3 A)
           have k63 := K6.out.cur.cell 3 rfl
           have n63 := K6.out.cur.frozen 3))
      obtain ⟨W7, hW7⟩ : ∃ W7, w6.setCell ⟨w.heap.size, 3, none⟩ (.int .i64 A) = W7 := ⟨_, rfl⟩
      replace V : Hid (PcAt w W7 ⟨R, U, L, A⟩ pcO) := Lib.hid (by rw [← hW7]; exact V.out)
      rw [hW7]
      clear hW7 c0 c1 c2 c3 S3 K6 k63 n63
      have d0 := V.out.cur.cell 0 rfl; have d1 := V.out.cur.cell 1 rfl; have d2 := V.out.cur.cell 2 rfl; have d3 := V.out.cur.cell 3 rfl
      have Z := Lib.hid (V.out.setR ⟨R, U, L, A⟩)
      have r0 := V.out.res.cell 0 rfl; have r1 := V.out.res.cell 1 rfl; have r2 := V.out.res.cell 2 rfl; have r3 := V.out.res.cell 3 rfl; have q0 := V.out.res.frozen 0; have q1 := V.out.res.frozen 1; have q2 := V.out.res.frozen 2; have q3 := V.out.res.frozen 3
      go_wp2_with fail
      exact bodyPost_ret (v := .agg #[.int .i64 R, .int .i64 U, .int .i64 L, .int .i64 A]) (by simp [results, Try.results18, go_sem, r0, r1, r2, r3]) rfl ⟨rfl, Z.out.low⟩
end Go.Proofs.Ytimipikabedjnaa
