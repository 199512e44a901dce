/- Package rtt: an estimate behind a sample, behind many; how long to wait. -/
import Derived.Test.YtlfckllbpkehlaaRttA
import Derived.Test.YtlfckllbpkehlaaSatC
import Derived.Test.YtlfckllbpkehlaaRowL
namespace Go.Proofs.Ytlfckllbpkehlaa
open Go.ChangeShapes Go.WideShapes Go.ChangeAt Go.RowKit
set_option linter.unusedVariables false

theorem threeR_kept {W w1 : World} {p q r : Addr} {a b c : Value} (hb : Below W.heap.size W w1) (h : W.cell? p = some a ∧ W.cell? q = some b ∧ W.cell? r = some c) : w1.cell? p = some a ∧ w1.cell? q = some b ∧ w1.cell? r = some c := ⟨cell_kept hb h.1, cell_kept hb h.2.1, cell_kept hb h.2.2⟩
theorem cellR1_far {w : World} {g h i j : Nat} {u v : Value} (hn : g ≠ h) (k : w.cell? ⟨g, i, none⟩ = some v) : (w.setCell ⟨h, j, none⟩ u).cell? ⟨g, i, none⟩ = some v :=
  (World.cell?_setCell_other w ⟨h, j, none⟩ ⟨g, i, none⟩ u (fun e => hn (by injection e with e1; exact e1.symm))).trans k
theorem three_farR {w : World} {g h j : Nat} {u a b c : Value} (hn : g ≠ h) (k : w.cell? ⟨g, 0, none⟩ = some a ∧ w.cell? ⟨g, 1, none⟩ = some b ∧ w.cell? ⟨g, 2, none⟩ = some c) :
    (w.setCell ⟨h, j, none⟩ u).cell? ⟨g, 0, none⟩ = some a ∧ (w.setCell ⟨h, j, none⟩ u).cell? ⟨g, 1, none⟩ = some b ∧ (w.setCell ⟨h, j, none⟩ u).cell? ⟨g, 2, none⟩ = some c := ⟨cellR1_far hn k.1, cellR1_far hn k.2.1, cellR1_far hn k.2.2⟩

/-- Both blocks: what came in, and the answer's room. -/
structure SmAt (w wr : World) (c d : Rtx) : Prop where
  cur : Blk wr w.heap.size (rtV c) 23
  res : Blk wr (w.heap.size + 1) (rtV d) 23
  low : Below w.heap.size w wr
theorem sm_start (w : World) (c : Rtx) : SmAt w ((w.alloc (.cells #[.int .i64 c.a, .int .i64 c.v, .bool c.s] 23)).alloc (.cells #[.int .i64 0, .int .i64 0, .bool false] 23)) c ⟨0, 0, false⟩ :=
  ⟨(Blk.new w (rtV c) _).alloc _, Blk.newAt (alloc_size w _) (rtV ⟨0, 0, false⟩) _, new_alloc (new_alloc (new_refl w) _) _⟩
theorem SmAt.kept {w wr w1 : World} {c d : Rtx} (h : SmAt w wr c d) (B : Below wr.heap.size wr w1) : SmAt w w1 c d := ⟨h.cur.kept B, h.res.kept B, new_then h.low B⟩
theorem SmAt.draw {w wr : World} {c d : Rtx} (h : SmAt w wr c d) : SmAt w wr.drew c d := ⟨h.cur, h.res, new_drew h.low⟩
theorem SmAt.setC {w wr : World} {c d : Rtx} (h : SmAt w wr c d) (x : Rtx) : SmAt w (((wr.setCell ⟨w.heap.size, 0, none⟩ (.int .i64 x.a)).setCell ⟨w.heap.size, 1, none⟩ (.int .i64 x.v)).setCell ⟨w.heap.size, 2, none⟩ (.bool x.s)) x d :=
  ⟨rt_set h.cur x, far3 h.res (by omega) _ _ _, lowR3 h.low (Nat.le_refl _) _ _ _⟩
theorem SmAt.setR {w wr : World} {c d : Rtx} (h : SmAt w wr c d) (x : Rtx) : SmAt w (((wr.setCell ⟨w.heap.size + 1, 0, none⟩ (.int .i64 x.a)).setCell ⟨w.heap.size + 1, 1, none⟩ (.int .i64 x.v)).setCell ⟨w.heap.size + 1, 2, none⟩ (.bool x.s)) c x :=
  ⟨far3 h.cur (by omega) _ _ _, rt_set h.res x, lowR3 h.low (Nat.le_succ _) _ _ _⟩

set_option maxHeartbeats 2000000 in
theorem sample20_any (c : Rtx) (r : Int) (w : World) :
    Calls Try.prog 8 #[rtG c, .int .i64 r] w (RtIs w (rtSam c r)) := by
  have bR := rtR_bd r
  unfold RtIs rtG
  have ER : Hid (clampI r 1 1125899906842624 = rtR r) := Lib.hid rfl
  have S := Lib.hid (sm_start w c)
  obtain ⟨a, v, s⟩ := c
  cases s
  · have M8 := sat64_mid (rtR r * 8) (by omega) (by omega)
    have M2 := sat64_mid (rtR r * 2) (by omega) (by omega)
    have E : Hid (rtSam ⟨a, v, false⟩ r = ⟨rtR r * 8, rtR r * 2, true⟩) := Lib.hid rfl
    rw [E.out]
    clear E
    generalize rtR r = R at *
    generalize hE8 : R * 8 = R8 at *
    generalize hE2 : R * 2 = R2 at *
    have MU8 : Hid (∀ w, Calls Try.prog 17 #[.int .i64 R, .int .i64 8] w fun e w' => e = .returned (.int .i64 R8) ∧ w = w') := Lib.hid (fun w => by have h := satMul_any R 8 w (by omega) (by decide); rwa [hE8, M8] at h)
    have MU2 : Hid (∀ w, Calls Try.prog 17 #[.int .i64 R, .int .i64 2] w fun e w' => e = .returned (.int .i64 R2) ∧ w = w') := Lib.hid (fun w => by have h := satMul_any R 2 w (by omega) (by decide); rwa [hE2, M2] at h)
    clear M8 M2 hE8 hE2
    go_enter Try.func8, Try.ntmps8
    go_wp2_with (first
      | (go_at_call 16; refine (ends_any _ _ _).mono ?_; rintro e w1 ⟨p, q, rfl, hp, hq, B1, lp, lq⟩
         have T := S.out.kept B1
         have c0 := T.cur.cell 0 rfl
         have c1 := T.cur.cell 1 rfl
         have c2 := T.cur.cell 2 rfl
         have r0 := T.res.cell 0 rfl
         have r1 := T.res.cell 1 rfl
         have r2 := T.res.cell 2 rfl
         have f0 := T.res.frozen 0
         have f1 := T.res.frozen 1
         have f2 := T.res.frozen 2
         have U := Lib.hid (T.setR ⟨R8, R2, true⟩)
         clear T)
      | (go_at_call 25; refine (ends1_any _ 1 1125899906842624 p q _ ?_ ?_).mono ?_; exact hp; exact hq; rintro e w2 ⟨rfl, rfl⟩; rw [ER.out])
      | (go_at_call_of 17 (Value.int .i64 8); refine (MU8.out _).mono ?_; rintro e w3 ⟨rfl, rfl⟩)
      | (go_at_call_of 17 (Value.int .i64 2); refine (MU2.out _).mono ?_; rintro e w4 ⟨rfl, rfl⟩))
    exact bodyPost_ret (v := .agg #[.int .i64 R8, .int .i64 R2, .bool true]) (by simp [results, Try.results8, go_sem, r0, r1, r2]) rfl ⟨rfl, U.out.low⟩
  · have bS := rtSm_bd ⟨a, v, true⟩
    have bV := rtVa_bd ⟨a, v, true⟩
    have bD := rtD_bd ⟨a, v, true⟩ r
    have bA := rtAbs_bd bD
    have iA := rtIn_bd a
    have iV := rtIn_bd v
    have E : Hid (rtSam ⟨a, v, true⟩ r = ⟨rtIn a + rtD ⟨a, v, true⟩ r, rtIn v + (rtAbs (rtD ⟨a, v, true⟩ r) - rtVa ⟨a, v, true⟩), true⟩) := Lib.hid rfl
    rw [E.out]
    clear E
    have KP : Hid (∀ w, Calls Try.prog 18 #[.agg #[.int .i64 a, .int .i64 v, .bool true]] w fun e w' => e = .returned (.agg #[.int .i64 (rtIn a), .int .i64 (rtIn v), .bool true]) ∧ Below w.heap.size w w') := Lib.hid (fun w => kept20_any ⟨a, v, true⟩ w)
    have SM : Hid (∀ w, Calls Try.prog 9 #[.agg #[.int .i64 (rtIn a), .int .i64 (rtIn v), .bool true]] w fun e w' => e = .returned (.int .i64 (rtSm ⟨a, v, true⟩)) ∧ Below w.heap.size w w') := Lib.hid (fun w => by
      have h := smooth20_any ⟨rtIn a, rtIn v, true⟩ w
      rw [show rtSm ⟨rtIn a, rtIn v, true⟩ = rtSm ⟨a, v, true⟩ by unfold rtSm; rw [rtIn_mid (x := rtIn a) iA]] at h
      exact h)
    have VA : Hid (∀ w, Calls Try.prog 11 #[.agg #[.int .i64 (rtIn a), .int .i64 (rtIn v), .bool true]] w fun e w' => e = .returned (.int .i64 (rtVa ⟨a, v, true⟩)) ∧ Below w.heap.size w w') := Lib.hid (fun w => by
      have h := vary20_any ⟨rtIn a, rtIn v, true⟩ w
      rw [show rtVa ⟨rtIn a, rtIn v, true⟩ = rtVa ⟨a, v, true⟩ by unfold rtVa; rw [rtIn_mid (x := rtIn v) iV]] at h
      exact h)
    have SD : Hid (∀ w, Calls Try.prog 19 #[.int .i64 (rtR r), .int .i64 (rtSm ⟨a, v, true⟩)] w fun e w' => e = .returned (.int .i64 (rtD ⟨a, v, true⟩ r)) ∧ w = w') := Lib.hid (fun w => by
      have h := satSub_any (rtR r) (rtSm ⟨a, v, true⟩) w (by omega) (by omega)
      rwa [sat64_mid _ (by omega) (by omega)] at h)
    generalize rtSm ⟨a, v, true⟩ = S1 at *
    generalize rtVa ⟨a, v, true⟩ = V1 at *
    generalize rtD ⟨a, v, true⟩ r = D1 at *
    generalize rtR r = R at *
    generalize rtIn a = A at *
    generalize rtIn v = V at *
    have AB : Hid (∀ w, Calls Try.prog 21 #[.int .i64 D1] w fun e w' => e = .returned (.int .i64 (rtAbs D1)) ∧ w = w') := Lib.hid (fun w => by
      have h := satAbs_any D1 w (by omega)
      unfold rtAbs at *
      rwa [sat64_mid _ (by omega) (by omega)] at h)
    generalize rtAbs D1 = T1 at *
    have SV : Hid (∀ w, Calls Try.prog 19 #[.int .i64 T1, .int .i64 V1] w fun e w' => e = .returned (.int .i64 (T1 - V1)) ∧ w = w') := Lib.hid (fun w => by
      have h := satSub_any T1 V1 w (by omega) (by omega)
      rwa [sat64_mid _ (by omega) (by omega)] at h)
    obtain ⟨X, hX⟩ : ∃ X, T1 - V1 = X := ⟨_, rfl⟩
    rw [hX] at SV ⊢
    have AA : Hid (∀ w, Calls Try.prog 20 #[.int .i64 A, .int .i64 D1] w fun e w' => e = .returned (.int .i64 (A + D1)) ∧ w = w') := Lib.hid (fun w => by
      have h := satAdd_any A D1 w (by omega) (by omega)
      rwa [sat64_mid _ (by omega) (by omega)] at h)
    have AV : Hid (∀ w, Calls Try.prog 20 #[.int .i64 V, .int .i64 X] w fun e w' => e = .returned (.int .i64 (V + X)) ∧ w = w') := Lib.hid (fun w => by
      have h := satAdd_any V X w (by omega) (by omega)
      rwa [sat64_mid _ (by omega) (by omega)] at h)
    generalize A + D1 = N1 at *
    generalize V + X = N2 at *
    clear hX bS bV bD bA iA iV bR
    go_enter Try.func8, Try.ntmps8
    go_upto_region 6 with (first
      | (go_at_call 16; refine (ends_any _ _ _).mono ?_; rintro e w1 ⟨p, q, rfl, hp, hq, B1, lp, lq⟩
         have T := S.out.kept B1
         have c0 := T.cur.cell 0 rfl
         have c1 := T.cur.cell 1 rfl
         have c2 := T.cur.cell 2 rfl
         have T1 := Lib.hid T
         clear T)
      | (go_at_call 25; refine (ends1_any _ 1 1125899906842624 p q _ ?_ ?_).mono ?_; exact hp; exact hq; rintro e w2 ⟨rfl, rfl⟩; rw [ER.out])
      | (go_at_call 18; refine (KP.out _).mono ?_; rintro e w3 ⟨rfl, B3⟩
         have T := T1.out.kept B3
         have d0 := T.cur.cell 0 rfl
         have d1 := T.cur.cell 1 rfl
         have d2 := T.cur.cell 2 rfl
         have g0 := T.cur.frozen 0
         have g1 := T.cur.frozen 1
         have g2 := T.cur.frozen 2
         have T3 := Lib.hid (T.setC ⟨A, V, true⟩)
         clear T)
      | (go_at_call 9; refine (SM.out _).mono ?_; rintro e w4 ⟨rfl, B4⟩)
      | (go_at_call 19; refine (SD.out _).mono ?_; rintro e w5 ⟨rfl, rfl⟩))
    have T4 := T3.out.kept B4
    clear c0 c1 c2 d0 d1 d2 g0 g1 g2 hp hq T1 T3 B1 B3 B4 lp lq SM SD KP ER
    have c0 := T4.cur.cell 0 rfl
    have c1 := T4.cur.cell 1 rfl
    have c2 := T4.cur.cell 2 rfl
    have HT := Lib.hid T4
    clear T4
    have hne : w.heap.size ≠ w.heap.size + 1 := by omega
    go_region_held3 (fun w' => w'.cell? ⟨w.heap.size, 0, none⟩ = some (.int .i64 A) ∧ w'.cell? ⟨w.heap.size, 1, none⟩ = some (.int .i64 V) ∧ w'.cell? ⟨w.heap.size, 2, none⟩ = some (.bool true))
      (first | exact threeR_kept B16 (by assumption) | exact threeR_kept B16 ⟨by assumption, by assumption, by assumption⟩ | exact three_farR hne (by assumption) | exact three_farR hne ⟨by assumption, by assumption, by assumption⟩ | go_keep | assumption)
      (first
        | (go_at_call_of 20 (Value.int .i64 A); refine (AA.out _).mono ?_; rintro e w1 ⟨rfl, rfl⟩)
        | (go_at_call_of 20 (Value.int .i64 V); refine (AV.out _).mono ?_; rintro e w1 ⟨rfl, rfl⟩)
        | (go_at_call 21; refine (AB.out _).mono ?_; rintro e w1 ⟨rfl, rfl⟩)
        | (go_at_call 19; refine (SV.out _).mono ?_; rintro e w1 ⟨rfl, rfl⟩)
        | (go_at_call 11; refine (VA.out _).mono ?_; rintro e w6 ⟨rfl, B16⟩; replace B16 := new_undrew B16
           have T6 := HT.out.kept B16
           have r0 := T6.res.cell 0 rfl
           have r1 := T6.res.cell 1 rfl
           have r2 := T6.res.cell 2 rfl
           have f0 := T6.res.frozen 0
           have f1 := T6.res.frozen 1
           have f2 := T6.res.frozen 2
           have U := Lib.hid (T6.setR ⟨N1, N2, true⟩)
           clear T6))
    all_goals
      go_wp2_with fail
      exact bodyPost_ret (v := .agg #[.int .i64 N1, .int .i64 N2, .bool true]) (by simp [results, Try.results8, go_sem, r0, r1, r2]) rfl ⟨rfl, U.out.low⟩
end Go.Proofs.Ytlfckllbpkehlaa
