/- The document's own answers of layer 20: an estimate within its ends, behind a sample, how long to wait. -/
import Derived.Test.YtlfckllbpkehlaaRttC
import Derived.Deep.QuietTactic
import Derived.BigQuiet
import Derived.IntWalk
namespace Go.Proofs.Ytlfckllbpkehlaa
open Go.ChangeShapes Go.WideShapes Go.ChangeAt Go.RowKit
set_option linter.unusedVariables false

theorem SmAt.drawN {w wr : World} {c d : Rtx} (h : SmAt w wr c d) (n : Nat) : SmAt w (wr.drewN n) c d := ⟨h.cur, h.res, new_draw h.low n⟩
/-- Which end a number is beyond, if any; and what max and min make of it. -/
structure RtEnd (lo hi x y : Int) : Prop where
  e1 : (if x < lo then lo else x) = max x lo
  e2 : (if lo < x then x else lo) = max x lo
  e3 : (if max x lo < hi then max x lo else hi) = y
  e4 : (if hi < max x lo then hi else max x lo) = y
theorem rtEnd_is {lo hi x : Int} (h : lo ≤ hi) : RtEnd lo hi x (clampI x lo hi) := by
  unfold clampI
  constructor
  · split <;> omega
  · split <;> omega
  · split <;> split <;> (try split) <;> omega
  · split <;> split <;> (try split) <;> omega
set_option maxHeartbeats 1000000 in
theorem within20_any (c : Rtx) (w : World) :
    Calls Try.prog 10 #[rtG c] w (RtIs w ⟨rtIn c.a, rtIn c.v, c.s⟩) := by
  unfold RtIs rtG
  have EA : RtEnd 0 9007199254741000 c.a (rtIn c.a) := rtEnd_is (by decide)
  have EV : RtEnd 0 9007199254741000 c.v (rtIn c.v) := rtEnd_is (by decide)
  generalize rtIn c.a = A at *
  generalize rtIn c.v = V at *
  obtain ⟨a1, a2, a3, a4⟩ := EA
  obtain ⟨v1, v2, v3, v4⟩ := EV
  generalize max c.a 0 = A1 at *
  generalize max c.v 0 = V1 at *
  have U := Lib.hid (((sm_start w c).setC ⟨A, V, c.s⟩).setR ⟨A, V, c.s⟩)
  go_enter Try.func10, Try.ntmps10
  go_wp2_with fail
  exact bodyPost_ret (v := .agg #[.int .i64 A, .int .i64 V, .bool c.s]) (by simp [results, Try.results10, go_sem]) rfl ⟨rfl, new_alloc (new_alloc (new_refl w) _) _⟩

set_option maxHeartbeats 2000000 in
theorem refSample20_any (c : Rtx) (r : Int) (w : World) :
    Calls Try.prog 7 #[rtG c, .int .i64 r] w (RtIs w (rtSam c r)) := by
  have bR := rtR_bd r
  unfold RtIs rtG
  have ER : RtEnd 1 1125899906842624 r (rtR r) := rtEnd_is (by decide)
  have S := Lib.hid (sm_start w c)
  have WI : Hid (∀ w, Calls Try.prog 10 #[.agg #[.int .i64 c.a, .int .i64 c.v, .bool c.s]] w fun e w' => e = .returned (.agg #[.int .i64 (rtIn c.a), .int .i64 (rtIn c.v), .bool c.s]) ∧ Below w.heap.size w w') := Lib.hid (fun w => within20_any c w)
  obtain ⟨a, v, s⟩ := c
  obtain ⟨e1, e2, e3, e4⟩ := ER
  cases s
  · have E : Hid (rtSam ⟨a, v, false⟩ r = ⟨rtR r * 8, rtR r * 2, true⟩) := Lib.hid rfl
    rw [E.out]
    clear E
    generalize rtR r = R at *
    generalize max r 1 = R0 at *
    generalize rtIn a = A at *
    generalize rtIn v = V at *
    have h8 : 8 * R = R * 8 := by omega
    have h2 : 2 * R = R * 2 := by omega
    have b8 : 8 ≤ R * 8 ∧ R * 8 ≤ 9007199254740992 := by omega
    have b2 : 2 ≤ R * 2 ∧ R * 2 ≤ 2251799813685248 := by omega
    obtain ⟨R8, E8⟩ : ∃ R8, R * 8 = R8 := ⟨_, rfl⟩
    obtain ⟨R2, E2⟩ : ∃ R2, R * 2 = R2 := ⟨_, rfl⟩
    rw [E8] at h8 b8 ⊢
    rw [E2] at h2 b2 ⊢
    clear E8 E2
    go_enter Try.func7, Try.ntmps7
    go_wp2_with (first
      | (go_at_call 10; refine (WI.out _).mono ?_; rintro e w1 ⟨rfl, B1⟩
         have T := S.out.kept B1
         have c0 := T.cur.cell 0 rfl; have c1 := T.cur.cell 1 rfl; have c2 := T.cur.cell 2 rfl; have g0 := T.cur.frozen 0; have g1 := T.cur.frozen 1; have g2 := T.cur.frozen 2; have r0 := T.res.cell 0 rfl; have r1 := T.res.cell 1 rfl; have r2 := T.res.cell 2 rfl; have f0 := T.res.frozen 0; have f1 := T.res.frozen 1; have f2 := T.res.frozen 2
         have U := Lib.hid ((T.setC ⟨A, V, false⟩).setR ⟨R8, R2, true⟩)
         clear T))
    exact bodyPost_ret (v := .agg #[.int .i64 R8, .int .i64 R2, .bool true]) (by simp [results, Try.results7, go_sem, r0, r1, r2]) rfl ⟨rfl, U.out.low⟩
  · have bS := rtSm_bd ⟨a, v, true⟩
    have bV := rtVa_bd ⟨a, v, true⟩
    have bD := rtD_bd ⟨a, v, true⟩ r
    have iA := rtIn_bd a
    have iV := rtIn_bd v
    have q1 : (rtIn a).tdiv 8 = rtSm ⟨a, v, true⟩ := by rw [Int.tdiv_eq_ediv_of_nonneg iA.1]; rfl
    have q2 : (rtIn v).tdiv 4 = rtVa ⟨a, v, true⟩ := by rw [Int.tdiv_eq_ediv_of_nonneg iV.1]; rfl
    have q3 : rtIn a / 8 = rtSm ⟨a, v, true⟩ := rfl
    have q4 : rtIn v / 4 = rtVa ⟨a, v, true⟩ := rfl
    have q5 : rtR r - rtSm ⟨a, v, true⟩ = rtD ⟨a, v, true⟩ r := rfl
    have E : Hid (rtSam ⟨a, v, true⟩ r = ⟨rtIn a + rtD ⟨a, v, true⟩ r, rtIn v + (rtAbs (rtD ⟨a, v, true⟩ r) - rtVa ⟨a, v, true⟩), true⟩) := Lib.hid rfl
    rw [E.out]
    clear E
    generalize rtD ⟨a, v, true⟩ r = D1 at *
    generalize rtSm ⟨a, v, true⟩ = S1 at *
    generalize rtVa ⟨a, v, true⟩ = V1 at *
    generalize rtR r = R at *
    generalize max r 1 = R0 at *
    generalize rtIn a = A at *
    generalize rtIn v = V at *
    by_cases hd : D1 < 0
    · rw [show rtAbs D1 = -D1 from if_pos hd]
      obtain ⟨N1, n1⟩ : ∃ N, A + D1 = N := ⟨_, rfl⟩
      obtain ⟨Y, n2⟩ : ∃ N, V + -D1 = N := ⟨_, rfl⟩
      obtain ⟨N2, n3⟩ : ∃ N, Y - V1 = N := ⟨_, rfl⟩
      have n4 : V + (-D1 - V1) = N2 := by omega
      have m1 : -9223372036854775808 ≤ N1 ∧ N1 ≤ 9223372036854775807 := by omega
      have m2 : -9223372036854775808 ≤ Y ∧ Y ≤ 9223372036854775807 := by omega
      have m3 : -9223372036854775808 ≤ N2 ∧ N2 ≤ 9223372036854775807 := by omega
      rw [n1, n4]
      clear n4
      go_enter Try.func7, Try.ntmps7
      go_upto_region 5 with (first
        | (go_at_call 10; refine (WI.out _).mono ?_; rintro e w1 ⟨rfl, B1⟩
           have T := S.out.kept B1
           have c0 := T.cur.cell 0 rfl; have c1 := T.cur.cell 1 rfl; have c2 := T.cur.cell 2 rfl; have g0 := T.cur.frozen 0; have g1 := T.cur.frozen 1; have g2 := T.cur.frozen 2; have r0 := T.res.cell 0 rfl; have r1 := T.res.cell 1 rfl; have r2 := T.res.cell 2 rfl; have f0 := T.res.frozen 0; have f1 := T.res.frozen 1; have f2 := T.res.frozen 2
           have U := Lib.hid (fun n => (SmAt.drawN (T.setC ⟨A, V, true⟩) n).setR ⟨N1, N2, true⟩)
           clear T))
      go_quiet (fail)
      go_wp2_with fail
      exact bodyPost_ret (v := .agg #[.int .i64 N1, .int .i64 N2, .bool true]) (by simp [results, Try.results7, go_sem, r0, r1, r2]) rfl ⟨rfl, (U.out _).low⟩
    · rw [show rtAbs D1 = D1 from if_neg hd]
      obtain ⟨N1, n1⟩ : ∃ N, A + D1 = N := ⟨_, rfl⟩
      obtain ⟨Y, n2⟩ : ∃ N, V + D1 = N := ⟨_, rfl⟩
      obtain ⟨N2, n3⟩ : ∃ N, Y - V1 = N := ⟨_, rfl⟩
      have n4 : V + (D1 - V1) = N2 := by omega
      have m1 : -9223372036854775808 ≤ N1 ∧ N1 ≤ 9223372036854775807 := by omega
      have m2 : -9223372036854775808 ≤ Y ∧ Y ≤ 9223372036854775807 := by omega
      have m3 : -9223372036854775808 ≤ N2 ∧ N2 ≤ 9223372036854775807 := by omega
      rw [n1, n4]
      clear n4
      go_enter Try.func7, Try.ntmps7
      go_upto_region 5 with (first
        | (go_at_call 10; refine (WI.out _).mono ?_; rintro e w1 ⟨rfl, B1⟩
           have T := S.out.kept B1
           have c0 := T.cur.cell 0 rfl; have c1 := T.cur.cell 1 rfl; have c2 := T.cur.cell 2 rfl; have g0 := T.cur.frozen 0; have g1 := T.cur.frozen 1; have g2 := T.cur.frozen 2; have r0 := T.res.cell 0 rfl; have r1 := T.res.cell 1 rfl; have r2 := T.res.cell 2 rfl; have f0 := T.res.frozen 0; have f1 := T.res.frozen 1; have f2 := T.res.frozen 2
           have U := Lib.hid (fun n => (SmAt.drawN (T.setC ⟨A, V, true⟩) n).setR ⟨N1, N2, true⟩)
           clear T))
      go_quiet (fail)
      go_wp2_with fail
      exact bodyPost_ret (v := .agg #[.int .i64 N1, .int .i64 N2, .bool true]) (by simp [results, Try.results7, go_sem, r0, r1, r2]) rfl ⟨rfl, (U.out _).low⟩

set_option maxHeartbeats 1000000 in
theorem refRto20_any (c : Rtx) (tick least most : Int) (w : World) (ht : -9223372036854775808 ≤ tick ∧ tick ≤ 9223372036854775807) :
    Calls Try.prog 15 #[rtG c, .int .i64 tick, .int .i64 least, .int .i64 most] w fun e w' => e = .returned (.int .i64 (rtRto c tick least most)) ∧ Below w.heap.size w w' := by
  unfold rtG
  have WI : Hid (∀ w, Calls Try.prog 10 #[.agg #[.int .i64 c.a, .int .i64 c.v, .bool c.s]] w fun e w' => e = .returned (.agg #[.int .i64 (rtIn c.a), .int .i64 (rtIn c.v), .bool c.s]) ∧ Below w.heap.size w w') := Lib.hid (fun w => within20_any c w)
  obtain ⟨a, v, s⟩ := c
  cases s
  · have E : Hid (rtRto ⟨a, v, false⟩ tick least most = most) := Lib.hid rfl
    rw [E.out]
    clear E
    go_enter Try.func15, Try.ntmps15
    go_wp2_with fail
    go_ret
    exact ⟨rfl, new_alloc (new_refl w) _⟩
  · have bS := rtSm_bd ⟨a, v, true⟩
    have iA := rtIn_bd a
    have iV := rtIn_bd v
    have q1 : (rtIn a).tdiv 8 = rtSm ⟨a, v, true⟩ := by rw [Int.tdiv_eq_ediv_of_nonneg iA.1]; rfl
    have q3 : rtIn a / 8 = rtSm ⟨a, v, true⟩ := rfl
    have E : Hid (rtRto ⟨a, v, true⟩ tick least most = clampI (sat64 (rtSm ⟨a, v, true⟩ + (if tick < rtIn v then rtIn v else tick))) least most) := Lib.hid rfl
    rw [E.out]
    clear E
    generalize rtSm ⟨a, v, true⟩ = S1 at *
    generalize rtIn a = A at *
    generalize rtIn v = V at *
    have B0 : Hid (Blk (w.alloc (.cells #[.int .i64 a, .int .i64 v, .bool true] 23)) w.heap.size (rtV ⟨a, v, true⟩) 23) := Lib.hid (Blk.new w (rtV ⟨a, v, true⟩) _)
    have L0 := Lib.hid (new_alloc (new_refl w) (.cells #[.int .i64 a, .int .i64 v, .bool true] 23))
    obtain ⟨M, bM, hM⟩ : ∃ M, (-9223372036854775808 ≤ M ∧ M ≤ 9223372036854775807) ∧ ((V < tick ∧ M = tick ∧ (if tick < V then V else tick) = M) ∨ (¬ V < tick ∧ M = V ∧ (if tick < V then V else tick) = M)) := by
      by_cases h : V < tick
      · exact ⟨tick, by omega, .inl ⟨h, rfl, by rw [if_neg (by omega)]⟩⟩
      · refine ⟨V, by omega, .inr ⟨h, rfl, ?_⟩⟩
        split <;> omega
    have AD : Hid (∀ w, Calls Try.prog 24 #[.int .i64 S1, .int .i64 M] w fun e w' => e = .returned (.int .i64 (sat64 (S1 + M))) ∧ w = w') := Lib.hid (fun w => refAdd_any S1 M w (by omega) bM)
    rcases hM with ⟨hm, rfl, h⟩ | ⟨hm, rfl, h⟩
    all_goals
      rw [h]
      clear h
      generalize sat64 _ = X at *
      go_enter Try.func15, Try.ntmps15
      go_wp2_with (first
        | (go_at_call 10; refine (WI.out _).mono ?_; rintro e w1 ⟨rfl, B1⟩
           have T := B0.out.kept B1
           have c0 := T.cell 0 rfl; have c1 := T.cell 1 rfl; have c2 := T.cell 2 rfl; have g0 := T.frozen 0; have g1 := T.frozen 1; have g2 := T.frozen 2
           clear T)
        | (go_at_call 24; refine (AD.out _).mono ?_; rintro e w2 ⟨rfl, rfl⟩)
        | (go_at_call 23; refine (refClamp_any _ _ _ _).mono ?_; rintro e w3 ⟨rfl, rfl⟩))
      go_ret
      exact ⟨rfl, lowR3 (new_then L0.out B1) (Nat.le_refl _) _ _ _⟩
end Go.Proofs.Ytlfckllbpkehlaa
