/- The document's own answers of layers 24 and 26: Grow, Reduce. -/
import Derived.Test.YtgbcgnlibnkjpaaPraB
import Derived.Test.YtgbcgnlibnkjpaaPraC
import Derived.Test.YtgbcgnlibnkjpaaRenI
namespace Go.Proofs.Ytgbcgnlibnkjpaa
open Go.ChangeShapes Go.WideShapes Go.ChangeAt Go.RowKit
set_option linter.unusedVariables false

set_option maxHeartbeats 4000000 in
theorem grow24R_any (c : Rn) (a m s : Int) (w : World) : Calls Try.prog 22 #[rnW c, .int .i64 a, .int .i64 m, .int .i64 s] w (RnIs w (rnGrow c a m s)) := by
  have ok := rnIn_ok c m
  have ba := rnA_bd a
  have bs := rnS_bd m
  have hF := Lib.hid (rnFast_ways (m := m) ok ba)
  have bF := rnF_bd ok ba
  have hc := ok.c
  have ht := ok.t
  have hk := ok.k
  have eG : rnGrow c a m s = rnIn (rnG (rnFast (rnIn c m) (rnA a)) (rnA a - rnF (rnIn c m) (rnA a)) m s) m := rfl
  obtain ⟨a1, a2, a3, a4, a5⟩ : RnEnd 0 16777216 a (rnA a) := rnEnd_is (by decide)
  have IN : Hid (∀ w, Calls Try.prog 43 #[.agg #[.int .i64 c.c, .int .i64 c.t, .int .i64 c.k], .int .i64 m] w fun e w' => e = .returned (rnW (rnIn c m)) ∧ Below w.heap.size w w') := Lib.hid (fun w => within24R_any c m w)
  have SZ : Hid (∀ w, Calls Try.prog 45 #[.int .i64 m] w fun e w' => e = .returned (.int .i64 (rnS m)) ∧ w = w') := Lib.hid (fun w => size24_any m w)
  have S := Lib.hid (rn_start w c)
  obtain ⟨d, hd⟩ : ∃ d, rnIn c m = d := ⟨_, rfl⟩
  rw [hd] at IN hF hc ht hk bF eG
  clear hd ok
  generalize rnA a = A at *
  have bE : (rnFast d A).c = d.c + rnF d A := rfl
  have kE : (rnFast d A).k = d.k := rfl
  have tE : (rnFast d A).t = d.t := rfl
  have bL : 0 ≤ A - rnF d A ∧ A - rnF d A ≤ 16777216 := by omega
  generalize A - rnF d A = L at *
  generalize rnF d A = F at *
  generalize rnFast d A = E at *
  have bX := rnAll_bd (w := E) (m := m) s (by omega) bL
  have bP := rnP_bd (m := m) s bL
  have bZ := rnL_bd (m := m) bL
  have bQ := rnQ_bd (c := E.c) bX.1 (by omega)
  have eX : E.k + prs (L * rnS m) (shr s) = rnAll E L m s := rfl
  have GI : Hid (∀ w, Calls Try.prog 43 #[.agg #[.int .i64 (E.c + rnAll E L m s / E.c), .int .i64 E.t, .int .i64 (rnAll E L m s % E.c)], .int .i64 m] w fun e w' => e = .returned (rnW (rnGrow c a m s)) ∧ Below w.heap.size w w') := Lib.hid (fun w => by rw [eG]; exact within24R_any (rnG E L m s) m w)
  clear eG
  unfold RnIs
  generalize rnGrow c a m s = G at *
  have PT : Hid (∀ w, Calls Try.prog 44 #[.int .i64 (L * rnS m), .int .i64 s] w fun e w' => e = .returned (.int .i64 (prs (L * rnS m) (shr s))) ∧ Below w.heap.size w w') := Lib.hid (fun w => refPart_any (L * rnS m) s w (by omega))
  have q1 : (rnAll E L m s).tdiv E.c = rnAll E L m s / E.c := Int.tdiv_eq_ediv_of_nonneg bX.1
  have q2 : (rnAll E L m s).tmod E.c = rnAll E L m s % E.c := Int.tmod_eq_emod_of_nonneg bX.1
  generalize rnAll E L m s / E.c = Q at *
  generalize rnAll E L m s % E.c = R at *
  generalize rnAll E L m s = X at *
  generalize prs (L * rnS m) (shr s) = P at *
  obtain ⟨M, hM⟩ : ∃ M, L * rnS m = M := ⟨_, rfl⟩
  rw [hM] at PT bZ
  have m1 : IntKind.i64.wrap M = M := by rw [IntKind.wrap_i64]; omega
  have m2 : wrap64 M = M := by unfold wrap64; omega
  have x1 : IntKind.i64.wrap X = X := by rw [IntKind.wrap_i64]; omega
  have x2 : wrap64 X = X := by unfold wrap64; omega
  have q3 : IntKind.i64.wrap Q = Q := by rw [IntKind.wrap_i64]; omega
  have q4 : wrap64 Q = Q := by unfold wrap64; omega
  have r3 : IntKind.i64.wrap R = R := by rw [IntKind.wrap_i64]; omega
  have r4 : wrap64 R = R := by unfold wrap64; omega
  obtain ⟨N, hN⟩ : ∃ N, E.c + Q = N := ⟨_, rfl⟩
  rw [hN] at GI
  have n1 : IntKind.i64.wrap N = N := by rw [IntKind.wrap_i64]; omega
  have n2 : wrap64 N = N := by unfold wrap64; omega
  have z0 : ¬ E.c = 0 := by omega
  have z1 : 0 < E.c := by omega
  have z2 : (E.c == 0) = false := by simp [z0]
  have HB : Hid ((1 ≤ d.c ∧ d.c ≤ 1073741824) ∧ (0 ≤ d.t ∧ d.t ≤ 1073741824) ∧ (0 ≤ A ∧ A ≤ 16777216)) := Lib.hid (by omega)
  clear bX bP bZ bQ bL bF bE kE tE hc ht hk ba bs
  generalize rnS m = Z at *
  unfold rnW at IN GI
  go_enter Try.func22, Try.ntmps22
  have c0 := S.out.cur.cell 0 rfl; have c1 := S.out.cur.cell 1 rfl; have c2 := S.out.cur.cell 2 rfl; have f0 := S.out.cur.frozen 0; have f1 := S.out.cur.frozen 1; have f2 := S.out.cur.frozen 2
  go_upto_region 2 with (first
    | (go_at_call 43; refine (IN.out _).mono ?_; rintro e w1 ⟨rfl, B1⟩
       have K := Lib.hid (S.out.kept B1)
       have V := Lib.hid (K.out.setC d)
       have k0 := K.out.cur.cell 0 rfl; have k1 := K.out.cur.cell 1 rfl; have k2 := K.out.cur.cell 2 rfl; have g0 := K.out.cur.frozen 0; have g1 := K.out.cur.frozen 1; have g2 := K.out.cur.frozen 2))
  obtain ⟨W2, hW2⟩ : ∃ W2, ((w1.setCell ⟨w.heap.size, 0, none⟩ (.int .i64 d.c)).setCell ⟨w.heap.size, 1, none⟩ (.int .i64 d.t)).setCell ⟨w.heap.size, 2, none⟩ (.int .i64 d.k) = W2 := ⟨_, rfl⟩
  replace V : Hid (RnAt w W2 d rnO) := Lib.hid (by rw [← hW2]; exact V.out)
  rw [hW2]
  clear hW2 c0 c1 c2 f0 f1 f2 k0 k1 k2 g0 g1 g2 K B1 S IN
  go_upto_region 3 with fail
  have c0 := V.out.cur.cell 0 rfl; have c1 := V.out.cur.cell 1 rfl; have c2 := V.out.cur.cell 2 rfl; have f0 := V.out.cur.frozen 0; have f1 := V.out.cur.frozen 1; have f2 := V.out.cur.frozen 2
  clear a1 a2 a3 a4 a5
  obtain ⟨⟨b1, b2⟩, ⟨b3, b4⟩, b5, b6⟩ := HB.out
  clear HB
  rcases hF.out with ⟨h1, h2, h3, h4⟩ | ⟨h1, h2, h3, h4⟩ | ⟨h1, h3, h4⟩
  case' inl =>
    have HL := Lib.hid h4.symm
    have V3 := Lib.hid (V.out.set0 d.t)
    have HE := Lib.hid h3
    clear h3 h4 hF V
    go_upto_region 9 with fail
    rw [HL.out]
    obtain ⟨W3, hW3⟩ : ∃ W3, W2.setCell ⟨w.heap.size, 0, none⟩ (.int .i64 d.t) = W3 := ⟨_, rfl⟩
    replace V3 : Hid (RnAt w W3 E rnO) := Lib.hid (by rw [← hW3, HE.out]; exact V3.out)
    rw [hW3]
    clear hW3 HL HE h1 h2 b1 b2 b3 b4 b5 b6 c0 c1 c2 f0 f1 f2
  case' inr.inl =>
    have HL := Lib.hid h4.symm
    have V3 := Lib.hid (V.out.set0 (d.c + A))
    have HE := Lib.hid h3
    clear h3 h4 hF V
    go_upto_region 9 with fail
    rw [HL.out]
    obtain ⟨W3, hW3⟩ : ∃ W3, W2.setCell ⟨w.heap.size, 0, none⟩ (.int .i64 (d.c + A)) = W3 := ⟨_, rfl⟩
    replace V3 : Hid (RnAt w W3 E rnO) := Lib.hid (by rw [← hW3, HE.out]; exact V3.out)
    rw [hW3]
    clear hW3 HL HE h1 h2 b1 b2 b3 b4 b5 b6 c0 c1 c2 f0 f1 f2
  case' inr.inr =>
    have HL := Lib.hid h4.symm
    have V3 : Hid (RnAt w W2 E rnO) := Lib.hid (by rw [h3]; exact V.out)
    clear h3 h4 hF V
    go_upto_region 9 with fail
    rw [HL.out]
    obtain ⟨W3, hW3⟩ : ∃ W3, W2 = W3 := ⟨_, rfl⟩
    rw [hW3] at V3 ⊢
    clear hW3 HL h1 b1 b2 b3 b4 b5 b6 c0 c1 c2 f0 f1 f2
  all_goals
    have c0 := V3.out.cur.cell 0 rfl; have c1 := V3.out.cur.cell 1 rfl; have c2 := V3.out.cur.cell 2 rfl; have f0 := V3.out.cur.frozen 0; have f1 := V3.out.cur.frozen 1; have f2 := V3.out.cur.frozen 2
    go_cut [] (fun wx => RnAt w wx ⟨E.c, E.t, X⟩ rnO)
    case first =>
      go_region_with (first
        | (go_at_call 45; refine (SZ.out _).mono ?_; rintro e w4 ⟨rfl, rfl⟩)
        | (go_at_call 44; refine (PT.out _).mono ?_; rintro e w5 ⟨rfl, B5⟩
           replace B5 := new_undrew B5
           have K5 := Lib.hid (V3.out.kept B5)
           have Y5 := Lib.hid (K5.out.set2 X)
           have k0 := K5.out.cur.cell 0 rfl; have k1 := K5.out.cur.cell 1 rfl; have k2 := K5.out.cur.cell 2 rfl; have g0 := K5.out.cur.frozen 0; have g1 := K5.out.cur.frozen 1; have g2 := K5.out.cur.frozen 2))
      all_goals
        go_wp2_with fail
        go_meet
        exact Y5.out
    case rest =>
      have S4 := Lib.hid hcut
      clear hcut V3 PT SZ eX hM m1 m2 c0 c1 c2 f0 f1 f2
      have c0 := S4.out.cur.cell 0 rfl; have c1 := S4.out.cur.cell 1 rfl; have c2 := S4.out.cur.cell 2 rfl; have f0 := S4.out.cur.frozen 0; have f1 := S4.out.cur.frozen 1; have f2 := S4.out.cur.frozen 2
      go_upto_region 12 with fail
      have V5 := Lib.hid (S4.out.set0 N)
      obtain ⟨W5, hW5⟩ : ∃ W5, wc.setCell ⟨w.heap.size, 0, none⟩ (.int .i64 N) = W5 := ⟨_, rfl⟩
      replace V5 : Hid (RnAt w W5 ⟨N, E.t, X⟩ rnO) := Lib.hid (by rw [← hW5]; exact V5.out)
      rw [hW5]
      clear hW5 c0 c1 c2 f0 f1 f2 S4 hN q1 q3 q4
      have c0 := V5.out.cur.cell 0 rfl; have c1 := V5.out.cur.cell 1 rfl; have c2 := V5.out.cur.cell 2 rfl; have f0 := V5.out.cur.frozen 0; have f1 := V5.out.cur.frozen 1; have f2 := V5.out.cur.frozen 2
      go_upto_region 13 with fail
      have V6 := Lib.hid (V5.out.set2 R)
      obtain ⟨W6, hW6⟩ : ∃ W6, W5.setCell ⟨w.heap.size, 2, none⟩ (.int .i64 R) = W6 := ⟨_, rfl⟩
      replace V6 : Hid (RnAt w W6 ⟨N, E.t, R⟩ rnO) := Lib.hid (by rw [← hW6]; exact V6.out)
      rw [hW6]
      clear hW6 c0 c1 c2 f0 f1 f2 V5 q2 r3 r4 x1 x2 n1 n2
      have c0 := V6.out.cur.cell 0 rfl; have c1 := V6.out.cur.cell 1 rfl; have c2 := V6.out.cur.cell 2 rfl
      go_wp2_with (first
        | (go_at_call 43; refine (GI.out _).mono ?_; rintro e w7 ⟨rfl, B7⟩
           have K7 := Lib.hid (V6.out.kept B7)
           have Y7 := Lib.hid (K7.out.setR G)
           have r0 := K7.out.res.cell 0 rfl; have r1 := K7.out.res.cell 1 rfl; have r2 := K7.out.res.cell 2 rfl; have q0 := K7.out.res.frozen 0; have q1 := K7.out.res.frozen 1; have q2 := K7.out.res.frozen 2))
      exact bodyPost_ret (v := .agg #[.int .i64 G.c, .int .i64 G.t, .int .i64 G.k]) (by simp [results, Try.results22, go_sem, r0, r1, r2]) rfl ⟨rfl, Y7.out.low⟩
end Go.Proofs.Ytgbcgnlibnkjpaa
