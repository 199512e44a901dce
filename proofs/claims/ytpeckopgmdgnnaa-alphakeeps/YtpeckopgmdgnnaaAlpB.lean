/- Package alpha: bytes that rise; which share is marked; what Take makes of a state. -/
import Derived.Test.YtpeckopgmdgnnaaAlpA
import Derived.Test.YtpeckopgmdgnnaaFixA
namespace Go.Proofs.Ytpeckopgmdgnnaa
open Go.ChangeShapes Go.WideShapes Go.ChangeAt Go.RowKit
set_option linter.unusedVariables false

set_option maxHeartbeats 2000000 in
theorem risen25_any (c : Ap) (a m : Int) (w : World) (ok : ApOk c) : Calls Try.prog 13 #[apG c, .int .i64 a, .int .i64 m] w (ApIs w (apRise c a m)) := by
  have ba := apA_bd a
  have bb := apB_bd a m
  have EA : Hid (clampI a 0 16777216 = apA a) := Lib.hid rfl
  have EB : Hid (clampI m 0 (apA a) = apB a m) := Lib.hid rfl
  have hu : apRise c a m = apIn ⟨c.s, c.k + apA a, c.m + apB a m, c.e⟩ := by
    unfold apRise apUp; rw [ok.ks, ok.ms, shr_same _ ok.s]
  have hk := ok.k
  have hm := ok.m
  have A1 : Hid (∀ w, Calls Try.prog 21 #[.int .i64 c.k, .int .i64 (apA a)] w fun e w' => e = .returned (.int .i64 (c.k + apA a)) ∧ w = w') := Lib.hid (fun w => by
    have h := satAdd_any c.k (apA a) w (by omega) (by omega)
    rwa [sat64_mid _ (by omega) (by omega)] at h)
  have A2 : Hid (∀ w, Calls Try.prog 21 #[.int .i64 c.m, .int .i64 (apB a m)] w fun e w' => e = .returned (.int .i64 (c.m + apB a m)) ∧ w = w') := Lib.hid (fun w => by
    have h := satAdd_any c.m (apB a m) w (by omega) (by omega)
    rwa [sat64_mid _ (by omega) (by omega)] at h)
  have IN : Hid (∀ w, Calls Try.prog 14 #[.agg #[.int .i64 c.s, .int .i64 (c.k + apA a), .int .i64 (c.m + apB a m), .int .i64 c.e]] w fun e w' => e = .returned (apG (apRise c a m)) ∧ Below w.heap.size w w') := Lib.hid (fun w => by
    rw [hu]
    exact within25_any ⟨c.s, c.k + apA a, c.m + apB a m, c.e⟩ w)
  have S := Lib.hid (ap_start w c)
  unfold ApIs
  generalize apRise c a m = D at *
  obtain ⟨K, hK⟩ : ∃ K, c.k + apA a = K := ⟨_, rfl⟩
  obtain ⟨M, hM⟩ : ∃ M, c.m + apB a m = M := ⟨_, rfl⟩
  rw [hK] at A1 IN
  rw [hM] at A2 IN
  clear hK hM ba bb hk hm hu ok
  generalize apB a m = B at *
  generalize apA a = A at *
  go_enter Try.func13, Try.ntmps13
  go_upto_region 2 with (first
    | (go_at_call 17; refine (endsA_any _ _ _).mono ?_; rintro e w1 ⟨p1, q1, rfl, hp1, hq1, B1, lp, lq⟩
       have S1 := Lib.hid (S.out.kept B1))
    | (go_at_call 27; refine (ends1A_any _ _ _ p1 q1 _ hp1 hq1).mono ?_; rintro e w2 ⟨rfl, rfl⟩; rw [EA.out]))
  clear hp1 hq1 lp lq B1 S EA
  go_upto_region 3 with (first
    | (go_at_call 17; refine (endsA_any _ _ _).mono ?_; rintro e w3 ⟨p2, q2, rfl, hp2, hq2, B2, lp, lq⟩
       have S2 := Lib.hid (S1.out.kept B2))
    | (go_at_call 27; refine (ends1A_any _ _ _ p2 q2 _ hp2 hq2).mono ?_; rintro e w4 ⟨rfl, rfl⟩; rw [EB.out]))
  clear hp2 hq2 lp lq B2 S1 EB
  have c0 := S2.out.cur.cell 0 rfl; have c1 := S2.out.cur.cell 1 rfl; have c2 := S2.out.cur.cell 2 rfl; have c3 := S2.out.cur.cell 3 rfl; have f0 := S2.out.cur.frozen 0; have f1 := S2.out.cur.frozen 1; have f2 := S2.out.cur.frozen 2; have f3 := S2.out.cur.frozen 3
  go_upto_region 4 with (go_at_call 21; refine (A1.out _).mono ?_; rintro e w5 ⟨rfl, rfl⟩)
  have V := Lib.hid (S2.out.set1 K)
  obtain ⟨W4, hW4⟩ : ∃ W4, w3.setCell ⟨w.heap.size, 1, none⟩ (.int .i64 K) = W4 := ⟨_, rfl⟩
  replace V : Hid (ApAt w W4 ⟨c.s, K, c.m, c.e⟩ apO) := Lib.hid (by rw [← hW4]; exact V.out)
  rw [hW4]
  clear hW4 c0 c1 c2 c3 f0 f1 f2 f3 S2 A1
  have c0 := V.out.cur.cell 0 rfl; have c1 := V.out.cur.cell 1 rfl; have c2 := V.out.cur.cell 2 rfl; have c3 := V.out.cur.cell 3 rfl; have f0 := V.out.cur.frozen 0; have f1 := V.out.cur.frozen 1; have f2 := V.out.cur.frozen 2; have f3 := V.out.cur.frozen 3
  go_upto_region 5 with (go_at_call 21; refine (A2.out _).mono ?_; rintro e w6 ⟨rfl, rfl⟩)
  have U := Lib.hid (V.out.set2 M)
  obtain ⟨W5, hW5⟩ : ∃ W5, W4.setCell ⟨w.heap.size, 2, none⟩ (.int .i64 M) = W5 := ⟨_, rfl⟩
  replace U : Hid (ApAt w W5 ⟨c.s, K, M, c.e⟩ apO) := Lib.hid (by rw [← hW5]; exact U.out)
  rw [hW5]
  clear hW5 c0 c1 c2 c3 f0 f1 f2 f3 V A2
  have c0 := U.out.cur.cell 0 rfl; have c1 := U.out.cur.cell 1 rfl; have c2 := U.out.cur.cell 2 rfl; have c3 := U.out.cur.cell 3 rfl
  go_wp2_with (first
    | (go_at_call 14; refine (IN.out _).mono ?_; rintro e w7 ⟨rfl, B7⟩
       have K7 := Lib.hid (U.out.kept B7)
       have Z := Lib.hid (K7.out.setR D)
       have r0 := K7.out.res.cell 0 rfl; have r1 := K7.out.res.cell 1 rfl; have r2 := K7.out.res.cell 2 rfl; have r3 := K7.out.res.cell 3 rfl; have q0 := K7.out.res.frozen 0; have q1 := K7.out.res.frozen 1; have q2 := K7.out.res.frozen 2; have q3 := K7.out.res.frozen 3))
  exact bodyPost_ret (v := .agg #[.int .i64 D.s, .int .i64 D.k, .int .i64 D.m, .int .i64 D.e]) (by simp [results, Try.results13, go_sem, r0, r1, r2, r3]) rfl ⟨rfl, Z.out.low⟩

set_option maxHeartbeats 1000000 in
theorem fraction25_any (c : Ap) (w : World) : Calls Try.prog 9 #[apG c] w fun e w' => e = .returned (.int .i64 (apF c)) ∧ Below w.heap.size w w' := by
  have bk := apK_bd c
  have bm := apM_bd c
  have IN : Hid (∀ w, Calls Try.prog 14 #[.agg #[.int .i64 c.s, .int .i64 c.k, .int .i64 c.m, .int .i64 c.e]] w fun e w' => e = .returned (.agg #[.int .i64 (shr c.s), .int .i64 (apK c), .int .i64 (apM c), .int .i64 c.e]) ∧ Below w.heap.size w w') := Lib.hid (fun w => within25_any c w)
  have RA : Hid (∀ w, Calls Try.prog 18 #[.int .i64 (apM c), .int .i64 (apK c)] w fun e w' => e = .returned (.int .i64 (apF c)) ∧ Below w.heap.size w w') := Lib.hid (fun w => ratio_any (apM c) (apK c) w (by omega) (by omega))
  have S := Lib.hid (Blk.new w (apV c) 23)
  have LO := Lib.hid (new_alloc (new_refl w) (.cells #[.int .i64 c.s, .int .i64 c.k, .int .i64 c.m, .int .i64 c.e] 23))
  clear bk bm
  generalize apF c = F at *
  generalize shr c.s = R at *
  generalize apK c = K at *
  generalize apM c = M at *
  go_enter Try.func9, Try.ntmps9
  go_upto_region 2 with (first
    | (go_at_call 14; refine (IN.out _).mono ?_; rintro e w1 ⟨rfl, B1⟩
       have C := Lib.hid (S.out.kept B1)
       have V := Lib.hid (ap_set C.out ⟨R, K, M, c.e⟩)
       have LV := Lib.hid (lowA4 (new_then LO.out B1) (Nat.le_refl _) (.int .i64 R) (.int .i64 K) (.int .i64 M) (.int .i64 c.e))
       have c0 := C.out.cell 0 rfl; have c1 := C.out.cell 1 rfl; have c2 := C.out.cell 2 rfl; have c3 := C.out.cell 3 rfl; have f0 := C.out.frozen 0; have f1 := C.out.frozen 1; have f2 := C.out.frozen 2; have f3 := C.out.frozen 3))
  obtain ⟨W2, hW2⟩ : ∃ W2, (((w1.setCell ⟨w.heap.size, 0, none⟩ (.int .i64 R)).setCell ⟨w.heap.size, 1, none⟩ (.int .i64 K)).setCell ⟨w.heap.size, 2, none⟩ (.int .i64 M)).setCell ⟨w.heap.size, 3, none⟩ (.int .i64 c.e) = W2 := ⟨_, rfl⟩
  replace V : Hid (Blk W2 w.heap.size (apV ⟨R, K, M, c.e⟩) 23) := Lib.hid (by rw [← hW2]; exact V.out)
  replace LV : Hid (Below w.heap.size w W2) := Lib.hid (by rw [← hW2]; exact LV.out)
  rw [hW2]
  clear hW2 c0 c1 c2 c3 f0 f1 f2 f3 C B1 S LO IN
  have c0 := V.out.cell 0 rfl; have c1 := V.out.cell 1 rfl; have c2 := V.out.cell 2 rfl; have c3 := V.out.cell 3 rfl
  go_wp2_with (go_at_call 18; refine (RA.out _).mono ?_; rintro e w2 ⟨rfl, B2⟩)
  go_ret
  exact ⟨rfl, new_then LV.out B2⟩

set_option maxHeartbeats 2000000 in
theorem take25_any (c : Ap) (a m u n : Int) (w : World) : Calls Try.prog 6 #[apG c, .int .i64 a, .int .i64 m, .int .i64 u, .int .i64 n] w (ApWas w (apTake c a m u n) (apEnd u c.e)) := by
  have IN : Hid (∀ w, Calls Try.prog 14 #[.agg #[.int .i64 c.s, .int .i64 c.k, .int .i64 c.m, .int .i64 c.e]] w fun e w' => e = .returned (apG (apIn c)) ∧ Below w.heap.size w w') := Lib.hid (fun w => within25_any c w)
  have RI : Hid (∀ w, Calls Try.prog 13 #[apG (apIn c), .int .i64 a, .int .i64 m] w fun e w' => e = .returned (apG (apRise c a m)) ∧ Below w.heap.size w w') := Lib.hid (fun w => by
    have h := risen25_any (apIn c) a m w (apIn_ok c)
    have e : apRise (apIn c) a m = apRise c a m := by
      have o := apIn_ok c
      unfold apRise apUp
      rw [o.ks, o.ms, show shr (apIn c).s = shr c.s from shr_same _ o.s]
      rfl
    rwa [e] at h)
  have ok := apRise_ok c a m
  have he : (apRise c a m).e = c.e := rfl
  have S := Lib.hid (ap_start w c)
  have E : Hid ((u < c.e ∧ apEnd u c.e = true.not ∧ apTake c a m u n = apRise c a m) ∨ (¬ u < c.e ∧ apEnd u c.e = true ∧ apTake c a m u n = ⟨apT (apRise c a m), 0, 0, n⟩)) := Lib.hid (by
    by_cases h : u < c.e
    · exact .inl ⟨h, by unfold apEnd; rw [decide_eq_true h], apTake_no h⟩
    · exact .inr ⟨h, by unfold apEnd; rw [decide_eq_false h]; rfl, apTake_yes h⟩)
  unfold ApWas
  generalize apTake c a m u n = Q at *
  generalize apEnd u c.e = G at *
  obtain ⟨d, hd⟩ : ∃ d, apRise c a m = d := ⟨_, rfl⟩
  rw [hd] at RI ok he E
  clear hd
  rw [← he] at E
  generalize apIn c = b at *
  have bs := ok.s
  have bf := apF_bd d
  have FR : Hid (∀ w, Calls Try.prog 9 #[.agg #[.int .i64 d.s, .int .i64 d.k, .int .i64 d.m, .int .i64 d.e]] w fun e w' => e = .returned (.int .i64 (apF d)) ∧ Below w.heap.size w w') := Lib.hid (fun w => fraction25_any d w)
  have TW : Hid (∀ w, Calls Try.prog 15 #[.int .i64 d.s, .int .i64 (apF d), .int .i64 4] w fun e w' => e = .returned (.int .i64 (apT d)) ∧ Below w.heap.size w w') := Lib.hid (fun w => toward_any d.s (apF d) 4 w (by omega) (by omega) (by omega))
  have ST : Hid (∀ w, Calls Try.prog 8 #[.int .i64 (apT d), .int .i64 n] w fun e w' => e = .returned (.agg #[.int .i64 (apT d), .int .i64 0, .int .i64 0, .int .i64 n]) ∧ Below w.heap.size w w') := Lib.hid (fun w => by
    have h := start25_any (apT d) n w
    unfold ApIs apStart at h
    rwa [shr_same _ (apT_bd ok)] at h)
  clear bs bf ok he
  generalize apT d = T at *
  generalize apF d = F at *
  unfold apG at *
  go_enter Try.func6, Try.ntmps6
  go_upto_region 2 with (first
    | (go_at_call 14; refine (IN.out _).mono ?_; rintro e w1 ⟨rfl, B1⟩
       have K1 := Lib.hid (S.out.kept B1))
    | (go_at_call 13; refine (RI.out _).mono ?_; rintro e w2 ⟨rfl, B2⟩
       have K2 := Lib.hid (K1.out.kept B2)
       have V := Lib.hid (K2.out.setC d)
       have k0 := K2.out.cur.cell 0 rfl; have k1 := K2.out.cur.cell 1 rfl; have k2 := K2.out.cur.cell 2 rfl; have k3 := K2.out.cur.cell 3 rfl; have g0 := K2.out.cur.frozen 0; have g1 := K2.out.cur.frozen 1; have g2 := K2.out.cur.frozen 2; have g3 := K2.out.cur.frozen 3))
  obtain ⟨W2, hW2⟩ : ∃ W2, (((w2.setCell ⟨w.heap.size, 0, none⟩ (.int .i64 d.s)).setCell ⟨w.heap.size, 1, none⟩ (.int .i64 d.k)).setCell ⟨w.heap.size, 2, none⟩ (.int .i64 d.m)).setCell ⟨w.heap.size, 3, none⟩ (.int .i64 d.e) = W2 := ⟨_, rfl⟩
  replace V : Hid (ApAt w W2 d apO) := Lib.hid (by rw [← hW2]; exact V.out)
  rw [hW2]
  clear hW2 k0 k1 k2 k3 g0 g1 g2 g3 K1 K2 B1 B2 S IN RI
  have c0 := V.out.cur.cell 0 rfl; have c1 := V.out.cur.cell 1 rfl; have c2 := V.out.cur.cell 2 rfl; have c3 := V.out.cur.cell 3 rfl
  rcases E.out with ⟨h, rfl, hq⟩ | ⟨h, rfl, rfl⟩
  · obtain rfl := hq.symm
    have Z := Lib.hid (V.out.setR d)
    clear E
    have r0 := V.out.res.cell 0 rfl; have r1 := V.out.res.cell 1 rfl; have r2 := V.out.res.cell 2 rfl; have r3 := V.out.res.cell 3 rfl; have q0 := V.out.res.frozen 0; have q1 := V.out.res.frozen 1; have q2 := V.out.res.frozen 2; have q3 := V.out.res.frozen 3
    go_wp2_with fail
    exact bodyPost_ret (v := .tuple #[.agg #[.int .i64 d.s, .int .i64 d.k, .int .i64 d.m, .int .i64 d.e], .bool false]) (by simp [results, Try.results6, go_sem, r0, r1, r2, r3]) rfl ⟨rfl, Z.out.low⟩
  · clear E
    go_upto_region 4 with fail
    go_cut [11] (fun u11 wx => u11 = .bool true ∧ ApAt w wx d ⟨T, 0, 0, n⟩)
    case first =>
      go_region_with (first
        | (go_at_call 9; refine (FR.out _).mono ?_; rintro e w3 ⟨rfl, B3⟩
           replace B3 := new_undrew B3
           have K3 := Lib.hid (V.out.kept B3)
           have k0 := K3.out.cur.cell 0 rfl; have k1 := K3.out.cur.cell 1 rfl; have k2 := K3.out.cur.cell 2 rfl; have k3 := K3.out.cur.cell 3 rfl)
        | (go_at_call 15; refine (TW.out _).mono ?_; rintro e w4 ⟨rfl, B4⟩
           have K4 := Lib.hid (K3.out.kept B4)
           have l0 := K4.out.cur.cell 0 rfl; have l1 := K4.out.cur.cell 1 rfl; have l2 := K4.out.cur.cell 2 rfl; have l3 := K4.out.cur.cell 3 rfl)
        | (go_at_call 8; refine (ST.out _).mono ?_; rintro e w5 ⟨rfl, B5⟩
           have K5 := Lib.hid (K4.out.kept B5)
           have Z := Lib.hid (K5.out.setR ⟨T, 0, 0, n⟩)
           have r0 := K5.out.res.cell 0 rfl; have r1 := K5.out.res.cell 1 rfl; have r2 := K5.out.res.cell 2 rfl; have r3 := K5.out.res.cell 3 rfl; have q0 := K5.out.res.frozen 0; have q1 := K5.out.res.frozen 1; have q2 := K5.out.res.frozen 2; have q3 := K5.out.res.frozen 3))
      all_goals
        go_wp2_with fail
        go_meet
        exact ⟨rfl, Z.out⟩
    case rest =>
      obtain ⟨rfl, hcut⟩ := hcut
      have S3 := Lib.hid hcut
      clear hcut V c0 c1 c2 c3
      have r0 := S3.out.res.cell 0 rfl; have r1 := S3.out.res.cell 1 rfl; have r2 := S3.out.res.cell 2 rfl; have r3 := S3.out.res.cell 3 rfl
      go_wp2_with fail
      exact bodyPost_ret (v := .tuple #[.agg #[.int .i64 T, .int .i64 0, .int .i64 0, .int .i64 n], .bool true]) (by simp [results, Try.results6, go_sem, r0, r1, r2, r3]) rfl ⟨rfl, S3.out.low⟩
end Go.Proofs.Ytpeckopgmdgnnaa
