/- The document's own answers of layer 25: Within, Fraction, Take; states compared; the chapter's example. -/
import Derived.Test.YtpeckopgmdgnnaaAlpB
import Derived.Test.YtpeckopgmdgnnaaFixR
namespace Go.Proofs.Ytpeckopgmdgnnaa
open Go.ChangeShapes Go.WideShapes Go.ChangeAt Go.RowKit
set_option linter.unusedVariables false

set_option maxHeartbeats 1000000 in
theorem within25R_any (c : Ap) (w : World) : Calls Try.prog 11 #[apG c] w (ApIs w (apIn c)) := by
  unfold ApIs apG apIn
  obtain ⟨k1, k2, k3, k4, k5⟩ : RnEnd 0 1099511627776 c.k (apK c) := rnEnd_is (by decide)
  obtain ⟨m1, m2, m3, m4, m5⟩ : RnEnd 0 (apK c) c.m (apM c) := rnEnd_is (apK_bd c).1
  have SH : Hid (∀ w, Calls Try.prog 20 #[.int .i64 c.s] w fun e w' => e = .returned (.int .i64 (shr c.s)) ∧ w = w') := Lib.hid (fun w => refShare_any c.s w)
  generalize shr c.s = R at *
  generalize apK c = K at *
  generalize apM c = M at *
  go_enter Try.func11, Try.ntmps11
  go_wp2_with (go_at_call 20; refine (SH.out _).mono ?_; rintro e w' ⟨rfl, rfl⟩)
  exact bodyPost_ret (v := .agg #[.int .i64 R, .int .i64 K, .int .i64 M, .int .i64 c.e]) (by simp [results, Try.results11, go_sem]) rfl ⟨rfl, new_alloc (new_alloc (new_refl w) _) _⟩

set_option maxHeartbeats 1000000 in
theorem fraction25R_any (c : Ap) (w : World) : Calls Try.prog 10 #[apG c] w fun e w' => e = .returned (.int .i64 (apF c)) ∧ Below w.heap.size w w' := by
  have bk := apK_bd c
  have bm := apM_bd c
  have IN : Hid (∀ w, Calls Try.prog 11 #[.agg #[.int .i64 c.s, .int .i64 c.k, .int .i64 c.m, .int .i64 c.e]] w fun e w' => e = .returned (.agg #[.int .i64 (shr c.s), .int .i64 (apK c), .int .i64 (apM c), .int .i64 c.e]) ∧ Below w.heap.size w w') := Lib.hid (fun w => within25R_any c w)
  have RA : Hid (∀ w, Calls Try.prog 19 #[.int .i64 (apM c), .int .i64 (apK c)] w fun e w' => e = .returned (.int .i64 (apF c)) ∧ Below w.heap.size w w') := Lib.hid (fun w => refRatio_any (apM c) (apK c) w (by omega) (by omega))
  have F0 : Hid (apK c = 0 → apF c = 0) := Lib.hid (fun h => rto_low _ _ (by omega))
  have S := Lib.hid (Blk.new w (apV c) 23)
  have LO := Lib.hid (new_alloc (new_refl w) (.cells #[.int .i64 c.s, .int .i64 c.k, .int .i64 c.m, .int .i64 c.e] 23))
  clear bk bm
  generalize apF c = F at *
  generalize shr c.s = R at *
  generalize apK c = K at *
  generalize apM c = M at *
  go_enter Try.func10, Try.ntmps10
  go_upto_region 2 with (first
    | (go_at_call 11; refine (IN.out _).mono ?_; rintro e w1 ⟨rfl, B1⟩
       have C := Lib.hid (S.out.kept B1)
       have V := Lib.hid (ap_set C.out ⟨R, K, M, c.e⟩)
       have LV := Lib.hid (lowA4 (new_then LO.out B1) (Nat.le_refl _) (.int .i64 R) (.int .i64 K) (.int .i64 M) (.int .i64 c.e))
       have c0 := C.out.cell 0 rfl; have c1 := C.out.cell 1 rfl; have c2 := C.out.cell 2 rfl; have c3 := C.out.cell 3 rfl; have f0 := C.out.frozen 0; have f1 := C.out.frozen 1; have f2 := C.out.frozen 2; have f3 := C.out.frozen 3))
  obtain ⟨W2, hW2⟩ : ∃ W2, (((w1.setCell ⟨w.heap.size, 0, none⟩ (.int .i64 R)).setCell ⟨w.heap.size, 1, none⟩ (.int .i64 K)).setCell ⟨w.heap.size, 2, none⟩ (.int .i64 M)).setCell ⟨w.heap.size, 3, none⟩ (.int .i64 c.e) = W2 := ⟨_, rfl⟩
  replace V : Hid (Blk W2 w.heap.size (apV ⟨R, K, M, c.e⟩) 23) := Lib.hid (by rw [← hW2]; exact V.out)
  replace LV : Hid (Below w.heap.size w W2) := Lib.hid (by rw [← hW2]; exact LV.out)
  rw [hW2]
  clear hW2 c0 c1 c2 c3 f0 f1 f2 f3 C B1 S LO IN
  have c0 := V.out.cell 0 rfl; have c1 := V.out.cell 1 rfl; have c2 := V.out.cell 2 rfl; have c3 := V.out.cell 3 rfl
  by_cases h0 : K = 0
  · obtain rfl := F0.out h0
    have h1 : (K == 0) = true := by simp [h0]
    clear F0
    go_wp2_with fail
    go_ret
    exact ⟨rfl, LV.out⟩
  · have h1 : (K == 0) = false := by simp [h0]
    clear F0
    go_wp2_with (go_at_call 19; refine (RA.out _).mono ?_; rintro e w2 ⟨rfl, B2⟩)
    go_ret
    exact ⟨rfl, new_then LV.out B2⟩

set_option maxHeartbeats 2000000 in
theorem take25R_any (c : Ap) (a m u n : Int) (w : World) : Calls Try.prog 7 #[apG c, .int .i64 a, .int .i64 m, .int .i64 u, .int .i64 n] w (ApWas w (apTake c a m u n) (apEnd u c.e)) := by
  have bk := apK_bd c
  have bm := apM_bd c
  have ba := apA_bd a
  have bb := apB_bd a m
  have IN : Hid (∀ w, Calls Try.prog 11 #[.agg #[.int .i64 c.s, .int .i64 c.k, .int .i64 c.m, .int .i64 c.e]] w fun e w' => e = .returned (.agg #[.int .i64 (shr c.s), .int .i64 (apK c), .int .i64 (apM c), .int .i64 c.e]) ∧ Below w.heap.size w w') := Lib.hid (fun w => within25R_any c w)
  have RI : Hid (∀ w, Calls Try.prog 11 #[.agg #[.int .i64 (shr c.s), .int .i64 (apK c + apA a), .int .i64 (apM c + apB a m), .int .i64 c.e]] w fun e w' => e = .returned (apG (apRise c a m)) ∧ Below w.heap.size w w') := Lib.hid (fun w => within25R_any (apUp c a m) w)
  obtain ⟨a1, a2, a3, a4, a5⟩ : RnEnd 0 16777216 a (apA a) := rnEnd_is (by decide)
  obtain ⟨b1, b2, b3, b4, b5⟩ : RnEnd 0 (apA a) m (apB a m) := rnEnd_is ba.1
  have ok := apRise_ok c a m
  have he : (apRise c a m).e = c.e := rfl
  have S := Lib.hid (ap_start w c)
  have E : Hid ((u < c.e ∧ apEnd u c.e = true.not ∧ apTake c a m u n = apRise c a m) ∨ (¬ u < c.e ∧ apEnd u c.e = true ∧ apTake c a m u n = ⟨apT (apRise c a m), 0, 0, n⟩)) := Lib.hid (by
    by_cases h : u < c.e
    · exact .inl ⟨h, by unfold apEnd; rw [decide_eq_true h], apTake_no h⟩
    · exact .inr ⟨h, by unfold apEnd; rw [decide_eq_false h]; rfl, apTake_yes h⟩)
  have wk : IntKind.i64.wrap (apK c + apA a) = apK c + apA a := by rw [IntKind.wrap_i64]; omega
  have wk2 : wrap64 (apK c + apA a) = apK c + apA a := by unfold wrap64; omega
  have wm : IntKind.i64.wrap (apM c + apB a m) = apM c + apB a m := by rw [IntKind.wrap_i64]; omega
  have wm2 : wrap64 (apM c + apB a m) = apM c + apB a m := by unfold wrap64; omega
  unfold ApWas
  generalize apTake c a m u n = Q at *
  generalize apEnd u c.e = G at *
  obtain ⟨d, hd⟩ : ∃ d, apRise c a m = d := ⟨_, rfl⟩
  rw [hd] at RI ok he E
  clear hd
  rw [← he] at E
  have bs := ok.s
  have bf := apF_bd d
  have FR : Hid (∀ w, Calls Try.prog 10 #[.agg #[.int .i64 d.s, .int .i64 d.k, .int .i64 d.m, .int .i64 d.e]] w fun e w' => e = .returned (.int .i64 (apF d)) ∧ Below w.heap.size w w') := Lib.hid (fun w => fraction25R_any d w)
  have TW : Hid (∀ w, Calls Try.prog 16 #[.int .i64 d.s, .int .i64 (apF d), .int .i64 4] w fun e w' => e = .returned (.int .i64 (apT d)) ∧ w = w') := Lib.hid (fun w => refToward_any d.s (apF d) 4 w (by omega) (by omega) (by omega))
  clear bs bf ok he bk bm ba bb
  generalize apT d = T at *
  generalize apF d = F at *
  obtain ⟨KA, hKA⟩ : ∃ K, apK c + apA a = K := ⟨_, rfl⟩
  obtain ⟨MB, hMB⟩ : ∃ K, apM c + apB a m = K := ⟨_, rfl⟩
  rw [hKA] at RI wk wk2
  rw [hMB] at RI wm wm2
  generalize apB a m = B at *
  generalize apA a = A at *
  generalize shr c.s = R at *
  generalize apK c = K at *
  generalize apM c = M at *
  unfold apG at *
  go_enter Try.func7, Try.ntmps7
  go_upto_region 2 with (first
    | (go_at_call 11; refine (IN.out _).mono ?_; rintro e w1 ⟨rfl, B1⟩
       have K1 := Lib.hid (S.out.kept B1)
       have V := Lib.hid (K1.out.setC ⟨R, K, M, c.e⟩)
       have k0 := K1.out.cur.cell 0 rfl; have k1 := K1.out.cur.cell 1 rfl; have k2 := K1.out.cur.cell 2 rfl; have k3 := K1.out.cur.cell 3 rfl; have g0 := K1.out.cur.frozen 0; have g1 := K1.out.cur.frozen 1; have g2 := K1.out.cur.frozen 2; have g3 := K1.out.cur.frozen 3))
  obtain ⟨W1, hW1⟩ : ∃ W1, (((w1.setCell ⟨w.heap.size, 0, none⟩ (.int .i64 R)).setCell ⟨w.heap.size, 1, none⟩ (.int .i64 K)).setCell ⟨w.heap.size, 2, none⟩ (.int .i64 M)).setCell ⟨w.heap.size, 3, none⟩ (.int .i64 c.e) = W1 := ⟨_, rfl⟩
  replace V : Hid (ApAt w W1 ⟨R, K, M, c.e⟩ apO) := Lib.hid (by rw [← hW1]; exact V.out)
  rw [hW1]
  clear hW1 k0 k1 k2 k3 g0 g1 g2 g3 K1 B1 S IN
  have c0 := V.out.cur.cell 0 rfl; have c1 := V.out.cur.cell 1 rfl; have c2 := V.out.cur.cell 2 rfl; have c3 := V.out.cur.cell 3 rfl; have f0 := V.out.cur.frozen 0; have f1 := V.out.cur.frozen 1; have f2 := V.out.cur.frozen 2; have f3 := V.out.cur.frozen 3
  go_upto_region 5 with fail
  have V5 := Lib.hid ((V.out.set2 MB).set1 KA)
  obtain ⟨W5, hW5⟩ : ∃ W5, (W1.setCell ⟨w.heap.size, 2, none⟩ (.int .i64 MB)).setCell ⟨w.heap.size, 1, none⟩ (.int .i64 KA) = W5 := ⟨_, rfl⟩
  replace V5 : Hid (ApAt w W5 ⟨R, KA, MB, c.e⟩ apO) := Lib.hid (by rw [← hW5]; exact V5.out)
  rw [hW5]
  clear hW5 c0 c1 c2 c3 f0 f1 f2 f3 V a1 a2 a3 a4 a5 b1 b2 b3 b4 b5 wk wk2 wm wm2 hKA hMB
  have c0 := V5.out.cur.cell 0 rfl; have c1 := V5.out.cur.cell 1 rfl; have c2 := V5.out.cur.cell 2 rfl; have c3 := V5.out.cur.cell 3 rfl
  go_upto_region 6 with (first
    | (go_at_call 11; refine (RI.out _).mono ?_; rintro e w2 ⟨rfl, B2⟩
       have K2 := Lib.hid (V5.out.kept B2)
       have V := Lib.hid (K2.out.setC d)
       have k0 := K2.out.cur.cell 0 rfl; have k1 := K2.out.cur.cell 1 rfl; have k2 := K2.out.cur.cell 2 rfl; have k3 := K2.out.cur.cell 3 rfl; have g0 := K2.out.cur.frozen 0; have g1 := K2.out.cur.frozen 1; have g2 := K2.out.cur.frozen 2; have g3 := K2.out.cur.frozen 3))
  obtain ⟨W2, hW2⟩ : ∃ W2, (((w2.setCell ⟨w.heap.size, 0, none⟩ (.int .i64 d.s)).setCell ⟨w.heap.size, 1, none⟩ (.int .i64 d.k)).setCell ⟨w.heap.size, 2, none⟩ (.int .i64 d.m)).setCell ⟨w.heap.size, 3, none⟩ (.int .i64 d.e) = W2 := ⟨_, rfl⟩
  replace V : Hid (ApAt w W2 d apO) := Lib.hid (by rw [← hW2]; exact V.out)
  rw [hW2]
  clear hW2 k0 k1 k2 k3 g0 g1 g2 g3 c0 c1 c2 c3 K2 B2 V5 RI
  have c0 := V.out.cur.cell 0 rfl; have c1 := V.out.cur.cell 1 rfl; have c2 := V.out.cur.cell 2 rfl; have c3 := V.out.cur.cell 3 rfl
  rcases E.out with ⟨h, rfl, hq⟩ | ⟨h, rfl, rfl⟩
  · obtain rfl := hq.symm
    have Z := Lib.hid (V.out.setR d)
    clear E
    have r0 := V.out.res.cell 0 rfl; have r1 := V.out.res.cell 1 rfl; have r2 := V.out.res.cell 2 rfl; have r3 := V.out.res.cell 3 rfl; have q0 := V.out.res.frozen 0; have q1 := V.out.res.frozen 1; have q2 := V.out.res.frozen 2; have q3 := V.out.res.frozen 3
    go_wp2_with fail
    exact bodyPost_ret (v := .tuple #[.agg #[.int .i64 d.s, .int .i64 d.k, .int .i64 d.m, .int .i64 d.e], .bool false]) (by simp [results, Try.results7, go_sem, r0, r1, r2, r3]) rfl ⟨rfl, Z.out.low⟩
  · clear E
    go_upto_region 8 with fail
    go_cut [11] (fun u11 wx => u11 = .bool true ∧ ApAt w wx d ⟨T, 0, 0, n⟩)
    case first =>
      go_region_with (first
        | (go_at_call 10; refine (FR.out _).mono ?_; rintro e w3 ⟨rfl, B3⟩
           replace B3 := new_undrew B3
           have K3 := Lib.hid (V.out.kept B3)
           have Z := Lib.hid (K3.out.setR ⟨T, 0, 0, n⟩)
           have k0 := K3.out.cur.cell 0 rfl; have k1 := K3.out.cur.cell 1 rfl; have k2 := K3.out.cur.cell 2 rfl; have k3 := K3.out.cur.cell 3 rfl
           have r0 := K3.out.res.cell 0 rfl; have r1 := K3.out.res.cell 1 rfl; have r2 := K3.out.res.cell 2 rfl; have r3 := K3.out.res.cell 3 rfl; have q0 := K3.out.res.frozen 0; have q1 := K3.out.res.frozen 1; have q2 := K3.out.res.frozen 2; have q3 := K3.out.res.frozen 3)
        | (go_at_call 16; refine (TW.out _).mono ?_; rintro e w4 ⟨rfl, rfl⟩))
      all_goals
        go_wp2_with fail
        go_meet
        exact ⟨rfl, Z.out⟩
    case rest =>
      obtain ⟨rfl, hcut⟩ := hcut
      have S3 := Lib.hid hcut
      clear hcut V c0 c1 c2 c3
      have r0 := S3.out.res.cell 0 rfl; have r1 := S3.out.res.cell 1 rfl; have r2 := S3.out.res.cell 2 rfl; have r3 := S3.out.res.cell 3 rfl
      go_wp2_with fail
      exact bodyPost_ret (v := .tuple #[.agg #[.int .i64 T, .int .i64 0, .int .i64 0, .int .i64 n], .bool true]) (by simp [results, Try.results7, go_sem, r0, r1, r2, r3]) rfl ⟨rfl, S3.out.low⟩

theorem eqlA4 (c : Ap) (w : World) : (binOp .eql 23 (apG c) (apG c)).run Try.prog w = .ok (.bool true) w := by
  unfold apG
  rw [run_eql_struct, show (10000 : Nat) = 9999 + 1 from rfl, run_equalIn_agg w 9999 _ _ _ (by kernel_rfl) (by kernel_rfl)]
  simp only [Program.fieldsOf, Try.underlying23]
  go_simp
theorem works25_any (w : World) : Calls Try.prog 12 #[] w fun e w' => e = .returned (.bool true) ∧ Below w.heap.size w w' := by
  have ST : Hid (∀ w, Calls Try.prog 8 #[.int .i64 0, .int .i64 0] w fun e w' => e = .returned (.agg #[.int .i64 0, .int .i64 0, .int .i64 0, .int .i64 0]) ∧ Below w.heap.size w w') := Lib.hid (fun w => by
    have h := start25_any 0 0 w
    unfold ApIs apStart at h
    rwa [shr_same 0 (by decide)] at h)
  have TK : Hid (∀ w, Calls Try.prog 6 #[.agg #[.int .i64 0, .int .i64 0, .int .i64 0, .int .i64 0], .int .i64 1000, .int .i64 1000, .int .i64 0, .int .i64 9] w fun e w' => e = .returned (.tuple #[.agg #[.int .i64 65536, .int .i64 0, .int .i64 0, .int .i64 9], .bool true]) ∧ Below w.heap.size w w') := Lib.hid (fun w => by
    have h := take25_any ⟨0, 0, 0, 0⟩ 1000 1000 0 9 w
    unfold ApWas at h
    rw [show apTake ⟨0, 0, 0, 0⟩ 1000 1000 0 9 = ⟨65536, 0, 0, 9⟩ by decide +kernel, show apEnd 0 (Ap.mk 0 0 0 0).e = true by decide +kernel] at h
    exact h)
  go_enter Try.func12, Try.ntmps12
  go_wp2_with (first
    | (go_at_call 8; refine (ST.out _).mono ?_; rintro e w1 ⟨rfl, B1⟩)
    | (go_at_call 6; refine (TK.out _).mono ?_; rintro e w2 ⟨rfl, B2⟩
       have L := Lib.hid (new_then B1 B2)))
  go_ret
  exact ⟨rfl, new_alloc L.out _⟩
end Go.Proofs.Ytpeckopgmdgnnaa
