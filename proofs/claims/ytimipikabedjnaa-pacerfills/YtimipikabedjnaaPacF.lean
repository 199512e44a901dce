/- The document's own answers of layer 23: Fill, When, Spend; buckets compared; the chapter's example. -/
import Derived.Test.YtimipikabedjnaaPacE
namespace Go.Proofs.Ytimipikabedjnaa
open Go.ChangeShapes Go.WideShapes Go.ChangeAt Go.RowKit
set_option linter.unusedVariables false

theorem pcN_pos {n : Int} (h : 0 < pcN n) : (if 1125899906842624 < n then 1125899906842624 else n) = pcN n ∧ (if n < 1125899906842624 then n else 1125899906842624) = pcN n := by
  unfold pcN clampI at *
  refine ⟨?_, ?_⟩ <;> (split <;> split <;> (try split) <;> omega)
set_option maxHeartbeats 2000000 in
theorem fill23R_any (c : Pc) (n : Int) (w : World) : Calls Try.prog 8 #[pcG' c, .int .i64 n] w (PcIs w (pcFill c n)) := by
  have bu := pcE_bd c.u
  have br := pcE_bd c.r
  have bl := pcL_bd c
  have bf := pcF_bd c.u
  have ba := pcN_bd c.a
  have bn := pcN_bd n
  unfold PcIs
  have IN : Hid (∀ w, Calls Try.prog 16 #[.agg #[.int .i64 c.r, .int .i64 c.u, .int .i64 c.l, .int .i64 c.a]] w fun e w' => e = .returned (.agg #[.int .i64 (pcE c.r), .int .i64 (pcE c.u), .int .i64 (pcL c), .int .i64 (pcN c.a)]) ∧ Below w.heap.size w w') := Lib.hid (fun w => within23R_any c w)
  obtain ⟨t1, t2, t3, t4⟩ : PcEnd 0 1125899906842624 n (pcN n) := pcEnd_is (by decide)
  have S := Lib.hid (pc_start w c)
  have SM : Hid (pcN n ≤ pcN c.a → pcFill c n = pcIn c) := Lib.hid pcFill_same
  have hF : pcE c.u * 1000000 = pcF c.u := rfl
  have hD : (pcF c.u - pcL c).tdiv (pcE c.r) = (pcF c.u - pcL c) / pcE c.r := Int.tdiv_eq_ediv_of_nonneg (by omega)
  have bq : 0 ≤ (pcF c.u - pcL c) / pcE c.r ∧ (pcF c.u - pcL c) / pcE c.r ≤ pcF c.u - pcL c := ⟨Int.ediv_nonneg (by omega) (by omega), Int.ediv_le_self _ (by omega)⟩
  obtain ⟨B, hB⟩ : ∃ B, pcN n - pcN c.a = B := ⟨_, rfl⟩
  obtain ⟨P, hP⟩ : ∃ P, pcE c.r * B = P := ⟨_, rfl⟩
  have FL : Hid (¬ pcN n ≤ pcN c.a → pcFill c n = ⟨pcE c.r, pcE c.u, pcFl c n, pcN n⟩ ∧
      (((pcF c.u - pcL c) / pcE c.r < B ∧ pcFl c n = pcF c.u) ∨ (¬ (pcF c.u - pcL c) / pcE c.r < B ∧ pcFl c n = pcL c + P ∧ 0 ≤ P ∧ P ≤ pcF c.u - pcL c))) := Lib.hid (fun h => by
    have hm : pcM c n = pcN n := by unfold pcM; omega
    have h1 := pcFl_room c n
    have h0 := pcBy_bd c n
    rw [hm, hB] at h1 h0
    rw [hP] at h1 h0
    refine ⟨by unfold pcFill; rw [hm], ?_⟩
    by_cases hq : (pcF c.u - pcL c) / pcE c.r < B
    · exact .inl ⟨hq, h1.1 hq⟩
    · exact .inr ⟨hq, (h1.2 hq).1, h0, (h1.2 hq).2⟩)
  have NP : Hid (0 < pcN n → (if 1125899906842624 < n then 1125899906842624 else n) = pcN n ∧ (if n < 1125899906842624 then n else 1125899906842624) = pcN n) := Lib.hid pcN_pos
  unfold pcIn at SM
  generalize pcFill c n = Q at *
  generalize pcFl c n = Y at *
  generalize pcE c.r = R at *
  generalize pcE c.u = U at *
  generalize pcF c.u = F at *
  generalize pcL c = L at *
  generalize pcN c.a = A at *
  generalize pcN n = X at *
  generalize max n 0 = n1 at *
  generalize (F - L) / R = q at *
  have HB := Lib.hid hB
  have HP := Lib.hid hP
  have HD := Lib.hid hD
  clear hB hP hD
  unfold pcG'
  go_enter Try.func8, Try.ntmps8
  go_upto_region 2 with (first
    | (go_at_call 16; refine (IN.out _).mono ?_; rintro e w1 ⟨rfl, B1⟩
       have K := Lib.hid (S.out.kept B1)
       have V := Lib.hid (K.out.setC ⟨R, U, L, A⟩)
       have c0 := K.out.cur.cell 0 rfl; have c1 := K.out.cur.cell 1 rfl; have c2 := K.out.cur.cell 2 rfl; have c3 := K.out.cur.cell 3 rfl; have f0 := K.out.cur.frozen 0; have f1 := K.out.cur.frozen 1; have f2 := K.out.cur.frozen 2; have f3 := K.out.cur.frozen 3))
  obtain ⟨W2, hW2⟩ : ∃ W2, (((w1.setCell ⟨w.heap.size, 0, none⟩ (.int .i64 R)).setCell ⟨w.heap.size, 1, none⟩ (.int .i64 U)).setCell ⟨w.heap.size, 2, none⟩ (.int .i64 L)).setCell ⟨w.heap.size, 3, none⟩ (.int .i64 A) = W2 := ⟨_, rfl⟩
  replace V : Hid (PcAt w W2 ⟨R, U, L, A⟩ pcO) := Lib.hid (by rw [← hW2]; exact V.out)
  rw [hW2]
  clear hW2 c0 c1 c2 c3 f0 f1 f2 f3 K B1 S IN
  have c0 := V.out.cur.cell 0 rfl; have c1 := V.out.cur.cell 1 rfl; have c2 := V.out.cur.cell 2 rfl; have c3 := V.out.cur.cell 3 rfl; have f0 := V.out.cur.frozen 0; have f1 := V.out.cur.frozen 1; have f2 := V.out.cur.frozen 2; have f3 := V.out.cur.frozen 3
  by_cases hle : X ≤ A
  · have e := SM.out (by omega)
    subst e
    have Z := Lib.hid (V.out.setR ⟨R, U, L, A⟩)
    have r0 := V.out.res.cell 0 rfl; have r1 := V.out.res.cell 1 rfl; have r2 := V.out.res.cell 2 rfl; have r3 := V.out.res.cell 3 rfl; have q0 := V.out.res.frozen 0; have q1 := V.out.res.frozen 1; have q2 := V.out.res.frozen 2; have q3 := V.out.res.frozen 3
    go_wp2_with fail
    exact bodyPost_ret (v := .agg #[.int .i64 R, .int .i64 U, .int .i64 L, .int .i64 A]) (by simp [results, Try.results8, go_sem, r0, r1, r2, r3]) rfl ⟨rfl, Z.out.low⟩
  · obtain ⟨e, hY⟩ := FL.out (by omega)
    subst e
    obtain ⟨u1, u2⟩ := NP.out (by omega)
    clear NP
    have hB := HB.out
    have hP := HP.out
    have hn0 : ¬ R = 0 := by omega
    have hD0 : (F - L).tdiv R = q := HD.out
    clear SM FL HB HP HD
    rcases hY with ⟨hq, rfl⟩ | ⟨hq, rfl, hp0, hp1⟩
    case' inl =>
      have S3 := Lib.hid (V.out.set2 Y)
      go_upto_region 10 with fail
      obtain ⟨W4, hW4⟩ : ∃ W4, W2.setCell ⟨w.heap.size, 2, none⟩ (.int .i64 Y) = W4 := ⟨_, rfl⟩
      replace S3 : Hid (PcAt w W4 ⟨R, U, Y, A⟩ pcO) := Lib.hid (by rw [← hW4]; exact S3.out)
      obtain ⟨YY, hYY⟩ : ∃ YY, Y = YY := ⟨_, rfl⟩
    case' inr =>
      have S3 := Lib.hid (V.out.set2 (L + P))
      go_upto_region 10 with fail
      obtain ⟨W4, hW4⟩ : ∃ W4, W2.setCell ⟨w.heap.size, 2, none⟩ (.int .i64 (L + P)) = W4 := ⟨_, rfl⟩
      replace S3 : Hid (PcAt w W4 ⟨R, U, L + P, A⟩ pcO) := Lib.hid (by rw [← hW4]; exact S3.out)
      obtain ⟨YY, hYY⟩ : ∃ YY, L + P = YY := ⟨_, rfl⟩
    all_goals
      rw [hW4]
      rw [hYY] at S3
      clear hW4 c0 c1 c2 c3 f0 f1 f2 f3 V
      have c0 := S3.out.cur.cell 0 rfl; have c1 := S3.out.cur.cell 1 rfl; have c2 := S3.out.cur.cell 2 rfl; have c3 := S3.out.cur.cell 3 rfl; have f0 := S3.out.cur.frozen 0; have f1 := S3.out.cur.frozen 1; have f2 := S3.out.cur.frozen 2; have f3 := S3.out.cur.frozen 3
      have S4 := Lib.hid (S3.out.set3 X)
      go_upto_region 11 with fail
      obtain ⟨W8, hW8⟩ : ∃ W8, W4.setCell ⟨w.heap.size, 3, none⟩ (.int .i64 X) = W8 := ⟨_, rfl⟩
      replace S4 : Hid (PcAt w W8 ⟨R, U, YY, X⟩ pcO) := Lib.hid (by rw [← hW8]; exact S4.out)
      rw [hW8]
      clear hW8 c0 c1 c2 c3 f0 f1 f2 f3 S3
      have d0 := S4.out.cur.cell 0 rfl; have d1 := S4.out.cur.cell 1 rfl; have d2 := S4.out.cur.cell 2 rfl; have d3 := S4.out.cur.cell 3 rfl
      have Z := Lib.hid (S4.out.setR ⟨R, U, YY, X⟩)
      have r0 := S4.out.res.cell 0 rfl; have r1 := S4.out.res.cell 1 rfl; have r2 := S4.out.res.cell 2 rfl; have r3 := S4.out.res.cell 3 rfl; have q0 := S4.out.res.frozen 0; have q1 := S4.out.res.frozen 1; have q2 := S4.out.res.frozen 2; have q3 := S4.out.res.frozen 3
      go_wp2_with fail
      exact bodyPost_ret (v := .agg #[.int .i64 R, .int .i64 U, .int .i64 YY, .int .i64 X]) (by simp [results, Try.results8, go_sem, r0, r1, r2, r3]) rfl ⟨rfl, Z.out.low⟩
end Go.Proofs.Ytimipikabedjnaa
