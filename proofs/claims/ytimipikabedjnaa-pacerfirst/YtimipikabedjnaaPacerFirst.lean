/- For every bucket, every time below 2^32 and every size, the bucket within its ends, its level not below -2^40 and its time not above 2^40: where the time that pacer.When tells is below 2^50, the bucket filled at that time holds at least the size, it is not before the time nor before the bucket's own, and where it is behind both, the bucket filled one tick ahead of it holds less; and the chapter's example holds: PacerFirst returns true and changes nothing that was there. No conditions. -/
import Derived.Test.YtimipikabedjnaaKit
import Derived.Test.YtimipikabedjnaaPacG
namespace Go.Proofs.Ytimipikabedjnaa
namespace pacerFirst
open Go.ChangeShapes Go.WideShapes Go.ChangeAt Go.RowKit
open Go.ChangeMaps (open_string shut_string)
set_option linter.unusedVariables false

theorem own : ownKnob Try.prog.godebug = none := by kernel_rfl
theorem laidOut : laidOutB Try.prog = true := by kernel_rfl

set_option maxHeartbeats 4000000 in
set_option maxRecDepth 100000 in
theorem walk (a0x0 : Int) (a0x1 : Int) (a0x2 : Int) (a0x3 : Int) (a1 : Int) (a2 : Int) (w : World) (w0x0 : (Lit.int .i64 a0x0).wf = true) (w0x1 : (Lit.int .i64 a0x1).wf = true) (w0x2 : (Lit.int .i64 a0x2).wf = true) (w0x3 : (Lit.int .i64 a0x3).wf = true) (w1 : (Lit.int .u32 a1).wf = true) (w2 : (Lit.int .i64 a2).wf = true) :
    Calls Try.prog 5 #[.agg #[.int .i64 a0x0, .int .i64 a0x1, .int .i64 a0x2, .int .i64 a0x3], .int .u32 a1, .int .i64 a2] w fun e w' => e = .returned (.bool true) ∧ Below w.heap.size w w' := by
  obtain ⟨c, hcc⟩ : ∃ c : Pc, c = ⟨a0x0, a0x1, a0x2, a0x3⟩ := ⟨_, rfl⟩
  obtain rfl : a0x0 = c.r := by rw [hcc]
  obtain rfl : a0x1 = c.u := by rw [hcc]
  obtain rfl : a0x2 = c.l := by rw [hcc]
  obtain rfl : a0x3 = c.a := by rw [hcc]
  clear hcc w0x0 w0x1 w0x2 w0x3 w2
  have hn := bounds_u32 w1
  have C0 := Lib.hid (Blk.new w (pcV c) 23)
  have LO := Lib.hid (new_alloc (new_refl w) (.cells #[.int .i64 c.r, .int .i64 c.u, .int .i64 c.l, .int .i64 c.a] 23))
  have IN : Hid (∀ w, Calls Try.prog 16 #[.agg #[.int .i64 c.r, .int .i64 c.u, .int .i64 c.l, .int .i64 c.a]] w fun e w' => e = .returned (.agg #[.int .i64 (pcE c.r), .int .i64 (pcE c.u), .int .i64 (pcL c), .int .i64 (pcN c.a)]) ∧ Below w.heap.size w w') := Lib.hid (fun w => within23R_any c w)
  have br := pcE_bd c.r
  have bu := pcE_bd c.u
  have bl := pcL_bd c
  have ba := pcN_bd c.a
  have bf : pcF c.u = pcF (pcE c.u) := (pcF_in c.u).symm
  have bfu := pcF_bd c.u
  rw [bf] at bl bfu
  clear bf
  generalize pcE c.r = R at *
  generalize pcE c.u = U at *
  generalize pcL c = L at *
  generalize pcN c.a = A at *
  obtain ⟨L1, hL1⟩ : ∃ L1, max L (-1099511627776) = L1 := ⟨_, rfl⟩
  obtain ⟨A1, hA1⟩ : ∃ A1, min A 1099511627776 = A1 := ⟨_, rfl⟩
  obtain ⟨l1, l2, l3⟩ := maxP_is hL1
  obtain ⟨m1, m2, m3⟩ := minP_is hA1
  obtain ⟨o1, o2, o3, o4⟩ := pcIn_own (c := ⟨R, U, L1, A1⟩) br bu (by dsimp only; omega) (by dsimp only; omega)
  have WN : Hid (∀ w, Calls Try.prog 12 #[.agg #[.int .i64 R, .int .i64 U, .int .i64 L1, .int .i64 A1], .int .i64 a1, .int .i64 a2] w fun e w' => e = .returned (.int .i64 (pcWhen ⟨R, U, L1, A1⟩ a1 a2)) ∧ Below w.heap.size w w') := Lib.hid (fun w => when23_any ⟨R, U, L1, A1⟩ a1 a2 w)
  have NE : Hid (∀ w, Calls Try.prog 17 #[.agg #[.int .i64 R, .int .i64 U, .int .i64 L1, .int .i64 A1], .int .i64 a2] w fun e w' => e = .returned (.int .i64 (pcT ⟨R, U, L1, A1⟩ a2)) ∧ Below w.heap.size w w') := Lib.hid (fun w => by
    have h := need23_any R U L1 A1 a2 w bu
    have e : clampI a2 0 U * 1000000 = pcT ⟨R, U, L1, A1⟩ a2 := by
      unfold pcT pcZ
      rw [show pcE (Pc.mk R U L1 A1).u = U from o2]
    rwa [e] at h)
  have FI : Hid (∀ (x : Int) w, Calls Try.prog 7 #[.agg #[.int .i64 R, .int .i64 U, .int .i64 L1, .int .i64 A1], .int .i64 x] w fun e w' => e = .returned (.agg #[.int .i64 R, .int .i64 U, .int .i64 (pcFl ⟨R, U, L1, A1⟩ x), .int .i64 (pcM ⟨R, U, L1, A1⟩ x)]) ∧ Below w.heap.size w w') := Lib.hid (fun x w => by
    have h := fill23_any ⟨R, U, L1, A1⟩ x w
    unfold PcIs pcFill at h
    rw [show pcE (Pc.mk R U L1 A1).r = R from o1, show pcE (Pc.mk R U L1 A1).u = U from o2] at h
    exact h)
  have hM : pcM ⟨R, U, L1, A1⟩ a1 = max a1 A1 := by
    unfold pcM
    rw [show pcN (Pc.mk R U L1 A1).a = A1 from o4, show pcN a1 = a1 from clampP_in (by omega) (by omega)]
  obtain ⟨M, hM2⟩ : ∃ M, max a1 A1 = M := ⟨_, rfl⟩
  rw [hM2] at hM
  obtain ⟨x1, x2, x3⟩ := maxP_is hM2
  have bW := pcWhen_bd ⟨R, U, L1, A1⟩ a1 a2
  obtain ⟨T, hT⟩ : ∃ T, pcWhen ⟨R, U, L1, A1⟩ a1 a2 = T := ⟨_, rfl⟩
  have FN : Hid (T < 1125899906842624 → M < T → pcFl ⟨R, U, L1, A1⟩ (T - 1) < pcT ⟨R, U, L1, A1⟩ a2) := Lib.hid (fun h1 h2 => pcFirst_not (c := ⟨R, U, L1, A1⟩) (n := a1) (s := a2) (by rw [hT]; exact h1) (by rw [hM, hT]; exact h2) (by rw [hT]))
  have FM : Hid (T < 1125899906842624 → pcT ⟨R, U, L1, A1⟩ a2 ≤ pcFl ⟨R, U, L1, A1⟩ T) := Lib.hid (fun h1 => by
    have h := pcFirst_may (c := ⟨R, U, L1, A1⟩) (n := a1) (s := a2) (by rw [hT]; exact h1)
    rwa [hT] at h)
  rw [hM, hT] at bW
  rw [hT] at WN
  obtain ⟨K, hK⟩ : ∃ K, T - 1 = K := ⟨_, rfl⟩
  rw [hK] at FN
  have F1 := Lib.hid (fun w => FI.out K w)
  have F2 := Lib.hid (fun w => FI.out T w)
  generalize pcFl ⟨R, U, L1, A1⟩ K = Y1 at *
  generalize pcFl ⟨R, U, L1, A1⟩ T = Y2 at *
  generalize pcM ⟨R, U, L1, A1⟩ K = Z1 at *
  generalize pcM ⟨R, U, L1, A1⟩ T = Z2 at *
  generalize pcT ⟨R, U, L1, A1⟩ a2 = N at *
  have hge : a1 ≤ T ∧ A1 ≤ T := by omega
  clear FI hT hM o1 o2 o3 o4 bl ba bfu hL1 hA1 hM2 w1
  have hfd1 : ∀ w : World, (Instr.field 23 (.agg #[.int .i64 R, .int .i64 U, .int .i64 Y1, .int .i64 Z1]) 2).run Try.prog w = .ok (.int .i64 Y1) w := fun _ => by kernel_rfl
  have hfd2 : ∀ w : World, (Instr.field 23 (.agg #[.int .i64 R, .int .i64 U, .int .i64 Y2, .int .i64 Z2]) 2).run Try.prog w = .ok (.int .i64 Y2) w := fun _ => by kernel_rfl
  go_enter Try.func5, Try.ntmps5
  go_upto_region 4 with (first
    | (go_at_call 16; refine (IN.out _).mono ?_; rintro e w1 ⟨rfl, B1⟩
       have K1 := Lib.hid (C0.out.kept B1)
       have P1 := pc_set K1.out ⟨R, U, L, A⟩
       have V := Lib.hid ((P1.set 2 (.int .i64 L1)).set 3 (.int .i64 A1))
       have p2 := P1.cell 2 rfl
       have p3 := P1.cell 3 rfl
       clear P1
       have LV := Lib.hid (new_set (new_set (lowP4 (new_then LO.out B1) (Nat.le_refl _) (.int .i64 R) (.int .i64 U) (.int .i64 L) (.int .i64 A)) (p := ⟨w.heap.size, 2, none⟩) (Nat.le_refl _) (.int .i64 L1)) (p := ⟨w.heap.size, 3, none⟩) (Nat.le_refl _) (.int .i64 A1))
       have c0 := K1.out.cell 0 rfl; have c1 := K1.out.cell 1 rfl; have c2 := K1.out.cell 2 rfl; have c3 := K1.out.cell 3 rfl; have f0 := K1.out.frozen 0; have f1 := K1.out.frozen 1; have f2 := K1.out.frozen 2; have f3 := K1.out.frozen 3))
  obtain ⟨W2, hW2⟩ : ∃ W2, (((((w1.setCell ⟨w.heap.size, 0, none⟩ (.int .i64 R)).setCell ⟨w.heap.size, 1, none⟩ (.int .i64 U)).setCell ⟨w.heap.size, 2, none⟩ (.int .i64 L)).setCell ⟨w.heap.size, 3, none⟩ (.int .i64 A)).setCell ⟨w.heap.size, 2, none⟩ (.int .i64 L1)).setCell ⟨w.heap.size, 3, none⟩ (.int .i64 A1) = W2 := ⟨_, rfl⟩
  replace V : Hid (Blk W2 w.heap.size (pcV ⟨R, U, L1, A1⟩) 23) := Lib.hid (by rw [← hW2]; exact V.out)
  replace LV : Hid (Below w.heap.size w W2) := Lib.hid (by rw [← hW2]; exact LV.out)
  rw [hW2]
  clear hW2 c0 c1 c2 c3 f0 f1 f2 f3 p2 p3 K1 B1 C0 LO IN l1 l2 l3 m1 m2 m3
  have c0 := V.out.cell 0 rfl; have c1 := V.out.cell 1 rfl; have c2 := V.out.cell 2 rfl; have c3 := V.out.cell 3 rfl
  go_upto_region 6 with (first
    | (go_at_call 12; refine (WN.out _).mono ?_; rintro e w2 ⟨rfl, B2⟩
       have V2 := Lib.hid (V.out.kept B2)
       have LV2 := Lib.hid (new_then LV.out B2)
       have d0 := V2.out.cell 0 rfl; have d1 := V2.out.cell 1 rfl; have d2 := V2.out.cell 2 rfl; have d3 := V2.out.cell 3 rfl)
    | (go_at_call 17; refine (NE.out _).mono ?_; rintro e w3 ⟨rfl, B3⟩
       have V3 := Lib.hid (V2.out.kept B3)
       have LV3 := Lib.hid (new_then LV2.out B3)
       have e0 := V3.out.cell 0 rfl; have e1 := V3.out.cell 1 rfl; have e2 := V3.out.cell 2 rfl; have e3 := V3.out.cell 3 rfl))
  clear c0 c1 c2 c3 d0 d1 d2 d3 V V2 LV LV2 B2 B3 WN NE
  by_cases hbig : 1125899906842624 ≤ T
  · clear FN FM F1 F2
    go_wp2_with (go_at_call 11; refine (works23_any _).mono ?_; rintro e w8 ⟨rfl, B8⟩)
    go_ret
    exact ⟨rfl, new_then LV3.out B8⟩
  · have hY2 := FM.out (by omega)
    have g1 : decide (a1 ≤ T) = true := decide_eq_true hge.1
    have g2 : decide (A1 ≤ T) = true := decide_eq_true hge.2
    have g3 : decide (N ≤ Y2) = true := decide_eq_true hY2
    have g3' : N ≤ Y2 := hY2
    by_cases hlt : M < T
    · have hY1 := FN.out (by omega) hlt
      have g4 : decide (M < T) = true := decide_eq_true hlt
      have g5 : ¬ N ≤ Y1 := by omega
      have g6 : decide (N ≤ Y1) = false := decide_eq_false g5
      clear FN FM
      go_wp2_with (first
        | (go_at_call_of 7 (Value.int .i64 K); refine (F1.out _).mono ?_; rintro e w4 ⟨rfl, B4⟩
           have V4 := Lib.hid (V3.out.kept B4)
           have LV4 := Lib.hid (new_then LV3.out B4)
           have h0 := V4.out.cell 0 rfl; have h1 := V4.out.cell 1 rfl; have h2 := V4.out.cell 2 rfl; have h3 := V4.out.cell 3 rfl)
        | (go_at_call_of 7 (Value.int .i64 T); refine (F2.out _).mono ?_; rintro e w5 ⟨rfl, B5⟩
           have LV5 := Lib.hid (new_then LV4.out B5))
        | (go_at_call 11; refine (works23_any _).mono ?_; rintro e w8 ⟨rfl, B8⟩))
      go_ret
      exact ⟨rfl, new_then LV5.out B8⟩
    · have g4 : decide (M < T) = false := decide_eq_false hlt
      clear FN FM
      go_wp2_with (first
        | (go_at_call_of 7 (Value.int .i64 T); refine (F2.out _).mono ?_; rintro e w5 ⟨rfl, B5⟩
           have LV5 := Lib.hid (new_then LV3.out B5))
        | (go_at_call 11; refine (works23_any _).mono ?_; rintro e w8 ⟨rfl, B8⟩))
      go_ret
      exact ⟨rfl, new_then LV5.out B8⟩

set_option maxRecDepth 100000 in
theorem lifted (os : Os) (started : os.Started) (H : Type) (enc : TypeId × Value → H) :
    ReturnsInHanded {} Try.checked os 5 .any (Rows.pacerFirstSpec.pre6 enc Try.prog Try.f5 Rows.pacerFirstRow.domain false) (Rows.pacerFirstSpec.post enc Try.prog Try.f5 false true false false) := by
  refine returnsInHanded_of_change (C := Try.checked) own started (by kernel_rfl) Try.func5
    (ChangeSpec.witness6 (enc := enc) (C := Try.checked) false ⟨#[], #[.agg #[.int .i64 0, .int .i64 0, .int .i64 0, .int .i64 0], .int .u32 0, .int .i64 0], []⟩ 8 (by kernel_rfl) (by kernel_rfl) (by kernel_rfl) (by kernel_rfl)) ?_
  intro W base args ds gs before hval0 hW hcnd _
  have hval : ∀ (j : Nat) t v, Try.f5.params[j]? = some t → args[j]? = some v → Value.okWide Try.prog W .any base t v := hval0
  have hW' := hW
  obtain ⟨p, q, hA0, hV, rfl, hfz, hnd⟩ := hW
  have hA : DataW.TrodAll enc Try.prog W 0 (fun _ => true) true Try.f5.params.toList args.toList ds p := hA0
  rw [Try.params5] at hA hval
  obtain ⟨v0, vs0, d0, ds0, p0, q0, hargs, rfl, rfl, h0, r0⟩ := trodAll_cons hA
  obtain ⟨v1, vs1, d1, ds1, p1, q1, rfl, rfl, rfl, h1, r1⟩ := trodAll_cons r0
  obtain ⟨v2, vs2, d2, ds2, p2, q2, rfl, rfl, rfl, h2, r2⟩ := trodAll_cons r1
  obtain ⟨rfl, rfl, rfl⟩ := trodAll_nil r2
  obtain rfl : args = #[v0, v1, v2] := by cases args; simp_all
  obtain ⟨rfl, rfl⟩ := trodVars_none hV
  have k0 := h0
  have lt0 : ∀ x ∈ p0, x.block < W.heap.size := by obtain ⟨m, hm⟩ := k0; exact DataW.trod_lt m _ _ _ hm
  obtain ⟨cs0, rfl, l0, L0⟩ := flat_of (n := 4) (ls := [(0, .inl .i64), (1, .inl .i64), (2, .inl .i64), (3, .inl .i64)]) (by kernel_rfl) (by kernel_rfl) (agg_of_struct Try.underlying23 (hval 0 23 v0 rfl rfl)) h0
  obtain ⟨a0x0, e0x0, w0x0⟩ := leaf_int (L0 (0, .inl .i64) (by simp))
  obtain ⟨a0x1, e0x1, w0x1⟩ := leaf_int (L0 (1, .inl .i64) (by simp))
  obtain ⟨a0x2, e0x2, w0x2⟩ := leaf_int (L0 (2, .inl .i64) (by simp))
  obtain ⟨a0x3, e0x3, w0x3⟩ := leaf_int (L0 (3, .inl .i64) (by simp))
  obtain rfl : cs0 = [.int .i64 a0x0, .int .i64 a0x1, .int .i64 a0x2, .int .i64 a0x3] := list_is l0 rfl (by intro i hi; match i, hi with | 0, _ => exact e0x0 | 1, _ => exact e0x1 | 2, _ => exact e0x2 | 3, _ => exact e0x3)
  have k1 := h1
  have lt1 : ∀ x ∈ p1, x.block < W.heap.size := by obtain ⟨m, hm⟩ := k1; exact DataW.trod_lt m _ _ _ hm
  obtain ⟨a1, rfl, _, _, w1⟩ := open_int Try.underlying32 (hval 1 32 v1 rfl rfl) h1
  have k2 := h2
  have lt2 : ∀ x ∈ p2, x.block < W.heap.size := by obtain ⟨m, hm⟩ := k2; exact DataW.trod_lt m _ _ _ hm
  obtain ⟨a2, rfl, _, _, w2⟩ := open_int Try.underlying2 (hval 2 2 v2 rfl rfl) h2
  clear hA0 hval0
  refine (walk a0x0 a0x1 a0x2 a0x3 a1 a2 W w0x0 w0x1 w0x2 w0x3 w1 w2).mono fun e W' ⟨he, bel⟩ => ?_
  subst he
  exact ⟨_, rfl, _, _, _, [], _, [], hW', trodAll_mk1 (shut_bool Try.underlying4 _), (trodAll_cons_mk (Below.trod laidOut (by kernel_rfl) (of_decide_eq_true (by kernel_rfl)) k0 bel lt0) (trodAll_cons_mk (Below.trod laidOut (by kernel_rfl) (of_decide_eq_true (by kernel_rfl)) k1 bel lt1) (trodAll_cons_mk (Below.trod laidOut (by kernel_rfl) (of_decide_eq_true (by kernel_rfl)) k2 bel lt2) trodAll_mk0))), rfl, bel.frame _, fun h => by cases h⟩

theorem over : Rows.pacerFirstRow.holds Try.pinned (OpenSpec.ofChange Rows.pacerFirstSpec) :=
  OpenClaim.holds_of_wide 5 Try.f5 rfl rfl rfl rfl rfl rfl rfl ⟨rfl, rfl, rfl, rfl, rfl⟩ rfl rfl rfl rfl rfl (by kernel_rfl) Try.func5 (by kernel_rfl)
    (of_decide_eq_true (by kernel_rfl)) (by unfold Func.isWrapper; first | (rw [if_pos (by decide +kernel)]; kernel_rfl) | (rw [if_neg (by decide +kernel)]; exact ⟨rfl, rfl⟩))
    (fun os started H enc _ => lifted os started H enc)
end pacerFirst
theorem pacerFirst_holds : Rows.PacerFirstSaid := pacerFirst.over
end Go.Proofs.Ytimipikabedjnaa
