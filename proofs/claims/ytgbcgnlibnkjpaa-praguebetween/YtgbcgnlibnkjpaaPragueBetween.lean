/- For every two round trips and every two targets that are at least 1: prague.Scale of the lesser round trip is not above that of the greater one, and that of the greater target not above that of the lesser one; for every two shares what prague.Blend tells is from half of the first one to a half of One; and the chapter's examples hold: PragueBetween returns true and changes nothing that was there. No conditions. -/
import Derived.Test.YtgbcgnlibnkjpaaKit
import Derived.Test.YtgbcgnlibnkjpaaPraC
namespace Go.Proofs.Ytgbcgnlibnkjpaa
namespace pragueBetween
open Go.ChangeShapes Go.WideShapes Go.ChangeAt Go.RowKit
open Go.ChangeMaps (open_string shut_string)
set_option linter.unusedVariables false

def PrOk (r t : Int) : Prop := (-9223372036854775808 ≤ r ∧ r ≤ 9223372036854775807) ∧ -9223372036854775808 ≤ t ∧ t ≤ 9223372036854775807
abbrev prV2 (x y : Int) : List Value := [.int .i64 x, .int .i64 y]
theorem own : ownKnob Try.prog.godebug = none := by kernel_rfl
theorem laidOut : laidOutB Try.prog = true := by kernel_rfl

set_option maxHeartbeats 4000000 in
set_option maxRecDepth 100000 in
theorem walk (a0x0 : Int) (a0x1 : Int) (a1x0 : Int) (a1x1 : Int) (a2x0 : Int) (a2x1 : Int) (w : World) (w0x0 : (Lit.int .i64 a0x0).wf = true) (w0x1 : (Lit.int .i64 a0x1).wf = true) (w1x0 : (Lit.int .i64 a1x0).wf = true) (w1x1 : (Lit.int .i64 a1x1).wf = true) (w2x0 : (Lit.int .i64 a2x0).wf = true) (w2x1 : (Lit.int .i64 a2x1).wf = true) :
    Calls Try.prog 5 #[.agg #[.int .i64 a0x0, .int .i64 a0x1], .agg #[.int .i64 a1x0, .int .i64 a1x1], .agg #[.int .i64 a2x0, .int .i64 a2x1]] w fun e w' => e = .returned (.bool true) ∧ Below w.heap.size w w' := by
  have b0 := bounds_i64 w0x0
  have b1 := bounds_i64 w0x1
  have b2 := bounds_i64 w1x0
  have b3 := bounds_i64 w1x1
  clear w0x0 w0x1 w1x0 w1x1 w2x0 w2x1
  obtain ⟨A, hA⟩ : ∃ A, min a0x0 a0x1 = A := ⟨_, rfl⟩
  obtain ⟨B, hB⟩ : ∃ A, max a0x0 a0x1 = A := ⟨_, rfl⟩
  obtain ⟨M, hM⟩ : ∃ A, min a1x0 a1x1 = A := ⟨_, rfl⟩
  obtain ⟨U, hU⟩ : ∃ A, max a1x0 a1x1 = A := ⟨_, rfl⟩
  obtain ⟨C, hC⟩ : ∃ A, max M 1 = A := ⟨_, rfl⟩
  obtain ⟨D, hD⟩ : ∃ A, max U 1 = A := ⟨_, rfl⟩
  have hAB : A ≤ B := by omega
  have hCD : C ≤ D := by omega
  have hC1 : 0 < C := by omega
  have s1 := prS_up hAB hC1
  have s2 := prS_down (a := A) hCD hC1
  have bl := prB_bd a2x0 a2x1
  have okAC : Hid (PrOk A C) := Lib.hid ⟨by omega, by omega⟩
  have okBC : Hid (PrOk B C) := Lib.hid ⟨by omega, by omega⟩
  have okAD : Hid (PrOk A D) := Lib.hid ⟨by omega, by omega⟩
  have SC : Hid (∀ r t w, PrOk r t → Calls Try.prog 6 #[.int .i64 r, .int .i64 t] w fun e w' => e = .returned (.int .i64 (prS r t)) ∧ Below w.heap.size w w') := Lib.hid (fun r t w h => scale26_any r t w h.1 h.2)
  have BL : Hid (∀ w, Calls Try.prog 8 #[.int .i64 a2x0, .int .i64 a2x1] w fun e w' => e = .returned (.int .i64 (prB a2x0 a2x1)) ∧ Below w.heap.size w w') := Lib.hid (fun w => blend26_any a2x0 a2x1 w)
  obtain ⟨v1, v2, v3, v4, v5⟩ : RnEnd 0 1048576 a2x0 (shr a2x0) := by rw [← clamp_shr]; exact rnEnd_is (by decide)
  have q1 : (shr a2x0).tdiv 2 = prLo a2x0 := Int.tdiv_eq_ediv_of_nonneg (shr_bd a2x0).1
  have bo := prLo_bd a2x0
  have q2 : IntKind.i64.wrap (prLo a2x0) = prLo a2x0 := by rw [IntKind.wrap_i64]; omega
  have q3 : wrap64 (prLo a2x0) = prLo a2x0 := by unfold wrap64; omega
  obtain ⟨x1, x2, x3⟩ := rnMin_is hA
  obtain ⟨y1, y2, y3⟩ := rnMax_is hB
  obtain ⟨x4, x5, x6⟩ := rnMin_is hM
  obtain ⟨y4, y5, y6⟩ := rnMax_is hU
  obtain ⟨y7, y8, y9⟩ := rnMax_is hC
  obtain ⟨z7, z8, z9⟩ := rnMax_is hD
  have m3 : ∀ (ts : Array TypeId) (t : TypeId) (w : World), (Builtin.max_ ts t #[.int .i64 a1x0, .int .i64 a1x1, .int .i64 1]).run Try.prog w = .ok (.int .i64 D) w := fun ts t w => by simp [Builtin.max_, Builtin.max2, y4, z7]
  have d1 : decide (prS A C ≤ prS B C) = true := decide_eq_true s1
  have d2 : decide (prS A D ≤ prS A C) = true := decide_eq_true s2
  have d3 : decide (prLo a2x0 ≤ prB a2x0 a2x1) = true := decide_eq_true bl.1
  have d4 : decide (prB a2x0 a2x1 ≤ 524288) = true := decide_eq_true bl.2
  have i1 : ¬ prS B C < prS A C := by omega
  have i2 : ¬ prS A C < prS A D := by omega
  have i3 : ¬ prB a2x0 a2x1 < prLo a2x0 := by omega
  have i4 : ¬ 524288 < prB a2x0 a2x1 := by omega
  obtain ⟨bl1, bl2⟩ := bl
  clear b0 b1 b2 b3 hA hB hM hU hC hD hAB hCD hC1 bo
  generalize prB a2x0 a2x1 = X at *
  generalize prLo a2x0 = L at *
  generalize shr a2x0 = R at *
  obtain ⟨W1, h1⟩ : ∃ W, w.alloc (.cells #[.int .i64 a0x0, .int .i64 a0x1] 22) = W := ⟨_, rfl⟩
  obtain ⟨W2, h2⟩ : ∃ W, W1.alloc (.cells #[.int .i64 a1x0, .int .i64 a1x1] 22) = W := ⟨_, rfl⟩
  obtain ⟨W3, h3⟩ : ∃ W, W2.alloc (.cells #[.int .i64 a2x0, .int .i64 a2x1] 22) = W := ⟨_, rfl⟩
  have z1 : W1.heap.size = w.heap.size + 1 := by rw [← h1]; simp
  have z2 : W2.heap.size = w.heap.size + 1 + 1 := by rw [← h2]; simp [z1]
  have L3 : Hid (Below w.heap.size w W3) := Lib.hid (by rw [← h3, ← h2, ← h1]; exact new_alloc (new_alloc (new_alloc (new_refl w) _) _) _)
  have C3 : Hid (Blk W3 w.heap.size (prV2 a0x0 a0x1) 22) := Lib.hid (by rw [← h3, ← h2, ← h1]; exact ((Blk.new w (prV2 a0x0 a0x1) _).alloc _).alloc _)
  have P3 : Hid (Blk W3 (w.heap.size + 1) (prV2 a1x0 a1x1) 22) := Lib.hid (by rw [← h3, ← h2]; exact (Blk.newAt z1 (prV2 a1x0 a1x1) _).alloc _)
  have Q3 : Hid (Blk W3 (w.heap.size + 1 + 1) (prV2 a2x0 a2x1) 22) := Lib.hid (by rw [← h3]; exact Blk.newAt z2 (prV2 a2x0 a2x1) _)
  go_enter Try.func5, Try.ntmps5
  go_upto_region 1 with fail
  clear h1 h2 h3 z1 z2
  have e0 := cell_by (C3.out.cell 0 rfl)
  have e1 := cell_by (C3.out.cell 1 rfl)
  refine wp_region_quiet_below (by kernel_rfl) (by kernel_rfl) ?_
  repeat (go_big_quiet_step (fail))
  refine wpQuiet_nil ?_
  intro wq hw'
  obtain ⟨⟨w4, B4⟩, hw''⟩ := hw'
  subst hw''
  have P4 := Lib.hid (P3.out.kept B4)
  have Q4 := Lib.hid (Q3.out.kept B4)
  have L4 := Lib.hid (new_then L3.out B4)
  clear e0 e1 C3 P3 Q3 L3 B4
  go_upto_region 2 with fail
  have e0 := cell_by (P4.out.cell 0 rfl)
  have e1 := cell_by (P4.out.cell 1 rfl)
  refine wp_region_quiet_below (by kernel_rfl) (by kernel_rfl) ?_
  repeat (go_big_quiet_step (fail))
  refine wpQuiet_nil ?_
  intro wq hw'
  obtain ⟨⟨w5, B5⟩, hw''⟩ := hw'
  subst hw''
  have Q5 := Lib.hid (Q4.out.kept B5)
  have L5 := Lib.hid (new_then L4.out B5)
  clear e0 e1 P4 Q4 L4 B5
  have e0 := Q5.out.cell 0 rfl
  have e1 := Q5.out.cell 1 rfl
  clear x1 x2 x3 x4 x5 x6 y1 y2 y3 y4 y5 y6 y7 y8 y9 z7 z8 z9 m3
  go_upto_region 5 with (first
    | (go_at_call 8; refine (BL.out _).mono ?_; rintro e w6 ⟨rfl, B6⟩
       replace L5 := Lib.hid (new_then L5.out B6)))
  clear e0 e1 Q5 q1 q2 q3 v1 v2 v3 v4 v5
  go_wp2_with (first
    | (go_at_call 10; refine (works26_any _).mono ?_; rintro e w9 ⟨rfl, B9⟩; replace L5 := Lib.hid (new_then L5.out B9))
    | (go_at_call 6; refine (SC.out _ _ _ (by first | exact okAC.out | exact okBC.out | exact okAD.out)).mono ?_; rintro e w8 ⟨rfl, B8⟩; replace L5 := Lib.hid (new_then L5.out B8)))
  go_ret
  exact ⟨rfl, L5.out⟩

set_option maxRecDepth 100000 in
theorem lifted (os : Os) (started : os.Started) (H : Type) (enc : TypeId × Value → H) :
    ReturnsInHanded {} Try.checked os 5 .any (Rows.pragueBetweenSpec.pre6 enc Try.prog Try.f5 Rows.pragueBetweenRow.domain false) (Rows.pragueBetweenSpec.post enc Try.prog Try.f5 false true false false) := by
  refine returnsInHanded_of_change (C := Try.checked) own started (by kernel_rfl) Try.func5
    (ChangeSpec.witness6 (enc := enc) (C := Try.checked) false ⟨#[], #[.agg #[.int .i64 0, .int .i64 0], .agg #[.int .i64 0, .int .i64 0], .agg #[.int .i64 0, .int .i64 0]], []⟩ 8 (by kernel_rfl) (by kernel_rfl) (by kernel_rfl) (by kernel_rfl)) ?_
  intro W base args ds gs before hval0 hW hcnd _
  have hval : ∀ (j : Nat) t v, Try.f5.params[j]? = some t → args[j]? = some v → Value.okWide Try.prog W .any base t v := hval0
  have hW' := hW
  obtain ⟨p, q, hA0, hV, rfl, hfz, hnd⟩ := hW
  have hA : DataW.TrodAll enc Try.prog W 0 (fun _ => true) true Try.f5.params.toList args.toList ds p := hA0
  rw [Try.params5] at hA hval
  obtain ⟨v0, vs0, d0, ds0, p0, q0, hargs, rfl, rfl, h0, r0⟩ := trodAll_cons hA
  obtain ⟨v1, vs1, d1, ds1, p1, q1, rfl, rfl, rfl, h1, r1⟩ := trodAll_cons r0
  obtain ⟨v2, vs2, d2, ds2, p2, q2, rfl, rfl, rfl, h2, r2⟩ := trodAll_cons r1
  obtain ⟨rfl, rfl, rfl⟩ := trodAll_nil r2
  obtain rfl : args = #[v0, v1, v2] := by cases args; simp_all
  obtain ⟨rfl, rfl⟩ := trodVars_none hV
  have k0 := h0
  have lt0 : ∀ x ∈ p0, x.block < W.heap.size := by obtain ⟨m, hm⟩ := k0; exact DataW.trod_lt m _ _ _ hm
  obtain ⟨cs0, rfl, l0, L0⟩ := flat_of (n := 2) (ls := [(0, .inl .i64), (1, .inl .i64)]) (by kernel_rfl) (by kernel_rfl) (agg_of_array Try.underlying22 (hval 0 22 v0 rfl rfl)) h0
  obtain ⟨a0x0, e0x0, w0x0⟩ := leaf_int (L0 (0, .inl .i64) (by simp))
  obtain ⟨a0x1, e0x1, w0x1⟩ := leaf_int (L0 (1, .inl .i64) (by simp))
  obtain rfl : cs0 = [.int .i64 a0x0, .int .i64 a0x1] := list_is l0 rfl (by intro i hi; match i, hi with | 0, _ => exact e0x0 | 1, _ => exact e0x1)
  have k1 := h1
  have lt1 : ∀ x ∈ p1, x.block < W.heap.size := by obtain ⟨m, hm⟩ := k1; exact DataW.trod_lt m _ _ _ hm
  obtain ⟨cs1, rfl, l1, L1⟩ := flat_of (n := 2) (ls := [(0, .inl .i64), (1, .inl .i64)]) (by kernel_rfl) (by kernel_rfl) (agg_of_array Try.underlying22 (hval 1 22 v1 rfl rfl)) h1
  obtain ⟨a1x0, e1x0, w1x0⟩ := leaf_int (L1 (0, .inl .i64) (by simp))
  obtain ⟨a1x1, e1x1, w1x1⟩ := leaf_int (L1 (1, .inl .i64) (by simp))
  obtain rfl : cs1 = [.int .i64 a1x0, .int .i64 a1x1] := list_is l1 rfl (by intro i hi; match i, hi with | 0, _ => exact e1x0 | 1, _ => exact e1x1)
  have k2 := h2
  have lt2 : ∀ x ∈ p2, x.block < W.heap.size := by obtain ⟨m, hm⟩ := k2; exact DataW.trod_lt m _ _ _ hm
  obtain ⟨cs2, rfl, l2, L2⟩ := flat_of (n := 2) (ls := [(0, .inl .i64), (1, .inl .i64)]) (by kernel_rfl) (by kernel_rfl) (agg_of_array Try.underlying22 (hval 2 22 v2 rfl rfl)) h2
  obtain ⟨a2x0, e2x0, w2x0⟩ := leaf_int (L2 (0, .inl .i64) (by simp))
  obtain ⟨a2x1, e2x1, w2x1⟩ := leaf_int (L2 (1, .inl .i64) (by simp))
  obtain rfl : cs2 = [.int .i64 a2x0, .int .i64 a2x1] := list_is l2 rfl (by intro i hi; match i, hi with | 0, _ => exact e2x0 | 1, _ => exact e2x1)
  clear hA0 hval0
  refine (walk a0x0 a0x1 a1x0 a1x1 a2x0 a2x1 W w0x0 w0x1 w1x0 w1x1 w2x0 w2x1).mono fun e W' ⟨he, bel⟩ => ?_
  subst he
  exact ⟨_, rfl, _, _, _, [], _, [], hW', trodAll_mk1 (shut_bool Try.underlying4 _), (trodAll_cons_mk (Below.trod laidOut (by kernel_rfl) (of_decide_eq_true (by kernel_rfl)) k0 bel lt0) (trodAll_cons_mk (Below.trod laidOut (by kernel_rfl) (of_decide_eq_true (by kernel_rfl)) k1 bel lt1) (trodAll_cons_mk (Below.trod laidOut (by kernel_rfl) (of_decide_eq_true (by kernel_rfl)) k2 bel lt2) trodAll_mk0))), rfl, bel.frame _, fun h => by cases h⟩

theorem over : Rows.pragueBetweenRow.holds Try.pinned (OpenSpec.ofChange Rows.pragueBetweenSpec) :=
  OpenClaim.holds_of_wide 5 Try.f5 rfl rfl rfl rfl rfl rfl rfl ⟨rfl, rfl, rfl, rfl, rfl⟩ rfl rfl rfl rfl rfl (by kernel_rfl) Try.func5 (by kernel_rfl)
    (of_decide_eq_true (by kernel_rfl)) (by unfold Func.isWrapper; first | (rw [if_pos (by decide +kernel)]; kernel_rfl) | (rw [if_neg (by decide +kernel)]; exact ⟨rfl, rfl⟩))
    (fun os started H enc _ => lifted os started H enc)
end pragueBetween
theorem pragueBetween_holds : Rows.PragueBetweenSaid := pragueBetween.over
end Go.Proofs.Ytgbcgnlibnkjpaa
