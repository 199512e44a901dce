/- For every round trip and target, prague.Scale answers as the document's own Scale does; for every two shares prague.Blend answers as its Blend; and the chapter's examples hold: PragueScales returns true and changes nothing that was there. No conditions. -/
import Derived.Test.YtgbcgnlibnkjpaaKit
import Derived.Test.YtgbcgnlibnkjpaaPraC
namespace Go.Proofs.Ytgbcgnlibnkjpaa
namespace pragueScales
open Go.ChangeShapes Go.WideShapes Go.ChangeAt Go.RowKit
open Go.ChangeMaps (open_string shut_string)
set_option linter.unusedVariables false

abbrev prV2 (x y : Int) : List Value := [.int .i64 x, .int .i64 y]
theorem own : ownKnob Try.prog.godebug = none := by kernel_rfl
theorem laidOut : laidOutB Try.prog = true := by kernel_rfl

set_option maxHeartbeats 4000000 in
set_option maxRecDepth 100000 in
theorem walk (a0 : Int) (a1 : Int) (a2x0 : Int) (a2x1 : Int) (w : World) (w0 : (Lit.int .i64 a0).wf = true) (w1 : (Lit.int .i64 a1).wf = true) (w2x0 : (Lit.int .i64 a2x0).wf = true) (w2x1 : (Lit.int .i64 a2x1).wf = true) :
    Calls Try.prog 3 #[.int .i64 a0, .int .i64 a1, .agg #[.int .i64 a2x0, .int .i64 a2x1]] w fun e w' => e = .returned (.bool true) ∧ Below w.heap.size w w' := by
  have b0 := bounds_i64 w0
  have b1 := bounds_i64 w1
  have S1 : Hid (∀ w, Calls Try.prog 6 #[.int .i64 a0, .int .i64 a1] w fun e w' => e = .returned (.int .i64 (prS a0 a1)) ∧ Below w.heap.size w w') := Lib.hid (fun w => scale26_any a0 a1 w (by omega) (by omega))
  have S2 : Hid (∀ w, Calls Try.prog 7 #[.int .i64 a0, .int .i64 a1] w fun e w' => e = .returned (.int .i64 (prS a0 a1)) ∧ Below w.heap.size w w') := Lib.hid (fun w => scale26R_any a0 a1 w (by omega) (by omega))
  have B1 : Hid (∀ w, Calls Try.prog 8 #[.int .i64 a2x0, .int .i64 a2x1] w fun e w' => e = .returned (.int .i64 (prB a2x0 a2x1)) ∧ Below w.heap.size w w') := Lib.hid (fun w => blend26_any a2x0 a2x1 w)
  have B2 : Hid (∀ w, Calls Try.prog 9 #[.int .i64 a2x0, .int .i64 a2x1] w fun e w' => e = .returned (.int .i64 (prB a2x0 a2x1)) ∧ Below w.heap.size w w') := Lib.hid (fun w => blend26R_any a2x0 a2x1 w)
  generalize prS a0 a1 = X at *
  generalize prB a2x0 a2x1 = Y at *
  clear w0 w1 w2x0 w2x1 b0 b1
  have C0 := Lib.hid (Blk.new w (prV2 a2x0 a2x1) 22)
  have LO := Lib.hid (new_alloc (new_refl w) (.cells #[.int .i64 a2x0, .int .i64 a2x1] 22))
  go_enter Try.func3, Try.ntmps3
  go_upto_region 1 with fail
  have e0 := cell_by (C0.out.cell 0 rfl)
  have e1 := cell_by (C0.out.cell 1 rfl)
  refine wp_region_quiet_below (by kernel_rfl) (by kernel_rfl) ?_
  repeat (go_big_quiet_step (first
    | (go_at_call 6; refine calls_by (S1.out _))
    | (go_at_call 7; refine calls_by (S2.out _))
    | (go_at_call 8; refine calls_by (B1.out _))
    | (go_at_call 9; refine calls_by (B2.out _))
    | (go_at_call 10; refine calls_by (works26_any _))))
  refine wpQuiet_nil ?_
  intro wq hw'
  obtain ⟨⟨wr, Bq⟩, hw''⟩ := hw'
  subst hw''
  clear e0 e1
  go_wp2_with fail
  go_ret
  exact ⟨rfl, new_then LO.out Bq⟩

set_option maxRecDepth 100000 in
theorem lifted (os : Os) (started : os.Started) (H : Type) (enc : TypeId × Value → H) :
    ReturnsInHanded {} Try.checked os 3 .any (Rows.pragueScalesSpec.pre6 enc Try.prog Try.f3 Rows.pragueScalesRow.domain false) (Rows.pragueScalesSpec.post enc Try.prog Try.f3 false true false false) := by
  refine returnsInHanded_of_change (C := Try.checked) own started (by kernel_rfl) Try.func3
    (ChangeSpec.witness6 (enc := enc) (C := Try.checked) false ⟨#[], #[.int .i64 0, .int .i64 0, .agg #[.int .i64 0, .int .i64 0]], []⟩ 8 (by kernel_rfl) (by kernel_rfl) (by kernel_rfl) (by kernel_rfl)) ?_
  intro W base args ds gs before hval0 hW hcnd _
  have hval : ∀ (j : Nat) t v, Try.f3.params[j]? = some t → args[j]? = some v → Value.okWide Try.prog W .any base t v := hval0
  have hW' := hW
  obtain ⟨p, q, hA0, hV, rfl, hfz, hnd⟩ := hW
  have hA : DataW.TrodAll enc Try.prog W 0 (fun _ => true) true Try.f3.params.toList args.toList ds p := hA0
  rw [Try.params3] at hA hval
  obtain ⟨v0, vs0, d0, ds0, p0, q0, hargs, rfl, rfl, h0, r0⟩ := trodAll_cons hA
  obtain ⟨v1, vs1, d1, ds1, p1, q1, rfl, rfl, rfl, h1, r1⟩ := trodAll_cons r0
  obtain ⟨v2, vs2, d2, ds2, p2, q2, rfl, rfl, rfl, h2, r2⟩ := trodAll_cons r1
  obtain ⟨rfl, rfl, rfl⟩ := trodAll_nil r2
  obtain rfl : args = #[v0, v1, v2] := by cases args; simp_all
  obtain ⟨rfl, rfl⟩ := trodVars_none hV
  have k0 := h0
  have lt0 : ∀ x ∈ p0, x.block < W.heap.size := by obtain ⟨m, hm⟩ := k0; exact DataW.trod_lt m _ _ _ hm
  obtain ⟨a0, rfl, _, _, w0⟩ := open_int Try.underlying2 (hval 0 2 v0 rfl rfl) h0
  have k1 := h1
  have lt1 : ∀ x ∈ p1, x.block < W.heap.size := by obtain ⟨m, hm⟩ := k1; exact DataW.trod_lt m _ _ _ hm
  obtain ⟨a1, rfl, _, _, w1⟩ := open_int Try.underlying2 (hval 1 2 v1 rfl rfl) h1
  have k2 := h2
  have lt2 : ∀ x ∈ p2, x.block < W.heap.size := by obtain ⟨m, hm⟩ := k2; exact DataW.trod_lt m _ _ _ hm
  obtain ⟨cs2, rfl, l2, L2⟩ := flat_of (n := 2) (ls := [(0, .inl .i64), (1, .inl .i64)]) (by kernel_rfl) (by kernel_rfl) (agg_of_array Try.underlying22 (hval 2 22 v2 rfl rfl)) h2
  obtain ⟨a2x0, e2x0, w2x0⟩ := leaf_int (L2 (0, .inl .i64) (by simp))
  obtain ⟨a2x1, e2x1, w2x1⟩ := leaf_int (L2 (1, .inl .i64) (by simp))
  obtain rfl : cs2 = [.int .i64 a2x0, .int .i64 a2x1] := list_is l2 rfl (by intro i hi; match i, hi with | 0, _ => exact e2x0 | 1, _ => exact e2x1)
  clear hA0 hval0
  refine (walk a0 a1 a2x0 a2x1 W w0 w1 w2x0 w2x1).mono fun e W' ⟨he, bel⟩ => ?_
  subst he
  exact ⟨_, rfl, _, _, _, [], _, [], hW', trodAll_mk1 (shut_bool Try.underlying4 _), (trodAll_cons_mk (Below.trod laidOut (by kernel_rfl) (of_decide_eq_true (by kernel_rfl)) k0 bel lt0) (trodAll_cons_mk (Below.trod laidOut (by kernel_rfl) (of_decide_eq_true (by kernel_rfl)) k1 bel lt1) (trodAll_cons_mk (Below.trod laidOut (by kernel_rfl) (of_decide_eq_true (by kernel_rfl)) k2 bel lt2) trodAll_mk0))), rfl, bel.frame _, fun h => by cases h⟩

theorem over : Rows.pragueScalesRow.holds Try.pinned (OpenSpec.ofChange Rows.pragueScalesSpec) :=
  OpenClaim.holds_of_wide 3 Try.f3 rfl rfl rfl rfl rfl rfl rfl ⟨rfl, rfl, rfl, rfl, rfl⟩ rfl rfl rfl rfl rfl (by kernel_rfl) Try.func3 (by kernel_rfl)
    (of_decide_eq_true (by kernel_rfl)) (by unfold Func.isWrapper; first | (rw [if_pos (by decide +kernel)]; kernel_rfl) | (rw [if_neg (by decide +kernel)]; exact ⟨rfl, rfl⟩))
    (fun os started H enc _ => lifted os started H enc)
end pragueScales
theorem pragueScales_holds : Rows.PragueScalesSaid := pragueScales.over
end Go.Proofs.Ytgbcgnlibnkjpaa
