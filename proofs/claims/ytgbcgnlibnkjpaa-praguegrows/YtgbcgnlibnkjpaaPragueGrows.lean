/- For every window, every two numbers of acknowledged bytes and mss, every round trip and target (the first of them as a share too), prague.Grow and prague.Reduce answer as the document's own do, and the chapter's examples hold: PragueGrows returns true and changes nothing that was there. No conditions. -/
import Derived.Test.YtgbcgnlibnkjpaaKit
import Derived.Test.YtgbcgnlibnkjpaaPraE
namespace Go.Proofs.Ytgbcgnlibnkjpaa
namespace pragueGrows
open Go.ChangeShapes Go.WideShapes Go.ChangeAt Go.RowKit
open Go.ChangeMaps (open_string shut_string)
set_option linter.unusedVariables false

abbrev prV2 (x y : Int) : List Value := [.int .i64 x, .int .i64 y]
theorem own : ownKnob Try.prog.godebug = none := by kernel_rfl
theorem laidOut : laidOutB Try.prog = true := by kernel_rfl

set_option maxHeartbeats 4000000 in
set_option maxRecDepth 100000 in
theorem walk (a0x0 : Int) (a0x1 : Int) (a0x2 : Int) (a1x0 : Int) (a1x1 : Int) (a2x0 : Int) (a2x1 : Int) (w : World) (w0x0 : (Lit.int .i64 a0x0).wf = true) (w0x1 : (Lit.int .i64 a0x1).wf = true) (w0x2 : (Lit.int .i64 a0x2).wf = true) (w1x0 : (Lit.int .i64 a1x0).wf = true) (w1x1 : (Lit.int .i64 a1x1).wf = true) (w2x0 : (Lit.int .i64 a2x0).wf = true) (w2x1 : (Lit.int .i64 a2x1).wf = true) :
    Calls Try.prog 4 #[.agg #[.int .i64 a0x0, .int .i64 a0x1, .int .i64 a0x2], .agg #[.int .i64 a1x0, .int .i64 a1x1], .agg #[.int .i64 a2x0, .int .i64 a2x1]] w fun e w' => e = .returned (.bool true) ∧ Below w.heap.size w w' := by
  obtain ⟨c, hcc⟩ : ∃ c : Rn, c = ⟨a0x0, a0x1, a0x2⟩ := ⟨_, rfl⟩
  obtain rfl : a0x0 = c.c := by rw [hcc]
  obtain rfl : a0x1 = c.t := by rw [hcc]
  obtain rfl : a0x2 = c.k := by rw [hcc]
  have b0 := bounds_i64 w2x0
  have b1 := bounds_i64 w2x1
  clear hcc w0x0 w0x1 w0x2 w1x0 w1x1 w2x0 w2x1
  obtain ⟨d, hd⟩ : ∃ d, rnGrow c a1x0 a1x1 (prS a2x0 a2x1) = d := ⟨_, rfl⟩
  obtain ⟨f, hf⟩ : ∃ d, prFall c a2x0 a1x1 = d := ⟨_, rfl⟩
  have F1 : Hid (∀ w, Calls Try.prog 11 #[.agg #[.int .i64 c.c, .int .i64 c.t, .int .i64 c.k], .int .i64 a1x0, .int .i64 a1x1, .int .i64 a2x0, .int .i64 a2x1] w fun e w' => e = .returned (.agg #[.int .i64 d.c, .int .i64 d.t, .int .i64 d.k]) ∧ Below w.heap.size w w') := Lib.hid (fun w => by rw [← hd]; exact grow26_any c a1x0 a1x1 a2x0 a2x1 w (by omega) (by omega))
  have F2 : Hid (∀ w, Calls Try.prog 12 #[.agg #[.int .i64 c.c, .int .i64 c.t, .int .i64 c.k], .int .i64 a1x0, .int .i64 a1x1, .int .i64 a2x0, .int .i64 a2x1] w fun e w' => e = .returned (.agg #[.int .i64 d.c, .int .i64 d.t, .int .i64 d.k]) ∧ Below w.heap.size w w') := Lib.hid (fun w => by rw [← hd]; exact grow26R_any c a1x0 a1x1 a2x0 a2x1 w (by omega) (by omega))
  have G1 : Hid (∀ w, Calls Try.prog 13 #[.agg #[.int .i64 c.c, .int .i64 c.t, .int .i64 c.k], .int .i64 a2x0, .int .i64 a1x1] w fun e w' => e = .returned (.agg #[.int .i64 f.c, .int .i64 f.t, .int .i64 f.k]) ∧ Below w.heap.size w w') := Lib.hid (fun w => by rw [← hf]; exact reduce26_any c a2x0 a1x1 w)
  have G2 : Hid (∀ w, Calls Try.prog 14 #[.agg #[.int .i64 c.c, .int .i64 c.t, .int .i64 c.k], .int .i64 a2x0, .int .i64 a1x1] w fun e w' => e = .returned (.agg #[.int .i64 f.c, .int .i64 f.t, .int .i64 f.k]) ∧ Below w.heap.size w w') := Lib.hid (fun w => by rw [← hf]; exact reduce26R_any c a2x0 a1x1 w)
  clear hd hf b0 b1
  have q1 := eqlN d
  have q2 := eqlN f
  unfold rnW at q1 q2
  obtain ⟨W1, h1⟩ : ∃ W, w.alloc (.cells #[.int .i64 c.c, .int .i64 c.t, .int .i64 c.k] 27) = W := ⟨_, rfl⟩
  obtain ⟨W2, h2⟩ : ∃ W, W1.alloc (.cells #[.int .i64 a1x0, .int .i64 a1x1] 22) = W := ⟨_, rfl⟩
  obtain ⟨W3, h3⟩ : ∃ W, W2.alloc (.cells #[.int .i64 a2x0, .int .i64 a2x1] 22) = W := ⟨_, rfl⟩
  have z1 : W1.heap.size = w.heap.size + 1 := by rw [← h1]; simp
  have z2 : W2.heap.size = w.heap.size + 1 + 1 := by rw [← h2]; simp [z1]
  have L3 : Hid (Below w.heap.size w W3) := Lib.hid (by rw [← h3, ← h2, ← h1]; exact new_alloc (new_alloc (new_alloc (new_refl w) _) _) _)
  have C3 : Hid (Blk W3 w.heap.size (rnV c) 27) := Lib.hid (by rw [← h3, ← h2, ← h1]; exact ((Blk.new w (rnV c) _).alloc _).alloc _)
  have P3 : Hid (Blk W3 (w.heap.size + 1) (prV2 a1x0 a1x1) 22) := Lib.hid (by rw [← h3, ← h2]; exact (Blk.newAt z1 (prV2 a1x0 a1x1) _).alloc _)
  have Q3 : Hid (Blk W3 (w.heap.size + 1 + 1) (prV2 a2x0 a2x1) 22) := Lib.hid (by rw [← h3]; exact Blk.newAt z2 (prV2 a2x0 a2x1) _)
  go_enter Try.func4, Try.ntmps4
  go_upto_region 1 with fail
  clear h1 h2 h3 z1 z2
  have e0 := cell_by (C3.out.cell 0 rfl)
  have e1 := cell_by (C3.out.cell 1 rfl)
  have e2 := cell_by (C3.out.cell 2 rfl)
  have p0 := cell_by (P3.out.cell 0 rfl)
  have p1 := cell_by (P3.out.cell 1 rfl)
  have r0 := cell_by (Q3.out.cell 0 rfl)
  have r1 := cell_by (Q3.out.cell 1 rfl)
  refine wp_region_quiet_below (by kernel_rfl) (by kernel_rfl) ?_
  repeat (go_big_quiet_step (first
    | (go_at_call 11; refine calls_by (F1.out _))
    | (go_at_call 12; refine calls_by (F2.out _))
    | (go_at_call 13; refine calls_by (G1.out _))
    | (go_at_call 14; refine calls_by (G2.out _))
    | (go_at_call 10; refine calls_by (works26_any _))))
  refine wpQuiet_nil ?_
  intro wq hw'
  obtain ⟨⟨wr, Bq⟩, hw''⟩ := hw'
  subst hw''
  clear e0 e1 e2 p0 p1 r0 r1
  go_wp2_with fail
  go_ret
  exact ⟨rfl, new_then L3.out Bq⟩

set_option maxRecDepth 100000 in
theorem lifted (os : Os) (started : os.Started) (H : Type) (enc : TypeId × Value → H) :
    ReturnsInHanded {} Try.checked os 4 .any (Rows.pragueGrowsSpec.pre6 enc Try.prog Try.f4 Rows.pragueGrowsRow.domain false) (Rows.pragueGrowsSpec.post enc Try.prog Try.f4 false true false false) := by
  refine returnsInHanded_of_change (C := Try.checked) own started (by kernel_rfl) Try.func4
    (ChangeSpec.witness6 (enc := enc) (C := Try.checked) false ⟨#[], #[.agg #[.int .i64 0, .int .i64 0, .int .i64 0], .agg #[.int .i64 0, .int .i64 0], .agg #[.int .i64 0, .int .i64 0]], []⟩ 8 (by kernel_rfl) (by kernel_rfl) (by kernel_rfl) (by kernel_rfl)) ?_
  intro W base args ds gs before hval0 hW hcnd _
  have hval : ∀ (j : Nat) t v, Try.f4.params[j]? = some t → args[j]? = some v → Value.okWide Try.prog W .any base t v := hval0
  have hW' := hW
  obtain ⟨p, q, hA0, hV, rfl, hfz, hnd⟩ := hW
  have hA : DataW.TrodAll enc Try.prog W 0 (fun _ => true) true Try.f4.params.toList args.toList ds p := hA0
  rw [Try.params4] at hA hval
  obtain ⟨v0, vs0, d0, ds0, p0, q0, hargs, rfl, rfl, h0, r0⟩ := trodAll_cons hA
  obtain ⟨v1, vs1, d1, ds1, p1, q1, rfl, rfl, rfl, h1, r1⟩ := trodAll_cons r0
  obtain ⟨v2, vs2, d2, ds2, p2, q2, rfl, rfl, rfl, h2, r2⟩ := trodAll_cons r1
  obtain ⟨rfl, rfl, rfl⟩ := trodAll_nil r2
  obtain rfl : args = #[v0, v1, v2] := by cases args; simp_all
  obtain ⟨rfl, rfl⟩ := trodVars_none hV
  have k0 := h0
  have lt0 : ∀ x ∈ p0, x.block < W.heap.size := by obtain ⟨m, hm⟩ := k0; exact DataW.trod_lt m _ _ _ hm
  obtain ⟨cs0, rfl, l0, L0⟩ := flat_of (n := 3) (ls := [(0, .inl .i64), (1, .inl .i64), (2, .inl .i64)]) (by kernel_rfl) (by kernel_rfl) (agg_of_struct Try.underlying27 (hval 0 27 v0 rfl rfl)) h0
  obtain ⟨a0x0, e0x0, w0x0⟩ := leaf_int (L0 (0, .inl .i64) (by simp))
  obtain ⟨a0x1, e0x1, w0x1⟩ := leaf_int (L0 (1, .inl .i64) (by simp))
  obtain ⟨a0x2, e0x2, w0x2⟩ := leaf_int (L0 (2, .inl .i64) (by simp))
  obtain rfl : cs0 = [.int .i64 a0x0, .int .i64 a0x1, .int .i64 a0x2] := list_is l0 rfl (by intro i hi; match i, hi with | 0, _ => exact e0x0 | 1, _ => exact e0x1 | 2, _ => exact e0x2)
  have k1 := h1
  have lt1 : ∀ x ∈ p1, x.block < W.heap.size := by obtain ⟨m, hm⟩ := k1; exact DataW.trod_lt m _ _ _ hm
  obtain ⟨cs1, rfl, l1, L1⟩ := flat_of (n := 2) (ls := [(0, .inl .i64), (1, .inl .i64)]) (by kernel_rfl) (by kernel_rfl) (agg_of_array Try.underlying22 (hval 1 22 v1 rfl rfl)) h1
  obtain ⟨a1x0, e1x0, w1x0⟩ := leaf_int (L1 (0, .inl .i64) (by simp))
  obtain ⟨a1x1, e1x1, w1x1⟩ := leaf_int (L1 (1, .inl .i64) (by simp))
  obtain rfl : cs1 = [.int .i64 a1x0, .int .i64 a1x1] := list_is l1 rfl (by intro i hi; match i, hi with | 0, _ => exact e1x0 | 1, _ => exact e1x1)
  have k2 := h2
  have lt2 : ∀ x ∈ p2, x.block < W.heap.size := by obtain ⟨m, hm⟩ := k2; exact DataW.trod_lt m _ _ _ hm
  obtain ⟨cs2, rfl, l2, L2⟩ := flat_of (n := 2) (ls := [(0, .inl .i64), (1, .inl .i64)]) (by kernel_rfl) (by kernel_rfl) (agg_of_array Try.underlying22 (hval 2 22 v2 rfl rfl)) h2
  obtain ⟨a2x0, e2x0, w2x0⟩ := leaf_int (L2 (0, .inl .i64) (by simp))
  obtain ⟨a2x1, e2x1, w2x1⟩ := leaf_int (L2 (1, .inl .i64) (by simp))
  obtain rfl : cs2 = [.int .i64 a2x0, .int .i64 a2x1] := list_is l2 rfl (by intro i hi; match i, hi with | 0, _ => exact e2x0 | 1, _ => exact e2x1)
  clear hA0 hval0
  refine (walk a0x0 a0x1 a0x2 a1x0 a1x1 a2x0 a2x1 W w0x0 w0x1 w0x2 w1x0 w1x1 w2x0 w2x1).mono fun e W' ⟨he, bel⟩ => ?_
  subst he
  exact ⟨_, rfl, _, _, _, [], _, [], hW', trodAll_mk1 (shut_bool Try.underlying4 _), (trodAll_cons_mk (Below.trod laidOut (by kernel_rfl) (of_decide_eq_true (by kernel_rfl)) k0 bel lt0) (trodAll_cons_mk (Below.trod laidOut (by kernel_rfl) (of_decide_eq_true (by kernel_rfl)) k1 bel lt1) (trodAll_cons_mk (Below.trod laidOut (by kernel_rfl) (of_decide_eq_true (by kernel_rfl)) k2 bel lt2) trodAll_mk0))), rfl, bel.frame _, fun h => by cases h⟩

theorem over : Rows.pragueGrowsRow.holds Try.pinned (OpenSpec.ofChange Rows.pragueGrowsSpec) :=
  OpenClaim.holds_of_wide 4 Try.f4 rfl rfl rfl rfl rfl rfl rfl ⟨rfl, rfl, rfl, rfl, rfl⟩ rfl rfl rfl rfl rfl (by kernel_rfl) Try.func4 (by kernel_rfl)
    (of_decide_eq_true (by kernel_rfl)) (by unfold Func.isWrapper; first | (rw [if_pos (by decide +kernel)]; kernel_rfl) | (rw [if_neg (by decide +kernel)]; exact ⟨rfl, rfl⟩))
    (fun os started H enc _ => lifted os started H enc)
end pragueGrows
theorem pragueGrows_holds : Rows.PragueGrowsSaid := pragueGrows.over
end Go.Proofs.Ytgbcgnlibnkjpaa
