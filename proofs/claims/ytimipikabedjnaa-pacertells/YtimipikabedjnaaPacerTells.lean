/- For every bucket, every time and every three numbers, pacer.When of the first of them and pacer.Rate of all three answer as the document's own do, and the chapter's example holds: PacerTells returns true and changes nothing that was there. No conditions. -/
import Derived.Test.YtimipikabedjnaaKit
import Derived.Test.YtimipikabedjnaaPacG
namespace Go.Proofs.Ytimipikabedjnaa
namespace pacerTells
open Go.ChangeShapes Go.WideShapes Go.ChangeAt Go.RowKit
open Go.ChangeMaps (open_string shut_string)
set_option linter.unusedVariables false

theorem own : ownKnob Try.prog.godebug = none := by kernel_rfl
theorem laidOut : laidOutB Try.prog = true := by kernel_rfl

set_option maxHeartbeats 4000000 in
set_option maxRecDepth 100000 in
theorem walk (a0x0 : Int) (a0x1 : Int) (a0x2 : Int) (a0x3 : Int) (a1 : Int) (a2x0 : Int) (a2x1 : Int) (a2x2 : Int) (w : World) (w0x0 : (Lit.int .i64 a0x0).wf = true) (w0x1 : (Lit.int .i64 a0x1).wf = true) (w0x2 : (Lit.int .i64 a0x2).wf = true) (w0x3 : (Lit.int .i64 a0x3).wf = true) (w1 : (Lit.int .i64 a1).wf = true) (w2x0 : (Lit.int .i64 a2x0).wf = true) (w2x1 : (Lit.int .i64 a2x1).wf = true) (w2x2 : (Lit.int .i64 a2x2).wf = true) :
    Calls Try.prog 4 #[.agg #[.int .i64 a0x0, .int .i64 a0x1, .int .i64 a0x2, .int .i64 a0x3], .int .i64 a1, .agg #[.int .i64 a2x0, .int .i64 a2x1, .int .i64 a2x2]] w fun e w' => e = .returned (.bool true) ∧ Below w.heap.size w w' := by
  obtain ⟨c, hcc⟩ : ∃ c : Pc, c = ⟨a0x0, a0x1, a0x2, a0x3⟩ := ⟨_, rfl⟩
  obtain rfl : a0x0 = c.r := by rw [hcc]
  obtain rfl : a0x1 = c.u := by rw [hcc]
  obtain rfl : a0x2 = c.l := by rw [hcc]
  obtain rfl : a0x3 = c.a := by rw [hcc]
  clear hcc w0x0 w0x1 w0x2 w0x3 w1 w2x0 w2x1 w2x2
  have C0 := Lib.hid ((Blk.new w (pcV c) 23).alloc (.cells #[.int .i64 a2x0, .int .i64 a2x1, .int .i64 a2x2] 28))
  have C1 := Lib.hid (Blk.newAt (alloc_size w (.cells #[.int .i64 c.r, .int .i64 c.u, .int .i64 c.l, .int .i64 c.a] 23)) [.int .i64 a2x0, .int .i64 a2x1, .int .i64 a2x2] 28)
  have LO := Lib.hid (new_alloc (new_alloc (new_refl w) (.cells #[.int .i64 c.r, .int .i64 c.u, .int .i64 c.l, .int .i64 c.a] 23)) (.cells #[.int .i64 a2x0, .int .i64 a2x1, .int .i64 a2x2] 28))
  have F1 : Hid (∀ w, Calls Try.prog 12 #[.agg #[.int .i64 c.r, .int .i64 c.u, .int .i64 c.l, .int .i64 c.a], .int .i64 a1, .int .i64 a2x0] w fun e w' => e = .returned (.int .i64 (pcWhen c a1 a2x0)) ∧ Below w.heap.size w w') := Lib.hid (fun w => when23_any c a1 a2x0 w)
  have F2 : Hid (∀ w, Calls Try.prog 13 #[.agg #[.int .i64 c.r, .int .i64 c.u, .int .i64 c.l, .int .i64 c.a], .int .i64 a1, .int .i64 a2x0] w fun e w' => e = .returned (.int .i64 (pcWhen c a1 a2x0)) ∧ Below w.heap.size w w') := Lib.hid (fun w => when23R_any c a1 a2x0 w)
  have S1 : Hid (∀ w, Calls Try.prog 14 #[.int .i64 a2x0, .int .i64 a2x1, .int .i64 a2x2] w fun e w' => e = .returned (.int .i64 (pcRate a2x0 a2x1 a2x2)) ∧ Below w.heap.size w w') := Lib.hid (fun w => rate23_any a2x0 a2x1 a2x2 w)
  have S2 : Hid (∀ w, Calls Try.prog 15 #[.int .i64 a2x0, .int .i64 a2x1, .int .i64 a2x2] w fun e w' => e = .returned (.int .i64 (pcRate a2x0 a2x1 a2x2)) ∧ w = w') := Lib.hid (fun w => rate23R_any a2x0 a2x1 a2x2 w)
  generalize pcWhen c a1 a2x0 = D at *
  generalize pcRate a2x0 a2x1 a2x2 = H at *
  go_enter Try.func4, Try.ntmps4
  go_upto_region 1 with fail
  have e0 := cell_by (C0.out.cell 0 rfl)
  have e1 := cell_by (C0.out.cell 1 rfl)
  have e2 := cell_by (C0.out.cell 2 rfl)
  have e3 := cell_by (C0.out.cell 3 rfl)
  have d0 := cell_by (C1.out.cell 0 rfl)
  have d1 := cell_by (C1.out.cell 1 rfl)
  have d2 := cell_by (C1.out.cell 2 rfl)
  refine wp_region_quiet_below (by kernel_rfl) (by kernel_rfl) ?_
  repeat (go_big_quiet_step (first
    | (go_at_call 12; refine calls_by (F1.out _))
    | (go_at_call 13; refine calls_by (F2.out _))
    | (go_at_call 14; refine calls_by (S1.out _))
    | (go_at_call 15; refine calls_by_same (S2.out _))
    | (go_at_call 11; refine calls_by (works23_any _))))
  refine wpQuiet_nil ?_
  intro wq hw'
  obtain ⟨⟨wr, Bq⟩, hw''⟩ := hw'
  subst hw''
  clear e0 e1 e2 e3 d0 d1 d2
  go_wp2_with fail
  go_ret
  exact ⟨rfl, new_then LO.out Bq⟩

set_option maxRecDepth 100000 in
theorem lifted (os : Os) (started : os.Started) (H : Type) (enc : TypeId × Value → H) :
    ReturnsInHanded {} Try.checked os 4 .any (Rows.pacerTellsSpec.pre6 enc Try.prog Try.f4 Rows.pacerTellsRow.domain false) (Rows.pacerTellsSpec.post enc Try.prog Try.f4 false true false false) := by
  refine returnsInHanded_of_change (C := Try.checked) own started (by kernel_rfl) Try.func4
    (ChangeSpec.witness6 (enc := enc) (C := Try.checked) false ⟨#[], #[.agg #[.int .i64 0, .int .i64 0, .int .i64 0, .int .i64 0], .int .i64 0, .agg #[.int .i64 0, .int .i64 0, .int .i64 0]], []⟩ 8 (by kernel_rfl) (by kernel_rfl) (by kernel_rfl) (by kernel_rfl)) ?_
  intro W base args ds gs before hval0 hW hcnd _
  have hval : ∀ (j : Nat) t v, Try.f4.params[j]? = some t → args[j]? = some v → Value.okWide Try.prog W .any base t v := hval0
  have hW' := hW
  obtain ⟨p, q, hA0, hV, rfl, hfz, hnd⟩ := hW
  have hA : DataW.TrodAll enc Try.prog W 0 (fun _ => true) true Try.f4.params.toList args.toList ds p := hA0
  rw [Try.params4] at hA hval
  obtain ⟨v0, vs0, d0, ds0, p0, q0, hargs, rfl, rfl, h0, r0⟩ := trodAll_cons hA
  obtain ⟨v1, vs1, d1, ds1, p1, q1, rfl, rfl, rfl, h1, r1⟩ := trodAll_cons r0
  obtain ⟨v2, vs2, d2, ds2, p2, q2, rfl, rfl, rfl, h2, r2⟩ := trodAll_cons r1
  obtain ⟨rfl, rfl, rfl⟩ := trodAll_nil r2
  obtain rfl : args = #[v0, v1, v2] := by cases args; simp_all
  obtain ⟨rfl, rfl⟩ := trodVars_none hV
  have k0 := h0
  have lt0 : ∀ x ∈ p0, x.block < W.heap.size := by obtain ⟨m, hm⟩ := k0; exact DataW.trod_lt m _ _ _ hm
  obtain ⟨cs0, rfl, l0, L0⟩ := flat_of (n := 4) (ls := [(0, .inl .i64), (1, .inl .i64), (2, .inl .i64), (3, .inl .i64)]) (by kernel_rfl) (by kernel_rfl) (agg_of_struct Try.underlying23 (hval 0 23 v0 rfl rfl)) h0
  obtain ⟨a0x0, e0x0, w0x0⟩ := leaf_int (L0 (0, .inl .i64) (by simp))
  obtain ⟨a0x1, e0x1, w0x1⟩ := leaf_int (L0 (1, .inl .i64) (by simp))
  obtain ⟨a0x2, e0x2, w0x2⟩ := leaf_int (L0 (2, .inl .i64) (by simp))
  obtain ⟨a0x3, e0x3, w0x3⟩ := leaf_int (L0 (3, .inl .i64) (by simp))
  obtain rfl : cs0 = [.int .i64 a0x0, .int .i64 a0x1, .int .i64 a0x2, .int .i64 a0x3] := list_is l0 rfl (by intro i hi; match i, hi with | 0, _ => exact e0x0 | 1, _ => exact e0x1 | 2, _ => exact e0x2 | 3, _ => exact e0x3)
  have k1 := h1
  have lt1 : ∀ x ∈ p1, x.block < W.heap.size := by obtain ⟨m, hm⟩ := k1; exact DataW.trod_lt m _ _ _ hm
  obtain ⟨a1, rfl, _, _, w1⟩ := open_int Try.underlying2 (hval 1 2 v1 rfl rfl) h1
  have k2 := h2
  have lt2 : ∀ x ∈ p2, x.block < W.heap.size := by obtain ⟨m, hm⟩ := k2; exact DataW.trod_lt m _ _ _ hm
  obtain ⟨cs2, rfl, l2, L2⟩ := flat_of (n := 3) (ls := [(0, .inl .i64), (1, .inl .i64), (2, .inl .i64)]) (by kernel_rfl) (by kernel_rfl) (agg_of_array Try.underlying28 (hval 2 28 v2 rfl rfl)) h2
  obtain ⟨a2x0, e2x0, w2x0⟩ := leaf_int (L2 (0, .inl .i64) (by simp))
  obtain ⟨a2x1, e2x1, w2x1⟩ := leaf_int (L2 (1, .inl .i64) (by simp))
  obtain ⟨a2x2, e2x2, w2x2⟩ := leaf_int (L2 (2, .inl .i64) (by simp))
  obtain rfl : cs2 = [.int .i64 a2x0, .int .i64 a2x1, .int .i64 a2x2] := list_is l2 rfl (by intro i hi; match i, hi with | 0, _ => exact e2x0 | 1, _ => exact e2x1 | 2, _ => exact e2x2)
  clear hA0 hval0
  refine (walk a0x0 a0x1 a0x2 a0x3 a1 a2x0 a2x1 a2x2 W w0x0 w0x1 w0x2 w0x3 w1 w2x0 w2x1 w2x2).mono fun e W' ⟨he, bel⟩ => ?_
  subst he
  exact ⟨_, rfl, _, _, _, [], _, [], hW', trodAll_mk1 (shut_bool Try.underlying4 _), (trodAll_cons_mk (Below.trod laidOut (by kernel_rfl) (of_decide_eq_true (by kernel_rfl)) k0 bel lt0) (trodAll_cons_mk (Below.trod laidOut (by kernel_rfl) (of_decide_eq_true (by kernel_rfl)) k1 bel lt1) (trodAll_cons_mk (Below.trod laidOut (by kernel_rfl) (of_decide_eq_true (by kernel_rfl)) k2 bel lt2) trodAll_mk0))), rfl, bel.frame _, fun h => by cases h⟩

theorem over : Rows.pacerTellsRow.holds Try.pinned (OpenSpec.ofChange Rows.pacerTellsSpec) :=
  OpenClaim.holds_of_wide 4 Try.f4 rfl rfl rfl rfl rfl rfl rfl ⟨rfl, rfl, rfl, rfl, rfl⟩ rfl rfl rfl rfl rfl (by kernel_rfl) Try.func4 (by kernel_rfl)
    (of_decide_eq_true (by kernel_rfl)) (by unfold Func.isWrapper; first | (rw [if_pos (by decide +kernel)]; kernel_rfl) | (rw [if_neg (by decide +kernel)]; exact ⟨rfl, rfl⟩))
    (fun os started H enc _ => lifted os started H enc)
end pacerTells
theorem pacerTells_holds : Rows.PacerTellsSaid := pacerTells.over
end Go.Proofs.Ytimipikabedjnaa
