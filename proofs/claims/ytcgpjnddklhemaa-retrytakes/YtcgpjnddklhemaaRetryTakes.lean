/- For every state and every two numbers, retry.Take answers as the document's own Take does, its number of what happened too, retry.Timeout is the state that awaits all up to the second number; and the chapter's example holds: RetryTakes returns true and changes nothing that was there. No conditions. -/
import Derived.Test.YtcgpjnddklhemaaKit
import Derived.Test.YtcgpjnddklhemaaRtyC
namespace Go.Proofs.Ytcgpjnddklhemaa
namespace retryTakes
open Go.ChangeShapes Go.WideShapes Go.ChangeAt Go.RowKit
open Go.ChangeMaps (open_string shut_string)
set_option linter.unusedVariables false

theorem own : ownKnob Try.prog.godebug = none := by kernel_rfl
theorem laidOut : laidOutB Try.prog = true := by kernel_rfl

set_option maxHeartbeats 4000000 in
set_option maxRecDepth 100000 in
theorem walk (a0x0 : Int) (a0x1 : Int) (a0x2 : Int) (a0x3 : Bool) (a1 : Int) (a2 : Int) (w : World) (w0x0 : (Lit.int .i64 a0x0).wf = true) (w0x1 : (Lit.int .i64 a0x1).wf = true) (w0x2 : (Lit.int .i64 a0x2).wf = true) (w1 : (Lit.int .i64 a1).wf = true) (w2 : (Lit.int .i64 a2).wf = true) :
    Calls Try.prog 3 #[.agg #[.int .i64 a0x0, .int .i64 a0x1, .int .i64 a0x2, .bool a0x3], .int .i64 a1, .int .i64 a2] w fun e w' => e = .returned (.bool true) ∧ Below w.heap.size w w' := by
  obtain ⟨D, x, hD⟩ := ry_there ⟨a0x0, a0x1, a0x2, a0x3⟩ a1 a2
  clear w0x0 w0x1 w0x2 w1 w2
  have T1 : Hid (∀ w, Calls Try.prog 5 #[.agg #[.int .i64 a0x0, .int .i64 a0x1, .int .i64 a0x2, .bool a0x3], .int .i64 a1, .int .i64 a2] w fun e w' => e = .returned (.tuple #[.agg #[.int .i64 D.a, .int .i64 D.d, .int .i64 D.p, .bool D.i], .int .i64 x]) ∧ Below w.heap.size w w') := Lib.hid (fun w => take28_any a0x0 a0x1 a0x2 a0x3 a1 a2 D x w hD)
  have T2 : Hid (∀ w, Calls Try.prog 6 #[.agg #[.int .i64 a0x0, .int .i64 a0x1, .int .i64 a0x2, .bool a0x3], .int .i64 a1, .int .i64 a2] w fun e w' => e = .returned (.tuple #[.agg #[.int .i64 D.a, .int .i64 D.d, .int .i64 D.p, .bool D.i], .int .i64 x]) ∧ Below w.heap.size w w') := Lib.hid (fun w => take28R_any a0x0 a0x1 a0x2 a0x3 a1 a2 D x w hD)
  have T3 : Hid (∀ w, Calls Try.prog 7 #[.agg #[.int .i64 a0x0, .int .i64 a0x1, .int .i64 a0x2, .bool a0x3], .int .i64 a2] w fun e w' => e = .returned (.agg #[.int .i64 a0x0, .int .i64 0, .int .i64 a2, .bool true]) ∧ Below w.heap.size w w') := Lib.hid (fun w => timeout28_any a0x0 a0x1 a0x2 a0x3 a2 w)
  have E1 := eqlY4 D
  have E2 := eqlY4 ⟨a0x0, 0, a2, true⟩
  unfold ryG at E1 E2
  dsimp only at E2
  have hx : (x == x) = true := by simp
  clear hD
  have C1 := Lib.hid (Blk.new w (ryV ⟨a0x0, a0x1, a0x2, a0x3⟩) 23)
  have L1 := Lib.hid (new_alloc (new_refl w) (.cells #[.int .i64 a0x0, .int .i64 a0x1, .int .i64 a0x2, .bool a0x3] 23))
  obtain ⟨W1, h1⟩ : ∃ W, w.alloc (.cells #[.int .i64 a0x0, .int .i64 a0x1, .int .i64 a0x2, .bool a0x3] 23) = W := ⟨_, rfl⟩
  have C2 : Hid (Blk W1 w.heap.size (ryV ⟨a0x0, a0x1, a0x2, a0x3⟩) 23) := Lib.hid (by rw [← h1]; exact C1.out)
  have L2 : Hid (Below w.heap.size w W1) := Lib.hid (by rw [← h1]; exact L1.out)
  clear C1 L1
  go_enter Try.func3, Try.ntmps3
  go_upto_region 1 with fail
  clear h1
  have c0 := C2.out.cell 0 rfl; have c1 := C2.out.cell 1 rfl; have c2 := C2.out.cell 2 rfl; have c3 := C2.out.cell 3 rfl
  go_upto_region 2 with (go_at_call 5; refine (T1.out _).mono ?_; rintro e w1 ⟨rfl, B1⟩)
  have N1 := Lib.hid (Blk.new w1 (ryV D) 23)
  have C3 := Lib.hid ((C2.out.kept B1).alloc (.cells #[.int .i64 D.a, .int .i64 D.d, .int .i64 D.p, .bool D.i] 23))
  have L3 := Lib.hid (new_alloc (new_then L2.out B1) (.cells #[.int .i64 D.a, .int .i64 D.d, .int .i64 D.p, .bool D.i] 23))
  clear c0 c1 c2 c3 C2 L2 B1 T1
  have c0 := C3.out.cell 0 rfl; have c1 := C3.out.cell 1 rfl; have c2 := C3.out.cell 2 rfl; have c3 := C3.out.cell 3 rfl
  go_upto_region 3 with (go_at_call 6; refine (T2.out _).mono ?_; rintro e w2 ⟨rfl, B2⟩)
  have M1 := Lib.hid (Blk.new w2 (ryV D) 23)
  have N2 := Lib.hid ((N1.out.kept B2).alloc (.cells #[.int .i64 D.a, .int .i64 D.d, .int .i64 D.p, .bool D.i] 23))
  have C4 := Lib.hid ((C3.out.kept B2).alloc (.cells #[.int .i64 D.a, .int .i64 D.d, .int .i64 D.p, .bool D.i] 23))
  have L4 := Lib.hid (new_alloc (new_then L3.out B2) (.cells #[.int .i64 D.a, .int .i64 D.d, .int .i64 D.p, .bool D.i] 23))
  clear c0 c1 c2 c3 C3 L3 B2 T2 N1
  have c0 := C4.out.cell 0 rfl; have c1 := C4.out.cell 1 rfl; have c2 := C4.out.cell 2 rfl; have c3 := C4.out.cell 3 rfl
  go_upto_region 4 with (go_at_call 7; refine (T3.out _).mono ?_; rintro e w3 ⟨rfl, B3⟩)
  have O1 := Lib.hid (Blk.new w3 (ryV ⟨a0x0, 0, a2, true⟩) 23)
  have M2 := Lib.hid ((M1.out.kept B3).alloc (.cells #[.int .i64 a0x0, .int .i64 0, .int .i64 a2, .bool true] 23))
  have N3 := Lib.hid ((N2.out.kept B3).alloc (.cells #[.int .i64 a0x0, .int .i64 0, .int .i64 a2, .bool true] 23))
  have C5 := Lib.hid ((C4.out.kept B3).alloc (.cells #[.int .i64 a0x0, .int .i64 0, .int .i64 a2, .bool true] 23))
  have L5 := Lib.hid (new_alloc (new_then L4.out B3) (.cells #[.int .i64 a0x0, .int .i64 0, .int .i64 a2, .bool true] 23))
  clear c0 c1 c2 c3 C4 L4 B3 T3 M1 N2
  have c0 := C5.out.cell 0 rfl
  have n0 := N3.out.cell 0 rfl; have n1 := N3.out.cell 1 rfl; have n2 := N3.out.cell 2 rfl; have n3 := N3.out.cell 3 rfl; have m0 := M2.out.cell 0 rfl; have m1 := M2.out.cell 1 rfl; have m2 := M2.out.cell 2 rfl; have m3 := M2.out.cell 3 rfl; have o0 := O1.out.cell 0 rfl; have o1 := O1.out.cell 1 rfl; have o2 := O1.out.cell 2 rfl; have o3 := O1.out.cell 3 rfl
  go_wp2_with (go_at_call 8; refine (works28_any _).mono ?_; rintro e w4 ⟨rfl, B4⟩)
  go_ret
  exact ⟨rfl, new_then L5.out B4⟩

set_option maxRecDepth 100000 in
theorem lifted (os : Os) (started : os.Started) (H : Type) (enc : TypeId × Value → H) :
    ReturnsInHanded {} Try.checked os 3 .any (Rows.retryTakesSpec.pre6 enc Try.prog Try.f3 Rows.retryTakesRow.domain false) (Rows.retryTakesSpec.post enc Try.prog Try.f3 false true false false) := by
  refine returnsInHanded_of_change (C := Try.checked) own started (by kernel_rfl) Try.func3
    (ChangeSpec.witness6 (enc := enc) (C := Try.checked) false ⟨#[], #[.agg #[.int .i64 0, .int .i64 0, .int .i64 0, .bool false], .int .i64 0, .int .i64 0], []⟩ 8 (by kernel_rfl) (by kernel_rfl) (by kernel_rfl) (by kernel_rfl)) ?_
  intro W base args ds gs before hval0 hW hcnd _
  have hval : ∀ (j : Nat) t v, Try.f3.params[j]? = some t → args[j]? = some v → Value.okWide Try.prog W .any base t v := hval0
  have hW' := hW
  obtain ⟨p, q, hA0, hV, rfl, hfz, hnd⟩ := hW
  have hA : DataW.TrodAll enc Try.prog W 0 (fun _ => true) true Try.f3.params.toList args.toList ds p := hA0
  rw [Try.params3] at hA hval
  obtain ⟨v0, vs0, d0, ds0, p0, q0, hargs, rfl, rfl, h0, r0⟩ := trodAll_cons hA
  obtain ⟨v1, vs1, d1, ds1, p1, q1, rfl, rfl, rfl, h1, r1⟩ := trodAll_cons r0
  obtain ⟨v2, vs2, d2, ds2, p2, q2, rfl, rfl, rfl, h2, r2⟩ := trodAll_cons r1
  obtain ⟨rfl, rfl, rfl⟩ := trodAll_nil r2
  obtain rfl : args = #[v0, v1, v2] := by cases args; simp_all
  obtain ⟨rfl, rfl⟩ := trodVars_none hV
  have k0 := h0
  have lt0 : ∀ x ∈ p0, x.block < W.heap.size := by obtain ⟨m, hm⟩ := k0; exact DataW.trod_lt m _ _ _ hm
  obtain ⟨cs0, rfl, l0, L0⟩ := flat_of (n := 4) (ls := [(0, .inl .i64), (1, .inl .i64), (2, .inl .i64), (3, .inr false)]) (by kernel_rfl) (by kernel_rfl) (agg_of_struct Try.underlying23 (hval 0 23 v0 rfl rfl)) h0
  obtain ⟨a0x0, e0x0, w0x0⟩ := leaf_int (L0 (0, .inl .i64) (by simp))
  obtain ⟨a0x1, e0x1, w0x1⟩ := leaf_int (L0 (1, .inl .i64) (by simp))
  obtain ⟨a0x2, e0x2, w0x2⟩ := leaf_int (L0 (2, .inl .i64) (by simp))
  obtain ⟨a0x3, e0x3⟩ := leaf_bool (L0 (3, .inr false) (by simp))
  obtain rfl : cs0 = [.int .i64 a0x0, .int .i64 a0x1, .int .i64 a0x2, .bool a0x3] := list_is l0 rfl (by intro i hi; match i, hi with | 0, _ => exact e0x0 | 1, _ => exact e0x1 | 2, _ => exact e0x2 | 3, _ => exact e0x3)
  have k1 := h1
  have lt1 : ∀ x ∈ p1, x.block < W.heap.size := by obtain ⟨m, hm⟩ := k1; exact DataW.trod_lt m _ _ _ hm
  obtain ⟨a1, rfl, _, _, w1⟩ := open_int Try.underlying2 (hval 1 2 v1 rfl rfl) h1
  have k2 := h2
  have lt2 : ∀ x ∈ p2, x.block < W.heap.size := by obtain ⟨m, hm⟩ := k2; exact DataW.trod_lt m _ _ _ hm
  obtain ⟨a2, rfl, _, _, w2⟩ := open_int Try.underlying2 (hval 2 2 v2 rfl rfl) h2
  clear hA0 hval0
  refine (walk a0x0 a0x1 a0x2 a0x3 a1 a2 W w0x0 w0x1 w0x2 w1 w2).mono fun e W' ⟨he, bel⟩ => ?_
  subst he
  exact ⟨_, rfl, _, _, _, [], _, [], hW', trodAll_mk1 (shut_bool Try.underlying4 _), (trodAll_cons_mk (Below.trod laidOut (by kernel_rfl) (of_decide_eq_true (by kernel_rfl)) k0 bel lt0) (trodAll_cons_mk (Below.trod laidOut (by kernel_rfl) (of_decide_eq_true (by kernel_rfl)) k1 bel lt1) (trodAll_cons_mk (Below.trod laidOut (by kernel_rfl) (of_decide_eq_true (by kernel_rfl)) k2 bel lt2) trodAll_mk0))), rfl, bel.frame _, fun h => by cases h⟩

theorem over : Rows.retryTakesRow.holds Try.pinned (OpenSpec.ofChange Rows.retryTakesSpec) :=
  OpenClaim.holds_of_wide 3 Try.f3 rfl rfl rfl rfl rfl rfl rfl ⟨rfl, rfl, rfl, rfl, rfl⟩ rfl rfl rfl rfl rfl (by kernel_rfl) Try.func3 (by kernel_rfl)
    (of_decide_eq_true (by kernel_rfl)) (by unfold Func.isWrapper; first | (rw [if_pos (by decide +kernel)]; kernel_rfl) | (rw [if_neg (by decide +kernel)]; exact ⟨rfl, rfl⟩))
    (fun os started H enc _ => lifted os started H enc)
end retryTakes
theorem retryTakes_holds : Rows.RetryTakesSaid := retryTakes.over
end Go.Proofs.Ytcgpjnddklhemaa
