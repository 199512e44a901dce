/- For every header, every text (its first three hundred bytes) and every size: segment.Cut tells the segments that the document's Cut tells, as many and each the same, and the chapter's example holds: SegmentCuts returns true and changes nothing that was there. No conditions. -/
import Derived.Test.YtnkcnfkonifmhaaZRowsK
import Derived.Test.YtnkcnfkonifmhaaZCutD
namespace Go.Proofs.Ytnkcnfkonifmhaa
namespace segmentCuts
open Go.ChangeShapes Go.WideShapes Go.ChangeAt Go.RowKit
open Go.ChangeMaps (open_string shut_string)
set_option linter.unusedVariables false

theorem own : ownKnob Try.prog.godebug = none := by kernel_rfl
theorem laidOut : laidOutB Try.prog = true := by kernel_rfl

set_option maxHeartbeats 4000000 in
set_option maxRecDepth 100000 in
theorem walk (a0x0 : Int) (a0x1 : Int) (a0x2 : Int) (a0x3 : Int) (a0x4 : Int) (a0x5 : Int) (a0x6 : Int) (a0x7 : Int) (a0x8 : Int) (a0x9 : Int) (a1 : ByteArray) (a2 : Int) (w : World) (w0x0 : (Lit.int .u16 a0x0).wf = true) (w0x1 : (Lit.int .u16 a0x1).wf = true) (w0x2 : (Lit.int .u32 a0x2).wf = true) (w0x3 : (Lit.int .u32 a0x3).wf = true) (w0x4 : (Lit.int .u8 a0x4).wf = true) (w0x5 : (Lit.int .u8 a0x5).wf = true) (w0x6 : (Lit.int .u8 a0x6).wf = true) (w0x7 : (Lit.int .u16 a0x7).wf = true) (w0x8 : (Lit.int .u16 a0x8).wf = true) (w0x9 : (Lit.int .u16 a0x9).wf = true) (w1 : a1.size ≤ maxLen) (w2 : (Lit.int .i64 a2).wf = true) :
    Calls Try.prog 7 #[.agg #[.int .u16 a0x0, .int .u16 a0x1, .int .u32 a0x2, .int .u32 a0x3, .int .u8 a0x4, .int .u8 a0x5, .int .u8 a0x6, .int .u16 a0x7, .int .u16 a0x8, .int .u16 a0x9], .string a1, .int .i64 a2] w fun e w' => e = .returned (.bool true) ∧ Below w.heap.size w w' := by
  have c0 := bounds_u16 w0x0; have c1 := bounds_u16 w0x1; have c2 := bounds_u32 w0x2; have c3 := bounds_u32 w0x3; have c4 := bounds_u8 w0x4; have c5 := bounds_u8 w0x5; have c6 := bounds_u8 w0x6; have c7 := bounds_u16 w0x7; have c8 := bounds_u16 w0x8; have c9 := bounds_u16 w0x9
  have hm := bounds_i64 w2
  have ok : HdOk ⟨a0x0, a0x1, a0x2, a0x3, a0x4, a0x5, a0x6, a0x7, a0x8, a0x9⟩ := by constructor <;> (dsimp only; omega)
  exact segCuts_any ⟨a0x0, a0x1, a0x2, a0x3, a0x4, a0x5, a0x6, a0x7, a0x8, a0x9⟩ ok a1 a2 w w1 (by omega)

set_option maxRecDepth 100000 in
theorem lifted (os : Os) (started : os.Started) (H : Type) (enc : TypeId × Value → H) :
    ReturnsInHanded {} Try.checked os 7 .any (Rows.segmentCutsSpec.pre6 enc Try.prog Try.f7 Rows.segmentCutsRow.domain false) (Rows.segmentCutsSpec.post enc Try.prog Try.f7 false true false false) := by
  refine returnsInHanded_of_change (C := Try.checked) own started (by kernel_rfl) Try.func7
    (ChangeSpec.witness6 (enc := enc) (C := Try.checked) false ⟨#[], #[.agg #[.int .u16 0, .int .u16 0, .int .u32 0, .int .u32 0, .int .u8 0, .int .u8 0, .int .u8 0, .int .u16 0, .int .u16 0, .int .u16 0], .string ByteArray.empty, .int .i64 0], []⟩ 8 (by kernel_rfl) (by kernel_rfl) (by kernel_rfl) (by kernel_rfl)) ?_
  intro W base args ds gs before hval0 hW hcnd _
  have hval : ∀ (j : Nat) t v, Try.f7.params[j]? = some t → args[j]? = some v → Value.okWide Try.prog W .any base t v := hval0
  have hW' := hW
  obtain ⟨p, q, hA0, hV, rfl, hfz, hnd⟩ := hW
  have hA : DataW.TrodAll enc Try.prog W 0 (fun _ => true) true Try.f7.params.toList args.toList ds p := hA0
  rw [Try.params7] at hA hval
  obtain ⟨v0, vs0, d0, ds0, p0, q0, hargs, rfl, rfl, h0, r0⟩ := trodAll_cons hA
  obtain ⟨v1, vs1, d1, ds1, p1, q1, rfl, rfl, rfl, h1, r1⟩ := trodAll_cons r0
  obtain ⟨v2, vs2, d2, ds2, p2, q2, rfl, rfl, rfl, h2, r2⟩ := trodAll_cons r1
  obtain ⟨rfl, rfl, rfl⟩ := trodAll_nil r2
  obtain rfl : args = #[v0, v1, v2] := by cases args; simp_all
  obtain ⟨rfl, rfl⟩ := trodVars_none hV
  have k0 := h0
  have lt0 : ∀ x ∈ p0, x.block < W.heap.size := by obtain ⟨m, hm⟩ := k0; exact DataW.trod_lt m _ _ _ hm
  obtain ⟨cs0, rfl, l0, L0⟩ := flat_of (n := 10) (ls := [(0, .inl .u16), (1, .inl .u16), (2, .inl .u32), (3, .inl .u32), (4, .inl .u8), (5, .inl .u8), (6, .inl .u8), (7, .inl .u16), (8, .inl .u16), (9, .inl .u16)]) (by kernel_rfl) (by kernel_rfl) (agg_of_struct Try.underlying27 (hval 0 27 v0 rfl rfl)) h0
  obtain ⟨a0x0, e0x0, w0x0⟩ := leaf_int (L0 (0, .inl .u16) (by simp))
  obtain ⟨a0x1, e0x1, w0x1⟩ := leaf_int (L0 (1, .inl .u16) (by simp))
  obtain ⟨a0x2, e0x2, w0x2⟩ := leaf_int (L0 (2, .inl .u32) (by simp))
  obtain ⟨a0x3, e0x3, w0x3⟩ := leaf_int (L0 (3, .inl .u32) (by simp))
  obtain ⟨a0x4, e0x4, w0x4⟩ := leaf_int (L0 (4, .inl .u8) (by simp))
  obtain ⟨a0x5, e0x5, w0x5⟩ := leaf_int (L0 (5, .inl .u8) (by simp))
  obtain ⟨a0x6, e0x6, w0x6⟩ := leaf_int (L0 (6, .inl .u8) (by simp))
  obtain ⟨a0x7, e0x7, w0x7⟩ := leaf_int (L0 (7, .inl .u16) (by simp))
  obtain ⟨a0x8, e0x8, w0x8⟩ := leaf_int (L0 (8, .inl .u16) (by simp))
  obtain ⟨a0x9, e0x9, w0x9⟩ := leaf_int (L0 (9, .inl .u16) (by simp))
  obtain rfl : cs0 = [.int .u16 a0x0, .int .u16 a0x1, .int .u32 a0x2, .int .u32 a0x3, .int .u8 a0x4, .int .u8 a0x5, .int .u8 a0x6, .int .u16 a0x7, .int .u16 a0x8, .int .u16 a0x9] := list_is l0 rfl (by intro i hi; match i, hi with | 0, _ => exact e0x0 | 1, _ => exact e0x1 | 2, _ => exact e0x2 | 3, _ => exact e0x3 | 4, _ => exact e0x4 | 5, _ => exact e0x5 | 6, _ => exact e0x6 | 7, _ => exact e0x7 | 8, _ => exact e0x8 | 9, _ => exact e0x9)
  have k1 := h1
  have lt1 : ∀ x ∈ p1, x.block < W.heap.size := by obtain ⟨m, hm⟩ := k1; exact DataW.trod_lt m _ _ _ hm
  obtain ⟨a1, rfl, _, _, w1⟩ := open_string Try.underlying9 (hval 1 9 v1 rfl rfl) h1
  have k2 := h2
  have lt2 : ∀ x ∈ p2, x.block < W.heap.size := by obtain ⟨m, hm⟩ := k2; exact DataW.trod_lt m _ _ _ hm
  obtain ⟨a2, rfl, _, _, w2⟩ := open_int Try.underlying3 (hval 2 3 v2 rfl rfl) h2
  clear hA0 hval0
  refine (walk a0x0 a0x1 a0x2 a0x3 a0x4 a0x5 a0x6 a0x7 a0x8 a0x9 a1 a2 W w0x0 w0x1 w0x2 w0x3 w0x4 w0x5 w0x6 w0x7 w0x8 w0x9 w1 w2).mono fun e W' ⟨he, bel⟩ => ?_
  subst he
  exact ⟨_, rfl, _, _, _, [], _, [], hW', trodAll_mk1 (shut_bool Try.underlying4 _), (trodAll_cons_mk (Below.trod laidOut (by kernel_rfl) (of_decide_eq_true (by kernel_rfl)) k0 bel lt0) (trodAll_cons_mk (Below.trod laidOut (by kernel_rfl) (of_decide_eq_true (by kernel_rfl)) k1 bel lt1) (trodAll_cons_mk (Below.trod laidOut (by kernel_rfl) (of_decide_eq_true (by kernel_rfl)) k2 bel lt2) trodAll_mk0))), rfl, bel.frame _, fun h => by cases h⟩

theorem over : Rows.segmentCutsRow.holds Try.pinned (OpenSpec.ofChange Rows.segmentCutsSpec) :=
  OpenClaim.holds_of_wide 7 Try.f7 rfl rfl rfl rfl rfl rfl rfl ⟨rfl, rfl, rfl, rfl, rfl⟩ rfl rfl rfl rfl rfl (by kernel_rfl) Try.func7 (by kernel_rfl)
    (of_decide_eq_true (by kernel_rfl)) (by unfold Func.isWrapper; first | (rw [if_pos (by decide +kernel)]; kernel_rfl) | (rw [if_neg (by decide +kernel)]; exact ⟨rfl, rfl⟩))
    (fun os started H enc _ => lifted os started H enc)
end segmentCuts
theorem segmentCuts_holds : Rows.SegmentCutsSaid := segmentCuts.over
end Go.Proofs.Ytnkcnfkonifmhaa
