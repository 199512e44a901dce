/- For every two addresses, every segment (its first twelve options, their first twelve numbers, the first sixty bytes of their texts, its first hundred bytes of data) and every number: of the bytes that segment.Encode tells, with one bit turned, segment.Decode tells an error and an empty segment, and the chapter's example holds: SegmentTurned returns true and changes nothing that was there. No conditions. -/
import Derived.Test.YtnkcnfkonifmhaaZRowsK
import Derived.Test.YtnkcnfkonifmhaaZSegLd
import Derived.Test.YtnkcnfkonifmhaaZKitX
namespace Go.Proofs.Ytnkcnfkonifmhaa
namespace segmentTurned
open Go.ChangeShapes Go.WideShapes Go.ChangeAt Go.RowKit
open Go.ChangeMaps (open_string shut_string)
set_option linter.unusedVariables false

theorem own : ownKnob Try.prog.godebug = none := by kernel_rfl
theorem laidOut : laidOutB Try.prog = true := by kernel_rfl

set_option maxHeartbeats 4000000 in
set_option maxRecDepth 100000 in
theorem walk (a0x0 : Int) (a0x1 : Int) (a0x2 : Int) (a0x3 : Int) (a0x4 : Int) (a0x5 : Int) (a0x6 : Int) (a0x7 : Int) (a1x0 : Int) (a1x1 : Int) (a1x2 : Int) (a1x3 : Int) (a1x4 : Int) (a1x5 : Int) (a1x6 : Int) (a1x7 : Int) (a1x8 : Int) (a1x9 : Int) (a1x10 : Option Addr) (len1x10 cap1x10 : Nat) (a1x11 : ByteArray) (a2 : Int) (w : World) (w0x0 : (Lit.int .u8 a0x0).wf = true) (w0x1 : (Lit.int .u8 a0x1).wf = true) (w0x2 : (Lit.int .u8 a0x2).wf = true) (w0x3 : (Lit.int .u8 a0x3).wf = true) (w0x4 : (Lit.int .u8 a0x4).wf = true) (w0x5 : (Lit.int .u8 a0x5).wf = true) (w0x6 : (Lit.int .u8 a0x6).wf = true) (w0x7 : (Lit.int .u8 a0x7).wf = true) (w1x0 : (Lit.int .u16 a1x0).wf = true) (w1x1 : (Lit.int .u16 a1x1).wf = true) (w1x2 : (Lit.int .u32 a1x2).wf = true) (w1x3 : (Lit.int .u32 a1x3).wf = true) (w1x4 : (Lit.int .u8 a1x4).wf = true) (w1x5 : (Lit.int .u8 a1x5).wf = true) (w1x6 : (Lit.int .u8 a1x6).wf = true) (w1x7 : (Lit.int .u16 a1x7).wf = true) (w1x8 : (Lit.int .u16 a1x8).wf = true) (w1x9 : (Lit.int .u16 a1x9).wf = true) (w1x10 : IsRowsN w a1x10 len1x10 cap1x10 3 [(0, .inl .i64), (1, .inr (.inr .u32)), (2, .inr (.inl true))]) (w1x11 : a1x11.size ≤ maxLen) (w2 : (Lit.int .u16 a2).wf = true) :
    Calls Try.prog 6 #[.agg #[.int .u8 a0x0, .int .u8 a0x1, .int .u8 a0x2, .int .u8 a0x3, .int .u8 a0x4, .int .u8 a0x5, .int .u8 a0x6, .int .u8 a0x7], .agg #[.int .u16 a1x0, .int .u16 a1x1, .int .u32 a1x2, .int .u32 a1x3, .int .u8 a1x4, .int .u8 a1x5, .int .u8 a1x6, .int .u16 a1x7, .int .u16 a1x8, .int .u16 a1x9, .slice a1x10 len1x10 cap1x10, .string a1x11], .int .u16 a2] w fun e w' => e = .returned (.bool true) ∧ Below w.heap.size w w' := by
  have b0 := bounds_u8 w0x0; have b1 := bounds_u8 w0x1; have b2 := bounds_u8 w0x2; have b3 := bounds_u8 w0x3; have b4 := bounds_u8 w0x4; have b5 := bounds_u8 w0x5; have b6 := bounds_u8 w0x6; have b7 := bounds_u8 w0x7
  have c0 := bounds_u16 w1x0; have c1 := bounds_u16 w1x1; have c2 := bounds_u32 w1x2; have c3 := bounds_u32 w1x3; have c4 := bounds_u8 w1x4; have c5 := bounds_u8 w1x5; have c6 := bounds_u8 w1x6; have c7 := bounds_u16 w1x7; have c8 := bounds_u16 w1x8; have c9 := bounds_u16 w1x9
  have hx : (⟨a0x0, a0x1, a0x2, a0x3, a0x4, a0x5, a0x6, a0x7⟩ : Ad).ok := by
    intro y hy
    simp only [List.mem_cons, List.not_mem_nil, or_false] at hy
    omega
  have ok : HdOk ⟨a1x0, a1x1, a1x2, a1x3, a1x4, a1x5, a1x6, a1x7, a1x8, a1x9⟩ := by constructor <;> (dsimp only; omega)
  have hlen : len1x10 ≤ maxLen := by
    rcases w1x10 with ⟨_, h, _⟩ | ⟨_, _, h1, h2, _⟩
    · rw [h]; exact Nat.zero_le _
    · omega
  have hnn : 0 ≤ a2 ∧ a2 ≤ 65535 := by have := bounds_u16 w2; omega
  exact segTurned_any ⟨a0x0, a0x1, a0x2, a0x3, a0x4, a0x5, a0x6, a0x7⟩ hx ⟨a1x0, a1x1, a1x2, a1x3, a1x4, a1x5, a1x6, a1x7, a1x8, a1x9⟩ ok a1x10 len1x10 cap1x10 a1x11 a2 w (srcO_of w1x10) hlen w1x11 hnn.1 hnn.2

set_option maxRecDepth 100000 in
theorem lifted (os : Os) (started : os.Started) (H : Type) (enc : TypeId × Value → H) :
    ReturnsInHanded {} Try.checked os 6 .any (Rows.segmentTurnedSpec.pre6 enc Try.prog Try.f6 Rows.segmentTurnedRow.domain false) (Rows.segmentTurnedSpec.post enc Try.prog Try.f6 false true false false) := by
  refine returnsInHanded_of_change (C := Try.checked) own started (by kernel_rfl) Try.func6
    (ChangeSpec.witness6 (enc := enc) (C := Try.checked) false ⟨#[], #[.agg #[.int .u8 0, .int .u8 0, .int .u8 0, .int .u8 0, .int .u8 0, .int .u8 0, .int .u8 0, .int .u8 0], .agg #[.int .u16 0, .int .u16 0, .int .u32 0, .int .u32 0, .int .u8 0, .int .u8 0, .int .u8 0, .int .u16 0, .int .u16 0, .int .u16 0, .slice none 0 0, .string ByteArray.empty], .int .u16 0], []⟩ 8 (by kernel_rfl) (by kernel_rfl) (by kernel_rfl) (by kernel_rfl)) ?_
  intro W base args ds gs before hval0 hW hcnd _
  have hval : ∀ (j : Nat) t v, Try.f6.params[j]? = some t → args[j]? = some v → Value.okWide Try.prog W .any base t v := hval0
  have hW' := hW
  obtain ⟨p, q, hA0, hV, rfl, hfz, hnd⟩ := hW
  have hA : DataW.TrodAll enc Try.prog W 0 (fun _ => true) true Try.f6.params.toList args.toList ds p := hA0
  rw [Try.params6] at hA hval
  obtain ⟨v0, vs0, d0, ds0, p0, q0, hargs, rfl, rfl, h0, r0⟩ := trodAll_cons hA
  obtain ⟨v1, vs1, d1, ds1, p1, q1, rfl, rfl, rfl, h1, r1⟩ := trodAll_cons r0
  obtain ⟨v2, vs2, d2, ds2, p2, q2, rfl, rfl, rfl, h2, r2⟩ := trodAll_cons r1
  obtain ⟨rfl, rfl, rfl⟩ := trodAll_nil r2
  obtain rfl : args = #[v0, v1, v2] := by cases args; simp_all
  obtain ⟨rfl, rfl⟩ := trodVars_none hV
  have k0 := h0
  have lt0 : ∀ x ∈ p0, x.block < W.heap.size := by obtain ⟨m, hm⟩ := k0; exact DataW.trod_lt m _ _ _ hm
  obtain ⟨cs0, rfl, l0, L0⟩ := flat_of (n := 8) (ls := [(0, .inl .u8), (1, .inl .u8), (2, .inl .u8), (3, .inl .u8), (4, .inl .u8), (5, .inl .u8), (6, .inl .u8), (7, .inl .u8)]) (by kernel_rfl) (by kernel_rfl) (agg_of_array Try.underlying23 (hval 0 23 v0 rfl rfl)) h0
  obtain ⟨a0x0, e0x0, w0x0⟩ := leaf_int (L0 (0, .inl .u8) (by simp))
  obtain ⟨a0x1, e0x1, w0x1⟩ := leaf_int (L0 (1, .inl .u8) (by simp))
  obtain ⟨a0x2, e0x2, w0x2⟩ := leaf_int (L0 (2, .inl .u8) (by simp))
  obtain ⟨a0x3, e0x3, w0x3⟩ := leaf_int (L0 (3, .inl .u8) (by simp))
  obtain ⟨a0x4, e0x4, w0x4⟩ := leaf_int (L0 (4, .inl .u8) (by simp))
  obtain ⟨a0x5, e0x5, w0x5⟩ := leaf_int (L0 (5, .inl .u8) (by simp))
  obtain ⟨a0x6, e0x6, w0x6⟩ := leaf_int (L0 (6, .inl .u8) (by simp))
  obtain ⟨a0x7, e0x7, w0x7⟩ := leaf_int (L0 (7, .inl .u8) (by simp))
  obtain rfl : cs0 = [.int .u8 a0x0, .int .u8 a0x1, .int .u8 a0x2, .int .u8 a0x3, .int .u8 a0x4, .int .u8 a0x5, .int .u8 a0x6, .int .u8 a0x7] := list_is l0 rfl (by intro i hi; match i, hi with | 0, _ => exact e0x0 | 1, _ => exact e0x1 | 2, _ => exact e0x2 | 3, _ => exact e0x3 | 4, _ => exact e0x4 | 5, _ => exact e0x5 | 6, _ => exact e0x6 | 7, _ => exact e0x7)
  have k1 := h1
  have lt1 : ∀ x ∈ p1, x.block < W.heap.size := by obtain ⟨m, hm⟩ := k1; exact DataW.trod_lt m _ _ _ hm
  obtain ⟨cs1, rfl, l1, L1⟩ := flatP_of (n := 12) (ls := [(0, .inl (.inl .u16)), (1, .inl (.inl .u16)), (2, .inl (.inl .u32)), (3, .inl (.inl .u32)), (4, .inl (.inl .u8)), (5, .inl (.inl .u8)), (6, .inl (.inl .u8)), (7, .inl (.inl .u16)), (8, .inl (.inl .u16)), (9, .inl (.inl .u16)), (10, .inr (3, [(0, .inl .i64), (1, .inr (.inr .u32)), (2, .inr (.inl true))])), (11, .inl (.inr (.inl true)))]) (by kernel_rfl) (by kernel_rfl) (agg_of_struct Try.underlying30 (hval 1 30 v1 rfl rfl)) h1
  obtain ⟨a1x0, e1x0, w1x0⟩ := lg_int (L1 (0, .inl (.inl .u16)) (by simp))
  obtain ⟨a1x1, e1x1, w1x1⟩ := lg_int (L1 (1, .inl (.inl .u16)) (by simp))
  obtain ⟨a1x2, e1x2, w1x2⟩ := lg_int (L1 (2, .inl (.inl .u32)) (by simp))
  obtain ⟨a1x3, e1x3, w1x3⟩ := lg_int (L1 (3, .inl (.inl .u32)) (by simp))
  obtain ⟨a1x4, e1x4, w1x4⟩ := lg_int (L1 (4, .inl (.inl .u8)) (by simp))
  obtain ⟨a1x5, e1x5, w1x5⟩ := lg_int (L1 (5, .inl (.inl .u8)) (by simp))
  obtain ⟨a1x6, e1x6, w1x6⟩ := lg_int (L1 (6, .inl (.inl .u8)) (by simp))
  obtain ⟨a1x7, e1x7, w1x7⟩ := lg_int (L1 (7, .inl (.inl .u16)) (by simp))
  obtain ⟨a1x8, e1x8, w1x8⟩ := lg_int (L1 (8, .inl (.inl .u16)) (by simp))
  obtain ⟨a1x9, e1x9, w1x9⟩ := lg_int (L1 (9, .inl (.inl .u16)) (by simp))
  obtain ⟨a1x10, len1x10, cap1x10, e1x10, w1x10⟩ := lg_rows (L1 (10, .inr (3, [(0, .inl .i64), (1, .inr (.inr .u32)), (2, .inr (.inl true))])) (by simp))
  obtain ⟨a1x11, e1x11, w1x11⟩ := lg_str (L1 (11, .inl (.inr (.inl true))) (by simp))
  obtain rfl : cs1 = [.int .u16 a1x0, .int .u16 a1x1, .int .u32 a1x2, .int .u32 a1x3, .int .u8 a1x4, .int .u8 a1x5, .int .u8 a1x6, .int .u16 a1x7, .int .u16 a1x8, .int .u16 a1x9, .slice a1x10 len1x10 cap1x10, .string a1x11] := list_is l1 rfl (by intro i hi; match i, hi with | 0, _ => exact e1x0 | 1, _ => exact e1x1 | 2, _ => exact e1x2 | 3, _ => exact e1x3 | 4, _ => exact e1x4 | 5, _ => exact e1x5 | 6, _ => exact e1x6 | 7, _ => exact e1x7 | 8, _ => exact e1x8 | 9, _ => exact e1x9 | 10, _ => exact e1x10 | 11, _ => exact e1x11)
  have k2 := h2
  have lt2 : ∀ x ∈ p2, x.block < W.heap.size := by obtain ⟨m, hm⟩ := k2; exact DataW.trod_lt m _ _ _ hm
  obtain ⟨a2, rfl, _, _, w2⟩ := open_int Try.underlying24 (hval 2 24 v2 rfl rfl) h2
  clear hA0 hval0
  refine (walk a0x0 a0x1 a0x2 a0x3 a0x4 a0x5 a0x6 a0x7 a1x0 a1x1 a1x2 a1x3 a1x4 a1x5 a1x6 a1x7 a1x8 a1x9 a1x10 len1x10 cap1x10 a1x11 a2 W w0x0 w0x1 w0x2 w0x3 w0x4 w0x5 w0x6 w0x7 w1x0 w1x1 w1x2 w1x3 w1x4 w1x5 w1x6 w1x7 w1x8 w1x9 w1x10 w1x11 w2).mono fun e W' ⟨he, bel⟩ => ?_
  subst he
  exact ⟨_, rfl, _, _, _, [], _, [], hW', trodAll_mk1 (shut_bool Try.underlying4 _), (trodAll_cons_mk (Below.trod laidOut (by kernel_rfl) (of_decide_eq_true (by kernel_rfl)) k0 bel lt0) (trodAll_cons_mk (Below.trod laidOut (by kernel_rfl) (of_decide_eq_true (by kernel_rfl)) k1 bel lt1) (trodAll_cons_mk (Below.trod laidOut (by kernel_rfl) (of_decide_eq_true (by kernel_rfl)) k2 bel lt2) trodAll_mk0))), rfl, bel.frame _, fun h => by cases h⟩

theorem over : Rows.segmentTurnedRow.holds Try.pinned (OpenSpec.ofChange Rows.segmentTurnedSpec) :=
  OpenClaim.holds_of_wide 6 Try.f6 rfl rfl rfl rfl rfl rfl rfl ⟨rfl, rfl, rfl, rfl, rfl⟩ rfl rfl rfl rfl rfl (by kernel_rfl) Try.func6 (by kernel_rfl)
    (of_decide_eq_true (by kernel_rfl)) (by unfold Func.isWrapper; first | (rw [if_pos (by decide +kernel)]; kernel_rfl) | (rw [if_neg (by decide +kernel)]; exact ⟨rfl, rfl⟩))
    (fun os started H enc _ => lifted os started H enc)
end segmentTurned
theorem segmentTurned_holds : Rows.SegmentTurnedSaid := segmentTurned.over
end Go.Proofs.Ytnkcnfkonifmhaa
