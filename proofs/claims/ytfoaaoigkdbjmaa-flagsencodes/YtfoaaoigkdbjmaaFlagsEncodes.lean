/- For every header, flags.Encode tells the bytes and the error of the document's own Encode, and the chapter's example holds: FlagsEncodes returns true and changes nothing. No conditions. -/
import Derived.Test.YtfoaaoigkdbjmaaKit
import Derived.Test.YtfoaaoigkdbjmaaFlgC
namespace Go.Proofs.Ytfoaaoigkdbjmaa
namespace flagsEncodes
open Go.ChangeShapes Go.WideShapes Go.ChangeAt Go.RowKit
open Go.ChangeMaps (open_string shut_string)
set_option linter.unusedVariables false

theorem own : ownKnob Try.prog.godebug = none := by kernel_rfl
theorem laidOut : laidOutB Try.prog = true := by kernel_rfl

set_option maxHeartbeats 4000000 in
set_option maxRecDepth 100000 in
theorem walk (a0x0 : Int) (a0x1 : Int) (a0x2 : Int) (a0x3 : Int) (a0x4 : Int) (a0x5 : Int) (a0x6 : Int) (a0x7 : Int) (a0x8 : Int) (a0x9 : Int) (w : World) (w0x0 : (Lit.int .u16 a0x0).wf = true) (w0x1 : (Lit.int .u16 a0x1).wf = true) (w0x2 : (Lit.int .u32 a0x2).wf = true) (w0x3 : (Lit.int .u32 a0x3).wf = true) (w0x4 : (Lit.int .u8 a0x4).wf = true) (w0x5 : (Lit.int .u8 a0x5).wf = true) (w0x6 : (Lit.int .u8 a0x6).wf = true) (w0x7 : (Lit.int .u16 a0x7).wf = true) (w0x8 : (Lit.int .u16 a0x8).wf = true) (w0x9 : (Lit.int .u16 a0x9).wf = true) :
    Calls Try.prog 3 #[.agg #[.int .u16 a0x0, .int .u16 a0x1, .int .u32 a0x2, .int .u32 a0x3, .int .u8 a0x4, .int .u8 a0x5, .int .u8 a0x6, .int .u16 a0x7, .int .u16 a0x8, .int .u16 a0x9]] w fun e w' => e = .returned (.bool true) ∧ Below w.heap.size w w' := by
  have b0 := bounds_u16 w0x0
  have b1 := bounds_u16 w0x1
  have b2 := bounds_u32 w0x2
  have b3 := bounds_u32 w0x3
  have b4 := bounds_u8 w0x4
  have b5 := bounds_u8 w0x5
  have b6 := bounds_u8 w0x6
  have b7 := bounds_u16 w0x7
  have b8 := bounds_u16 w0x8
  have b9 := bounds_u16 w0x9
  obtain ⟨T, q, hE⟩ := encs_same ⟨a0x0, a0x1, a0x2, a0x3, a0x4, a0x5, a0x6, a0x7, a0x8, a0x9⟩ ⟨by omega, by omega, by omega, by omega, by omega, by omega, by omega, by omega, by omega, by omega⟩
  have HE := Lib.hid hE
  have A := At.new w [.int .u16 a0x0, .int .u16 a0x1, .int .u32 a0x2, .int .u32 a0x3, .int .u8 a0x4, .int .u8 a0x5, .int .u8 a0x6, .int .u16 a0x7, .int .u16 a0x8, .int .u16 a0x9] 25
  have L0 := new_alloc (new_refl w) (.cells #[.int .u16 a0x0, .int .u16 a0x1, .int .u32 a0x2, .int .u32 a0x3, .int .u8 a0x4, .int .u8 a0x5, .int .u8 a0x6, .int .u16 a0x7, .int .u16 a0x8, .int .u16 a0x9] 25)
  clear hE b0 b1 b2 b3 b4 b5 b6 b7 b8 b9 w0x0 w0x1 w0x2 w0x3 w0x4 w0x5 w0x6 w0x7 w0x8 w0x9
  go_enter Try.func3, Try.ntmps3
  go_upto_region 1 with (fail)
  generalize w.alloc (.cells #[.int .u16 a0x0, .int .u16 a0x1, .int .u32 a0x2, .int .u32 a0x3, .int .u8 a0x4, .int .u8 a0x5, .int .u8 a0x6, .int .u16 a0x7, .int .u16 a0x8, .int .u16 a0x9] 25) = V at A L0 ⊢
  have x0 := A.cell 0 rfl
  have x1 := A.cell 1 rfl
  have x2 := A.cell 2 rfl
  have x3 := A.cell 3 rfl
  have x4 := A.cell 4 rfl
  have x5 := A.cell 5 rfl
  have x6 := A.cell 6 rfl
  have x7 := A.cell 7 rfl
  have x8 := A.cell 8 rfl
  have x9 := A.cell 9 rfl
  go_upto_region 2 with (first
    | (go_at_call 8; refine (HE.out V).1.mono ?_; rintro e wa ⟨x, rfl, TX, Ba⟩))
  clear x0 x1 x2 x3 x4 x5 x6 x7 x8 x9
  replace A := A.kept Ba
  have x0 := A.cell 0 rfl
  have x1 := A.cell 1 rfl
  have x2 := A.cell 2 rfl
  have x3 := A.cell 3 rfl
  have x4 := A.cell 4 rfl
  have x5 := A.cell 5 rfl
  have x6 := A.cell 6 rfl
  have x7 := A.cell 7 rfl
  have x8 := A.cell 8 rfl
  have x9 := A.cell 9 rfl
  go_upto_region 3 with (first
    | (go_at_call 9; refine (HE.out wa).2.mono ?_; rintro e wb ⟨y, rfl, TY, Bb⟩))
  have L1 := new_then L0 (new_then Ba Bb)
  have tx := TX wb Bb
  have ty := TY wb (new_refl wb)
  clear x0 x1 x2 x3 x4 x5 x6 x7 x8 x9 A HE L0 Ba Bb TX TY
  go_wp2_with (first
    | (go_at_call 10; refine (works11_any _).mono ?_; rintro e w3 ⟨rfl, B3⟩))
  go_ret
  exact ⟨rfl, new_then L1 B3⟩

set_option maxRecDepth 100000 in
theorem lifted (os : Os) (started : os.Started) (H : Type) (enc : TypeId × Value → H) :
    ReturnsInHanded {} Try.checked os 3 .any (Rows.flagsEncodesSpec.pre6 enc Try.prog Try.f3 Rows.flagsEncodesRow.domain false) (Rows.flagsEncodesSpec.post enc Try.prog Try.f3 false true false false) := by
  refine returnsInHanded_of_change (C := Try.checked) own started (by kernel_rfl) Try.func3
    (ChangeSpec.witness6 (enc := enc) (C := Try.checked) false ⟨#[], #[.agg #[.int .u16 0, .int .u16 0, .int .u32 0, .int .u32 0, .int .u8 0, .int .u8 0, .int .u8 0, .int .u16 0, .int .u16 0, .int .u16 0]], []⟩ 8 (by kernel_rfl) (by kernel_rfl) (by kernel_rfl) (by kernel_rfl)) ?_
  intro W base args ds gs before hval0 hW hcnd _
  have hval : ∀ (j : Nat) t v, Try.f3.params[j]? = some t → args[j]? = some v → Value.okWide Try.prog W .any base t v := hval0
  have hW' := hW
  obtain ⟨p, q, hA0, hV, rfl, hfz, hnd⟩ := hW
  have hA : DataW.TrodAll enc Try.prog W 0 (fun _ => true) true Try.f3.params.toList args.toList ds p := hA0
  rw [Try.params3] at hA hval
  obtain ⟨v0, vs0, d0, ds0, p0, q0, hargs, rfl, rfl, h0, r0⟩ := trodAll_cons hA
  obtain ⟨rfl, rfl, rfl⟩ := trodAll_nil r0
  obtain rfl : args = #[v0] := by cases args; simp_all
  obtain ⟨rfl, rfl⟩ := trodVars_none hV
  have k0 := h0
  have lt0 : ∀ x ∈ p0, x.block < W.heap.size := by obtain ⟨m, hm⟩ := k0; exact DataW.trod_lt m _ _ _ hm
  obtain ⟨cs0, rfl, l0, L0⟩ := flat_of (n := 10) (ls := [(0, .inl .u16), (1, .inl .u16), (2, .inl .u32), (3, .inl .u32), (4, .inl .u8), (5, .inl .u8), (6, .inl .u8), (7, .inl .u16), (8, .inl .u16), (9, .inl .u16)]) (by kernel_rfl) (by kernel_rfl) (agg_of_struct Try.underlying25 (hval 0 25 v0 rfl rfl)) h0
  obtain ⟨a0x0, e0x0, w0x0⟩ := leaf_int (L0 (0, .inl .u16) (by simp))
  obtain ⟨a0x1, e0x1, w0x1⟩ := leaf_int (L0 (1, .inl .u16) (by simp))
  obtain ⟨a0x2, e0x2, w0x2⟩ := leaf_int (L0 (2, .inl .u32) (by simp))
  obtain ⟨a0x3, e0x3, w0x3⟩ := leaf_int (L0 (3, .inl .u32) (by simp))
  obtain ⟨a0x4, e0x4, w0x4⟩ := leaf_int (L0 (4, .inl .u8) (by simp))
  obtain ⟨a0x5, e0x5, w0x5⟩ := leaf_int (L0 (5, .inl .u8) (by simp))
  obtain ⟨a0x6, e0x6, w0x6⟩ := leaf_int (L0 (6, .inl .u8) (by simp))
  obtain ⟨a0x7, e0x7, w0x7⟩ := leaf_int (L0 (7, .inl .u16) (by simp))
  obtain ⟨a0x8, e0x8, w0x8⟩ := leaf_int (L0 (8, .inl .u16) (by simp))
  obtain ⟨a0x9, e0x9, w0x9⟩ := leaf_int (L0 (9, .inl .u16) (by simp))
  obtain rfl : cs0 = [.int .u16 a0x0, .int .u16 a0x1, .int .u32 a0x2, .int .u32 a0x3, .int .u8 a0x4, .int .u8 a0x5, .int .u8 a0x6, .int .u16 a0x7, .int .u16 a0x8, .int .u16 a0x9] := list_is l0 rfl (by intro i hi; match i, hi with | 0, _ => exact e0x0 | 1, _ => exact e0x1 | 2, _ => exact e0x2 | 3, _ => exact e0x3 | 4, _ => exact e0x4 | 5, _ => exact e0x5 | 6, _ => exact e0x6 | 7, _ => exact e0x7 | 8, _ => exact e0x8 | 9, _ => exact e0x9)
  clear hA0 hval0
  refine (walk a0x0 a0x1 a0x2 a0x3 a0x4 a0x5 a0x6 a0x7 a0x8 a0x9 W w0x0 w0x1 w0x2 w0x3 w0x4 w0x5 w0x6 w0x7 w0x8 w0x9).mono fun e W' ⟨he, bel⟩ => ?_
  subst he
  exact ⟨_, rfl, _, _, _, [], _, [], hW', trodAll_mk1 (shut_bool Try.underlying4 _), (trodAll_cons_mk (Below.trod laidOut (by kernel_rfl) (of_decide_eq_true (by kernel_rfl)) k0 bel lt0) trodAll_mk0), rfl, bel.frame _, fun h => by cases h⟩

theorem over : Rows.flagsEncodesRow.holds Try.pinned (OpenSpec.ofChange Rows.flagsEncodesSpec) :=
  OpenClaim.holds_of_wide 3 Try.f3 rfl rfl rfl rfl rfl rfl rfl ⟨rfl, rfl, rfl, rfl, rfl⟩ rfl rfl rfl rfl rfl (by kernel_rfl) Try.func3 (by kernel_rfl)
    (of_decide_eq_true (by kernel_rfl)) (by unfold Func.isWrapper; first | (rw [if_pos (by decide +kernel)]; kernel_rfl) | (rw [if_neg (by decide +kernel)]; exact ⟨rfl, rfl⟩))
    (fun os started H enc _ => lifted os started H enc)
end flagsEncodes
theorem flagsEncodes_holds : Rows.FlagsEncodesSaid := flagsEncodes.over
end Go.Proofs.Ytfoaaoigkdbjmaa
