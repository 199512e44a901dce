/- For every byte, flags.Bits parts its three lowest bits and flags.Ace joins them, as the document says; for every header and byte flag, flags.Has is true just if no bit of flag is missing among the flags; and the chapter's example holds: FlagsBits returns true and changes nothing. No conditions. -/
import Derived.Test.YtfoaaoigkdbjmaaKit
import Derived.Test.YtfoaaoigkdbjmaaFlgF
namespace Go.Proofs.Ytfoaaoigkdbjmaa
namespace flagsBits
open Go.ChangeShapes Go.WideShapes Go.ChangeAt Go.RowKit
open Go.ChangeMaps (open_string shut_string)
set_option linter.unusedVariables false

theorem own : ownKnob Try.prog.godebug = none := by kernel_rfl
theorem laidOut : laidOutB Try.prog = true := by kernel_rfl

set_option maxHeartbeats 4000000 in
set_option maxRecDepth 100000 in
theorem walk (a0 : Int) (a1x0 : Int) (a1x1 : Int) (a1x2 : Int) (a1x3 : Int) (a1x4 : Int) (a1x5 : Int) (a1x6 : Int) (a1x7 : Int) (a1x8 : Int) (a1x9 : Int) (a2 : Int) (w : World) (w0 : (Lit.int .u8 a0).wf = true) (w1x0 : (Lit.int .u16 a1x0).wf = true) (w1x1 : (Lit.int .u16 a1x1).wf = true) (w1x2 : (Lit.int .u32 a1x2).wf = true) (w1x3 : (Lit.int .u32 a1x3).wf = true) (w1x4 : (Lit.int .u8 a1x4).wf = true) (w1x5 : (Lit.int .u8 a1x5).wf = true) (w1x6 : (Lit.int .u8 a1x6).wf = true) (w1x7 : (Lit.int .u16 a1x7).wf = true) (w1x8 : (Lit.int .u16 a1x8).wf = true) (w1x9 : (Lit.int .u16 a1x9).wf = true) (w2 : (Lit.int .u8 a2).wf = true) :
    Calls Try.prog 5 #[.int .u8 a0, .agg #[.int .u16 a1x0, .int .u16 a1x1, .int .u32 a1x2, .int .u32 a1x3, .int .u8 a1x4, .int .u8 a1x5, .int .u8 a1x6, .int .u16 a1x7, .int .u16 a1x8, .int .u16 a1x9], .int .u8 a2] w fun e w' => e = .returned (.bool true) ∧ Below w.heap.size w w' := by
  have bf := bounds_u8 w1x6
  have bx := bounds_u8 w2
  have ba := bounds_u8 w0
  obtain ⟨q, hq⟩ : ∃ q, (bits .and .u8 a1x6 a2 == a2) = q := ⟨_, rfl⟩
  have hq2 : (bits .and .u8 (255 - a1x6) a2 == 0) = q := (has_is bf bx).trans hq
  have e1 : IntKind.u8.wrap (255 - a1x6) = 255 - a1x6 := by rw [IntKind.wrap_u8]; omega
  have HQ := Lib.hid hq
  have EA := Lib.hid (aceF_is ba)
  have CB := Lib.hid (bits3_any a0 ba)
  have CH := Lib.hid (has_any ⟨a1x0, a1x1, a1x2, a1x3, a1x4, a1x5, a1x6, a1x7, a1x8, a1x9⟩ a2)
  have A := At.new w [.int .u16 a1x0, .int .u16 a1x1, .int .u32 a1x2, .int .u32 a1x3, .int .u8 a1x4, .int .u8 a1x5, .int .u8 a1x6, .int .u16 a1x7, .int .u16 a1x8, .int .u16 a1x9] 25
  have L0 := Lib.hid (new_alloc (new_refl w) (.cells #[.int .u16 a1x0, .int .u16 a1x1, .int .u32 a1x2, .int .u32 a1x3, .int .u8 a1x4, .int .u8 a1x5, .int .u8 a1x6, .int .u16 a1x7, .int .u16 a1x8, .int .u16 a1x9] 25))
  obtain ⟨b0, b1⟩ := ba
  obtain ⟨f0, f1⟩ := bf
  clear hq bx w0 w2 w1x0 w1x1 w1x2 w1x3 w1x4 w1x5 w1x6 w1x7 w1x8 w1x9
  generalize t4F a0 = a at EA CB
  generalize t2F a0 = b at EA CB
  generalize t1F a0 = c at EA CB
  go_enter Try.func5, Try.ntmps5
  go_upto_region 1 with (fail)
  generalize w.alloc (.cells #[.int .u16 a1x0, .int .u16 a1x1, .int .u32 a1x2, .int .u32 a1x3, .int .u8 a1x4, .int .u8 a1x5, .int .u8 a1x6, .int .u16 a1x7, .int .u16 a1x8, .int .u16 a1x9] 25) = V at A L0 ⊢
  go_upto_region 3 with (first
    | (go_at_call 13; refine (CB.out V).mono ?_; rintro e wa ⟨rfl, rfl⟩))
  cases a <;> cases b <;> cases c
  all_goals
    have e8 := EA.out.symm
    simp only [aceF, Bool.false_eq_true, if_true, if_false, Int.add_zero, Int.zero_add, Int.reduceAdd] at e8
    have e9 := (Int.tmod_eq_emod_of_nonneg (b := 8) b0).trans e8
    have x0 := A.cell 0 rfl
    have x1 := A.cell 1 rfl
    have x2 := A.cell 2 rfl
    have x3 := A.cell 3 rfl
    have x4 := A.cell 4 rfl
    have x5 := A.cell 5 rfl
    have x6 := A.cell 6 rfl
    have x7 := A.cell 7 rfl
    have x8 := A.cell 8 rfl
    have x9 := A.cell 9 rfl
    go_upto_region 9 with (fail)
    go_region_held3 (fun w' => w'.cell? ⟨w.heap.size, 0, none⟩ = some (.int .u16 a1x0) ∧ w'.cell? ⟨w.heap.size, 1, none⟩ = some (.int .u16 a1x1) ∧ w'.cell? ⟨w.heap.size, 2, none⟩ = some (.int .u32 a1x2) ∧ w'.cell? ⟨w.heap.size, 3, none⟩ = some (.int .u32 a1x3) ∧ w'.cell? ⟨w.heap.size, 4, none⟩ = some (.int .u8 a1x4) ∧ w'.cell? ⟨w.heap.size, 5, none⟩ = some (.int .u8 a1x5) ∧ w'.cell? ⟨w.heap.size, 6, none⟩ = some (.int .u8 a1x6) ∧ w'.cell? ⟨w.heap.size, 7, none⟩ = some (.int .u16 a1x7) ∧ w'.cell? ⟨w.heap.size, 8, none⟩ = some (.int .u16 a1x8) ∧ w'.cell? ⟨w.heap.size, 9, none⟩ = some (.int .u16 a1x9))
      (first | go_keep | exact ten_kept B3 (by assumption) | exact ten_kept B2 (by assumption))
      (first
        | (go_at_call 14; refine (ace3_any _ _ _ _).mono ?_; rw [EA.out]; rintro e w1 ⟨rfl, rfl⟩)
        | (go_at_call 15; refine (CH.out _).mono ?_; rintro e w2 ⟨he, B2⟩; rw [HQ.out] at he; subst he)
        | (go_at_call 10; refine (works11_any _).mono ?_; rintro e w3 ⟨rfl, B3⟩))
    all_goals
      go_wp2_with fail
      go_ret
      exact ⟨rfl, new_then L0.out (new_then (new_undrew B2) B3)⟩

set_option maxRecDepth 100000 in
theorem lifted (os : Os) (started : os.Started) (H : Type) (enc : TypeId × Value → H) :
    ReturnsInHanded {} Try.checked os 5 .any (Rows.flagsBitsSpec.pre6 enc Try.prog Try.f5 Rows.flagsBitsRow.domain false) (Rows.flagsBitsSpec.post enc Try.prog Try.f5 false true false false) := by
  refine returnsInHanded_of_change (C := Try.checked) own started (by kernel_rfl) Try.func5
    (ChangeSpec.witness6 (enc := enc) (C := Try.checked) false ⟨#[], #[.int .u8 0, .agg #[.int .u16 0, .int .u16 0, .int .u32 0, .int .u32 0, .int .u8 0, .int .u8 0, .int .u8 0, .int .u16 0, .int .u16 0, .int .u16 0], .int .u8 0], []⟩ 8 (by kernel_rfl) (by kernel_rfl) (by kernel_rfl) (by kernel_rfl)) ?_
  intro W base args ds gs before hval0 hW hcnd _
  have hval : ∀ (j : Nat) t v, Try.f5.params[j]? = some t → args[j]? = some v → Value.okWide Try.prog W .any base t v := hval0
  have hW' := hW
  obtain ⟨p, q, hA0, hV, rfl, hfz, hnd⟩ := hW
  have hA : DataW.TrodAll enc Try.prog W 0 (fun _ => true) true Try.f5.params.toList args.toList ds p := hA0
  rw [Try.params5] at hA hval
  obtain ⟨v0, vs0, d0, ds0, p0, q0, hargs, rfl, rfl, h0, r0⟩ := trodAll_cons hA
  obtain ⟨v1, vs1, d1, ds1, p1, q1, rfl, rfl, rfl, h1, r1⟩ := trodAll_cons r0
  obtain ⟨v2, vs2, d2, ds2, p2, q2, rfl, rfl, rfl, h2, r2⟩ := trodAll_cons r1
  obtain ⟨rfl, rfl, rfl⟩ := trodAll_nil r2
  obtain rfl : args = #[v0, v1, v2] := by cases args; simp_all
  obtain ⟨rfl, rfl⟩ := trodVars_none hV
  have k0 := h0
  have lt0 : ∀ x ∈ p0, x.block < W.heap.size := by obtain ⟨m, hm⟩ := k0; exact DataW.trod_lt m _ _ _ hm
  obtain ⟨a0, rfl, _, _, w0⟩ := open_int Try.underlying5 (hval 0 5 v0 rfl rfl) h0
  have k1 := h1
  have lt1 : ∀ x ∈ p1, x.block < W.heap.size := by obtain ⟨m, hm⟩ := k1; exact DataW.trod_lt m _ _ _ hm
  obtain ⟨cs1, rfl, l1, L1⟩ := flat_of (n := 10) (ls := [(0, .inl .u16), (1, .inl .u16), (2, .inl .u32), (3, .inl .u32), (4, .inl .u8), (5, .inl .u8), (6, .inl .u8), (7, .inl .u16), (8, .inl .u16), (9, .inl .u16)]) (by kernel_rfl) (by kernel_rfl) (agg_of_struct Try.underlying25 (hval 1 25 v1 rfl rfl)) h1
  obtain ⟨a1x0, e1x0, w1x0⟩ := leaf_int (L1 (0, .inl .u16) (by simp))
  obtain ⟨a1x1, e1x1, w1x1⟩ := leaf_int (L1 (1, .inl .u16) (by simp))
  obtain ⟨a1x2, e1x2, w1x2⟩ := leaf_int (L1 (2, .inl .u32) (by simp))
  obtain ⟨a1x3, e1x3, w1x3⟩ := leaf_int (L1 (3, .inl .u32) (by simp))
  obtain ⟨a1x4, e1x4, w1x4⟩ := leaf_int (L1 (4, .inl .u8) (by simp))
  obtain ⟨a1x5, e1x5, w1x5⟩ := leaf_int (L1 (5, .inl .u8) (by simp))
  obtain ⟨a1x6, e1x6, w1x6⟩ := leaf_int (L1 (6, .inl .u8) (by simp))
  obtain ⟨a1x7, e1x7, w1x7⟩ := leaf_int (L1 (7, .inl .u16) (by simp))
  obtain ⟨a1x8, e1x8, w1x8⟩ := leaf_int (L1 (8, .inl .u16) (by simp))
  obtain ⟨a1x9, e1x9, w1x9⟩ := leaf_int (L1 (9, .inl .u16) (by simp))
  obtain rfl : cs1 = [.int .u16 a1x0, .int .u16 a1x1, .int .u32 a1x2, .int .u32 a1x3, .int .u8 a1x4, .int .u8 a1x5, .int .u8 a1x6, .int .u16 a1x7, .int .u16 a1x8, .int .u16 a1x9] := list_is l1 rfl (by intro i hi; match i, hi with | 0, _ => exact e1x0 | 1, _ => exact e1x1 | 2, _ => exact e1x2 | 3, _ => exact e1x3 | 4, _ => exact e1x4 | 5, _ => exact e1x5 | 6, _ => exact e1x6 | 7, _ => exact e1x7 | 8, _ => exact e1x8 | 9, _ => exact e1x9)
  have k2 := h2
  have lt2 : ∀ x ∈ p2, x.block < W.heap.size := by obtain ⟨m, hm⟩ := k2; exact DataW.trod_lt m _ _ _ hm
  obtain ⟨a2, rfl, _, _, w2⟩ := open_int Try.underlying5 (hval 2 5 v2 rfl rfl) h2
  clear hA0 hval0
  refine (walk a0 a1x0 a1x1 a1x2 a1x3 a1x4 a1x5 a1x6 a1x7 a1x8 a1x9 a2 W w0 w1x0 w1x1 w1x2 w1x3 w1x4 w1x5 w1x6 w1x7 w1x8 w1x9 w2).mono fun e W' ⟨he, bel⟩ => ?_
  subst he
  exact ⟨_, rfl, _, _, _, [], _, [], hW', trodAll_mk1 (shut_bool Try.underlying4 _), (trodAll_cons_mk (Below.trod laidOut (by kernel_rfl) (of_decide_eq_true (by kernel_rfl)) k0 bel lt0) (trodAll_cons_mk (Below.trod laidOut (by kernel_rfl) (of_decide_eq_true (by kernel_rfl)) k1 bel lt1) (trodAll_cons_mk (Below.trod laidOut (by kernel_rfl) (of_decide_eq_true (by kernel_rfl)) k2 bel lt2) trodAll_mk0))), rfl, bel.frame _, fun h => by cases h⟩

theorem over : Rows.flagsBitsRow.holds Try.pinned (OpenSpec.ofChange Rows.flagsBitsSpec) :=
  OpenClaim.holds_of_wide 5 Try.f5 rfl rfl rfl rfl rfl rfl rfl ⟨rfl, rfl, rfl, rfl, rfl⟩ rfl rfl rfl rfl rfl (by kernel_rfl) Try.func5 (by kernel_rfl)
    (of_decide_eq_true (by kernel_rfl)) (by unfold Func.isWrapper; first | (rw [if_pos (by decide +kernel)]; kernel_rfl) | (rw [if_neg (by decide +kernel)]; exact ⟨rfl, rfl⟩))
    (fun os started H enc _ => lifted os started H enc)
end flagsBits
theorem flagsBits_holds : Rows.FlagsBitsSaid := flagsBits.over
end Go.Proofs.Ytfoaaoigkdbjmaa
