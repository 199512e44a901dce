/- For every three int64 as counters (kept from -2^60 to 2^60, as the statement asks) and every three int64 as what is told: field.Step answers as the document's own Step does, field.Follow raises each by it, field.Fresh tells whether the document's Diff is below 0 for none of them; and the chapter's example holds: FieldSteps returns true and changes nothing that was there. No conditions. -/
import Derived.Test.YtdkkeplegbmjgaaKit
import Derived.Test.YtdkkeplegbmjgaaFldC
namespace Go.Proofs.Ytdkkeplegbmjgaa
namespace fieldSteps
open Go.ChangeShapes Go.WideShapes Go.ChangeAt Go.RowKit
open Go.ChangeMaps (open_string shut_string)
set_option linter.unusedVariables false

theorem own : ownKnob Try.prog.godebug = none := by kernel_rfl
theorem laidOut : laidOutB Try.prog = true := by kernel_rfl

set_option maxHeartbeats 4000000 in
set_option maxRecDepth 100000 in
theorem walk (a0x0 : Int) (a0x1 : Int) (a0x2 : Int) (a1x0 : Int) (a1x1 : Int) (a1x2 : Int) (w : World) (w0x0 : (Lit.int .i64 a0x0).wf = true) (w0x1 : (Lit.int .i64 a0x1).wf = true) (w0x2 : (Lit.int .i64 a0x2).wf = true) (w1x0 : (Lit.int .i64 a1x0).wf = true) (w1x1 : (Lit.int .i64 a1x1).wf = true) (w1x2 : (Lit.int .i64 a1x2).wf = true) :
    Calls Try.prog 3 #[.agg #[.int .i64 a0x0, .int .i64 a0x1, .int .i64 a0x2], .agg #[.int .i64 a1x0, .int .i64 a1x1, .int .i64 a1x2]] w fun e w' => e = .returned (.bool true) ∧ Below w.heap.size w w' := by
  have b0 := bounds_i64 w0x0
  have n0 := neF_bd a0x0
  have s0 := stF_bd (neF a0x0) a1x0
  have NR0 := Lib.hid (fun w => near17_any a0x0 w b0)
  have SP0 := Lib.hid (fun w => step17_any (neF a0x0) a1x0 w)
  have SR0 := Lib.hid (fun w => refStep17_any (neF a0x0) a1x0 w)
  have DR0 := Lib.hid (fun w => refDiff17_any (neF a0x0) a1x0 w)
  have b1 := bounds_i64 w0x1
  have n1 := neF_bd a0x1
  have s1 := stF_bd (neF a0x1) a1x1
  have NR1 := Lib.hid (fun w => near17_any a0x1 w b1)
  have SP1 := Lib.hid (fun w => step17_any (neF a0x1) a1x1 w)
  have SR1 := Lib.hid (fun w => refStep17_any (neF a0x1) a1x1 w)
  have DR1 := Lib.hid (fun w => refDiff17_any (neF a0x1) a1x1 w)
  have b2 := bounds_i64 w0x2
  have n2 := neF_bd a0x2
  have s2 := stF_bd (neF a0x2) a1x2
  have NR2 := Lib.hid (fun w => near17_any a0x2 w b2)
  have SP2 := Lib.hid (fun w => step17_any (neF a0x2) a1x2 w)
  have SR2 := Lib.hid (fun w => refStep17_any (neF a0x2) a1x2 w)
  have DR2 := Lib.hid (fun w => refDiff17_any (neF a0x2) a1x2 w)
  have FO := Lib.hid (fun w => follow17_any (neF a0x0) (neF a0x1) (neF a0x2) a1x0 a1x1 a1x2 w (by unfold int64F; omega) (by unfold int64F; omega) (by unfold int64F; omega))
  have FR := Lib.hid (fun w => fresh17_any (neF a0x0) (neF a0x1) (neF a0x2) a1x0 a1x1 a1x2 w)
  unfold FolTo at FO
  simp only [foF_ne] at FO
  unfold frF at FR
  clear w0x0 w0x1 w0x2 w1x0 w1x1 w1x2 b0 b1 b2
  generalize stF (neF a0x0) a1x0 = p0 at *
  generalize toF (neF a0x0) a1x0 = d0 at *
  generalize neF a0x0 = m0 at *
  generalize stF (neF a0x1) a1x1 = p1 at *
  generalize toF (neF a0x1) a1x1 = d1 at *
  generalize neF a0x1 = m1 at *
  generalize stF (neF a0x2) a1x2 = p2 at *
  generalize toF (neF a0x2) a1x2 = d2 at *
  generalize neF a0x2 = m2 at *
  have S := Lib.hid (stp_start w a0x0 a0x1 a0x2 a1x0 a1x1 a1x2)
  go_enter Try.func3, Try.ntmps3
  go_wp2_with fail
  go_loopg [5, 9] 3 (fun gh vf vi wr => StpI w a0x0 a0x1 a0x2 a1x0 a1x1 a1x2 m0 m1 m2 (m0 + p0) (m1 + p1) (m2 + p2) (decide (0 ≤ d0)) (decide (0 ≤ d1)) (decide (0 ≤ d2)) gh vf vi wr)
  case atStart => exact ⟨0, rfl, rfl, rfl, by omega, S.out⟩
  case round =>
    clear S
    obtain ⟨k, rfl, rfl, rfl, hk, C⟩ := hrel
    have ne1 : w.heap.size ≠ w.heap.size + 1 + 1 := by omega
    have ne2 : w.heap.size + 1 ≠ w.heap.size + 1 + 1 := by omega
    obtain rfl | rfl | rfl | rfl : k = 0 ∨ k = 1 ∨ k = 2 ∨ k = 3 := by omega
    · have HC := Lib.hid C
      have c0 := C.last.cell 0 rfl
      have f0 := C.last.frozen 0
      clear C
      obtain ⟨fv, hfv⟩ : ∃ fv, frP (decide (0 ≤ d0)) (decide (0 ≤ d1)) (decide (0 ≤ d2)) 0 = fv := ⟨_, rfl⟩
      have HF := Lib.hid hfv
      rw [hfv]
      clear hfv
      go_upto_region 7 with (go_at_call 5; refine (NR0.out _).mono ?_; rintro e w1 ⟨rfl, rfl⟩)
      have C := HC.out.setL 0 (.int .i64 m0)
      clear HC c0 f0
      generalize wr.setCell ⟨w.heap.size, 0, none⟩ (.int .i64 m0) = W at *
      have HC := Lib.hid C
      have c0 := C.last.cell 0 rfl
      have t0 := C.told.cell 0 rfl
      have v0 := C.want.cell 0 rfl
      have f0 := C.want.frozen 0
      clear C
      have hw : IntKind.i64.wrap (m0 + p0) = m0 + p0 := by rw [IntKind.wrap_i64]; omega
      go_region_held3 (fun w' => w'.cell? ⟨w.heap.size, 0, none⟩ = some (.int .i64 m0) ∧ w'.cell? ⟨w.heap.size + 1, 0, none⟩ = some (.int .i64 a1x0))
        (first | assumption | exact ⟨cellF_far ne1 (by assumption), cellF_far ne2 (by assumption)⟩ | go_keep)
        (first | (go_at_call 6; refine (SR0.out _).mono ?_; rintro e w1 ⟨rfl, rfl⟩))
      all_goals
        have C := (HC.out.setW 0 (.int .i64 (m0 + p0))).drew
        clear HC c0 t0 v0 f0 hw
        generalize (W.setCell ⟨w.heap.size + 1 + 1, 0, none⟩ (.int .i64 (m0 + p0))).drew = X at *
        go_upto_region 8 with (fail)
        have HC := Lib.hid C
        have c0 := C.last.cell 0 rfl
        have t0 := C.told.cell 0 rfl
        clear C
        cases fv
        case' false =>
          go_quiet (fail)
        case' true =>
          go_quiet (first | (go_at_call 7; exact quiet_as (DR0.out _)))
        all_goals
          have C := HC.out.draw nq
          clear HC c0 t0
          generalize X.drewN nq = Y at *
          have HC := Lib.hid C
          have c0 := C.last.cell 0 rfl
          have t0 := C.told.cell 0 rfl
          clear C
          go_upto_region 9 with (fail)
          go_region_held3 (fun w' => w'.cell? ⟨w.heap.size, 0, none⟩ = some (.int .i64 m0) ∧ w'.cell? ⟨w.heap.size + 1, 0, none⟩ = some (.int .i64 a1x0))
            (first | assumption | exact two_kept B16 (by assumption) | exact two_kept B16 ⟨by assumption, by assumption⟩ | go_keep)
            (first
              | (go_at_call 8; refine (SP0.out _).mono ?_; rintro e w3 ⟨rfl, B16⟩; replace B16 := new_undrew B16)
              | (go_at_call 6; refine (SR0.out _).mono ?_; rintro e w4 ⟨rfl, rfl⟩))
          all_goals
            have C := HC.out.then B16
            go_wp2_with fail
            go_roundg (3 - (0 + 1))
            case measure => omega
            case rel => exact ⟨0 + 1, by go_num, by first | rw [frP_t0 HF.out] | rw [frP_n0 HF.out], rfl, by omega, C⟩
    · have HC := Lib.hid C
      have c0 := C.last.cell 1 rfl
      have f0 := C.last.frozen 1
      clear C
      obtain ⟨fv, hfv⟩ : ∃ fv, frP (decide (0 ≤ d0)) (decide (0 ≤ d1)) (decide (0 ≤ d2)) 1 = fv := ⟨_, rfl⟩
      have HF := Lib.hid hfv
      rw [hfv]
      clear hfv
      go_upto_region 7 with (go_at_call 5; refine (NR1.out _).mono ?_; rintro e w1 ⟨rfl, rfl⟩)
      have C := HC.out.setL 1 (.int .i64 m1)
      clear HC c0 f0
      generalize wr.setCell ⟨w.heap.size, 1, none⟩ (.int .i64 m1) = W at *
      have HC := Lib.hid C
      have c0 := C.last.cell 1 rfl
      have t0 := C.told.cell 1 rfl
      have v0 := C.want.cell 1 rfl
      have f0 := C.want.frozen 1
      clear C
      have hw : IntKind.i64.wrap (m1 + p1) = m1 + p1 := by rw [IntKind.wrap_i64]; omega
      go_region_held3 (fun w' => w'.cell? ⟨w.heap.size, 1, none⟩ = some (.int .i64 m1) ∧ w'.cell? ⟨w.heap.size + 1, 1, none⟩ = some (.int .i64 a1x1))
        (first | assumption | exact ⟨cellF_far ne1 (by assumption), cellF_far ne2 (by assumption)⟩ | go_keep)
        (first | (go_at_call 6; refine (SR1.out _).mono ?_; rintro e w1 ⟨rfl, rfl⟩))
      all_goals
        have C := (HC.out.setW 1 (.int .i64 (m1 + p1))).drew
        clear HC c0 t0 v0 f0 hw
        generalize (W.setCell ⟨w.heap.size + 1 + 1, 1, none⟩ (.int .i64 (m1 + p1))).drew = X at *
        go_upto_region 8 with (fail)
        have HC := Lib.hid C
        have c0 := C.last.cell 1 rfl
        have t0 := C.told.cell 1 rfl
        clear C
        cases fv
        case' false =>
          go_quiet (fail)
        case' true =>
          go_quiet (first | (go_at_call 7; exact quiet_as (DR1.out _)))
        all_goals
          have C := HC.out.draw nq
          clear HC c0 t0
          generalize X.drewN nq = Y at *
          have HC := Lib.hid C
          have c0 := C.last.cell 1 rfl
          have t0 := C.told.cell 1 rfl
          clear C
          go_upto_region 9 with (fail)
          go_region_held3 (fun w' => w'.cell? ⟨w.heap.size, 1, none⟩ = some (.int .i64 m1) ∧ w'.cell? ⟨w.heap.size + 1, 1, none⟩ = some (.int .i64 a1x1))
            (first | assumption | exact two_kept B16 (by assumption) | exact two_kept B16 ⟨by assumption, by assumption⟩ | go_keep)
            (first
              | (go_at_call 8; refine (SP1.out _).mono ?_; rintro e w3 ⟨rfl, B16⟩; replace B16 := new_undrew B16)
              | (go_at_call 6; refine (SR1.out _).mono ?_; rintro e w4 ⟨rfl, rfl⟩))
          all_goals
            have C := HC.out.then B16
            go_wp2_with fail
            go_roundg (3 - (1 + 1))
            case measure => omega
            case rel => exact ⟨1 + 1, by go_num, by first | rw [frP_t1 HF.out] | rw [frP_n1 HF.out], rfl, by omega, C⟩
    · have HC := Lib.hid C
      have c0 := C.last.cell 2 rfl
      have f0 := C.last.frozen 2
      clear C
      obtain ⟨fv, hfv⟩ : ∃ fv, frP (decide (0 ≤ d0)) (decide (0 ≤ d1)) (decide (0 ≤ d2)) 2 = fv := ⟨_, rfl⟩
      have HF := Lib.hid hfv
      rw [hfv]
      clear hfv
      go_upto_region 7 with (go_at_call 5; refine (NR2.out _).mono ?_; rintro e w1 ⟨rfl, rfl⟩)
      have C := HC.out.setL 2 (.int .i64 m2)
      clear HC c0 f0
      generalize wr.setCell ⟨w.heap.size, 2, none⟩ (.int .i64 m2) = W at *
      have HC := Lib.hid C
      have c0 := C.last.cell 2 rfl
      have t0 := C.told.cell 2 rfl
      have v0 := C.want.cell 2 rfl
      have f0 := C.want.frozen 2
      clear C
      have hw : IntKind.i64.wrap (m2 + p2) = m2 + p2 := by rw [IntKind.wrap_i64]; omega
      go_region_held3 (fun w' => w'.cell? ⟨w.heap.size, 2, none⟩ = some (.int .i64 m2) ∧ w'.cell? ⟨w.heap.size + 1, 2, none⟩ = some (.int .i64 a1x2))
        (first | assumption | exact ⟨cellF_far ne1 (by assumption), cellF_far ne2 (by assumption)⟩ | go_keep)
        (first | (go_at_call 6; refine (SR2.out _).mono ?_; rintro e w1 ⟨rfl, rfl⟩))
      all_goals
        have C := (HC.out.setW 2 (.int .i64 (m2 + p2))).drew
        clear HC c0 t0 v0 f0 hw
        generalize (W.setCell ⟨w.heap.size + 1 + 1, 2, none⟩ (.int .i64 (m2 + p2))).drew = X at *
        go_upto_region 8 with (fail)
        have HC := Lib.hid C
        have c0 := C.last.cell 2 rfl
        have t0 := C.told.cell 2 rfl
        clear C
        cases fv
        case' false =>
          go_quiet (fail)
        case' true =>
          go_quiet (first | (go_at_call 7; exact quiet_as (DR2.out _)))
        all_goals
          have C := HC.out.draw nq
          clear HC c0 t0
          generalize X.drewN nq = Y at *
          have HC := Lib.hid C
          have c0 := C.last.cell 2 rfl
          have t0 := C.told.cell 2 rfl
          clear C
          go_upto_region 9 with (fail)
          go_region_held3 (fun w' => w'.cell? ⟨w.heap.size, 2, none⟩ = some (.int .i64 m2) ∧ w'.cell? ⟨w.heap.size + 1, 2, none⟩ = some (.int .i64 a1x2))
            (first | assumption | exact two_kept B16 (by assumption) | exact two_kept B16 ⟨by assumption, by assumption⟩ | go_keep)
            (first
              | (go_at_call 8; refine (SP2.out _).mono ?_; rintro e w3 ⟨rfl, B16⟩; replace B16 := new_undrew B16)
              | (go_at_call 6; refine (SR2.out _).mono ?_; rintro e w4 ⟨rfl, rfl⟩))
          all_goals
            have C := HC.out.then B16
            go_wp2_with fail
            go_roundg (3 - (2 + 1))
            case measure => omega
            case rel => exact ⟨2 + 1, by go_num, by first | rw [frP_t2 HF.out] | rw [frP_n2 HF.out], rfl, by omega, C⟩
    · obtain ⟨F, hF⟩ : ∃ F, frP (decide (0 ≤ d0)) (decide (0 ≤ d1)) (decide (0 ≤ d2)) 3 = F := ⟨_, rfl⟩
      rw [show (decide (0 ≤ d0) && decide (0 ≤ d1) && decide (0 ≤ d2)) = F from hF] at FR
      rw [hF]
      clear hF NR0 NR1 NR2 SP0 SP1 SP2 SR0 SR1 SR2 DR0 DR1 DR2
      have HL := Lib.hid C.low
      have c0 := C.last.cell 0 rfl
      have c1 := C.last.cell 1 rfl
      have c2 := C.last.cell 2 rfl
      have t0 := C.told.cell 0 rfl
      have t1 := C.told.cell 1 rfl
      have t2 := C.told.cell 2 rfl
      have v0 := C.want.cell 0 rfl
      have v1 := C.want.cell 1 rfl
      have v2 := C.want.cell 2 rfl
      clear C
      generalize m0 + p0 = q0 at *
      generalize m1 + p1 = q1 at *
      generalize m2 + p2 = q2 at *
      have hq := eqlF3 q0 q1 q2
      go_upto_region 12 with (fail)
      go_region_held3 (fun w' => w'.cell? ⟨w.heap.size, 0, none⟩ = some (.int .i64 m0) ∧ w'.cell? ⟨w.heap.size, 1, none⟩ = some (.int .i64 m1) ∧ w'.cell? ⟨w.heap.size, 2, none⟩ = some (.int .i64 m2) ∧ w'.cell? ⟨w.heap.size + 1, 0, none⟩ = some (.int .i64 a1x0) ∧ w'.cell? ⟨w.heap.size + 1, 1, none⟩ = some (.int .i64 a1x1) ∧ w'.cell? ⟨w.heap.size + 1, 2, none⟩ = some (.int .i64 a1x2) ∧ w'.cell? ⟨w.heap.size + 1 + 1, 0, none⟩ = some (.int .i64 q0) ∧ w'.cell? ⟨w.heap.size + 1 + 1, 1, none⟩ = some (.int .i64 q1) ∧ w'.cell? ⟨w.heap.size + 1 + 1, 2, none⟩ = some (.int .i64 q2))
        (first | assumption | exact nine_keptF B16 (by assumption) | exact nine_keptF B16 ⟨by assumption, by assumption, by assumption, by assumption, by assumption, by assumption, by assumption, by assumption, by assumption⟩ | go_keep)
        (first
          | (go_at_call 9; refine (FO.out _).mono ?_; rintro e w3 ⟨rfl, B16⟩; replace B16 := new_undrew B16; have L3 := new_then HL.out B16)
          | (go_at_call 10; refine (FR.out _).mono ?_; rintro e w4 ⟨rfl, B4⟩; have L4 := new_then L3 B4; replace B16 := B4)
          | (go_at_call 11; refine (works17_any _).mono ?_; rintro e w5 ⟨rfl, B5⟩; have L5 := new_then L4 B5; replace B16 := B5))
      all_goals
        go_wp2_with fail
        go_ret
        exact ⟨rfl, L5⟩

set_option maxRecDepth 100000 in
theorem lifted (os : Os) (started : os.Started) (H : Type) (enc : TypeId × Value → H) :
    ReturnsInHanded {} Try.checked os 3 .any (Rows.fieldStepsSpec.pre6 enc Try.prog Try.f3 Rows.fieldStepsRow.domain false) (Rows.fieldStepsSpec.post enc Try.prog Try.f3 false true false false) := by
  refine returnsInHanded_of_change (C := Try.checked) own started (by kernel_rfl) Try.func3
    (ChangeSpec.witness6 (enc := enc) (C := Try.checked) false ⟨#[], #[.agg #[.int .i64 0, .int .i64 0, .int .i64 0], .agg #[.int .i64 0, .int .i64 0, .int .i64 0]], []⟩ 8 (by kernel_rfl) (by kernel_rfl) (by kernel_rfl) (by kernel_rfl)) ?_
  intro W base args ds gs before hval0 hW hcnd _
  have hval : ∀ (j : Nat) t v, Try.f3.params[j]? = some t → args[j]? = some v → Value.okWide Try.prog W .any base t v := hval0
  have hW' := hW
  obtain ⟨p, q, hA0, hV, rfl, hfz, hnd⟩ := hW
  have hA : DataW.TrodAll enc Try.prog W 0 (fun _ => true) true Try.f3.params.toList args.toList ds p := hA0
  rw [Try.params3] at hA hval
  obtain ⟨v0, vs0, d0, ds0, p0, q0, hargs, rfl, rfl, h0, r0⟩ := trodAll_cons hA
  obtain ⟨v1, vs1, d1, ds1, p1, q1, rfl, rfl, rfl, h1, r1⟩ := trodAll_cons r0
  obtain ⟨rfl, rfl, rfl⟩ := trodAll_nil r1
  obtain rfl : args = #[v0, v1] := by cases args; simp_all
  obtain ⟨rfl, rfl⟩ := trodVars_none hV
  have k0 := h0
  have lt0 : ∀ x ∈ p0, x.block < W.heap.size := by obtain ⟨m, hm⟩ := k0; exact DataW.trod_lt m _ _ _ hm
  obtain ⟨cs0, rfl, l0, L0⟩ := flat_of (n := 3) (ls := [(0, .inl .i64), (1, .inl .i64), (2, .inl .i64)]) (by kernel_rfl) (by kernel_rfl) (agg_of_array Try.underlying22 (hval 0 22 v0 rfl rfl)) h0
  obtain ⟨a0x0, e0x0, w0x0⟩ := leaf_int (L0 (0, .inl .i64) (by simp))
  obtain ⟨a0x1, e0x1, w0x1⟩ := leaf_int (L0 (1, .inl .i64) (by simp))
  obtain ⟨a0x2, e0x2, w0x2⟩ := leaf_int (L0 (2, .inl .i64) (by simp))
  obtain rfl : cs0 = [.int .i64 a0x0, .int .i64 a0x1, .int .i64 a0x2] := list_is l0 rfl (by intro i hi; match i, hi with | 0, _ => exact e0x0 | 1, _ => exact e0x1 | 2, _ => exact e0x2)
  have k1 := h1
  have lt1 : ∀ x ∈ p1, x.block < W.heap.size := by obtain ⟨m, hm⟩ := k1; exact DataW.trod_lt m _ _ _ hm
  obtain ⟨cs1, rfl, l1, L1⟩ := flat_of (n := 3) (ls := [(0, .inl .i64), (1, .inl .i64), (2, .inl .i64)]) (by kernel_rfl) (by kernel_rfl) (agg_of_array Try.underlying22 (hval 1 22 v1 rfl rfl)) h1
  obtain ⟨a1x0, e1x0, w1x0⟩ := leaf_int (L1 (0, .inl .i64) (by simp))
  obtain ⟨a1x1, e1x1, w1x1⟩ := leaf_int (L1 (1, .inl .i64) (by simp))
  obtain ⟨a1x2, e1x2, w1x2⟩ := leaf_int (L1 (2, .inl .i64) (by simp))
  obtain rfl : cs1 = [.int .i64 a1x0, .int .i64 a1x1, .int .i64 a1x2] := list_is l1 rfl (by intro i hi; match i, hi with | 0, _ => exact e1x0 | 1, _ => exact e1x1 | 2, _ => exact e1x2)
  clear hA0 hval0
  refine (walk a0x0 a0x1 a0x2 a1x0 a1x1 a1x2 W w0x0 w0x1 w0x2 w1x0 w1x1 w1x2).mono fun e W' ⟨he, bel⟩ => ?_
  subst he
  exact ⟨_, rfl, _, _, _, [], _, [], hW', trodAll_mk1 (shut_bool Try.underlying4 _), (trodAll_cons_mk (Below.trod laidOut (by kernel_rfl) (of_decide_eq_true (by kernel_rfl)) k0 bel lt0) (trodAll_cons_mk (Below.trod laidOut (by kernel_rfl) (of_decide_eq_true (by kernel_rfl)) k1 bel lt1) trodAll_mk0)), rfl, bel.frame _, fun h => by cases h⟩

theorem over : Rows.fieldStepsRow.holds Try.pinned (OpenSpec.ofChange Rows.fieldStepsSpec) :=
  OpenClaim.holds_of_wide 3 Try.f3 rfl rfl rfl rfl rfl rfl rfl ⟨rfl, rfl, rfl, rfl, rfl⟩ rfl rfl rfl rfl rfl (by kernel_rfl) Try.func3 (by kernel_rfl)
    (of_decide_eq_true (by kernel_rfl)) (by unfold Func.isWrapper; first | (rw [if_pos (by decide +kernel)]; kernel_rfl) | (rw [if_neg (by decide +kernel)]; exact ⟨rfl, rfl⟩))
    (fun os started H enc _ => lifted os started H enc)
end fieldSteps
theorem fieldSteps_holds : Rows.FieldStepsSaid := fieldSteps.over
end Go.Proofs.Ytdkkeplegbmjgaa
