/- For every three int32 as counters and every three uint32, of which each rises by what is left modulo 2^23, told modulo 2^24: field.Follow tells all, and that again, told again, changes nothing; it is fresh; what was told ahead is fresh just if nothing moved, and changes nothing; and the chapter's example holds: FieldBack returns true and changes nothing that was there. No conditions. -/
import Derived.Test.YtdkkeplegbmjgaaKit
import Derived.Test.YtdkkeplegbmjgaaFldD
namespace Go.Proofs.Ytdkkeplegbmjgaa
namespace fieldBack
open Go.ChangeShapes Go.WideShapes Go.ChangeAt Go.RowKit
open Go.ChangeMaps (open_string shut_string)
set_option linter.unusedVariables false

theorem own : ownKnob Try.prog.godebug = none := by kernel_rfl
theorem laidOut : laidOutB Try.prog = true := by kernel_rfl

set_option maxHeartbeats 4000000 in
set_option maxRecDepth 100000 in
theorem walk (a0x0 : Int) (a0x1 : Int) (a0x2 : Int) (a1x0 : Int) (a1x1 : Int) (a1x2 : Int) (w : World) (w0x0 : (Lit.int .i32 a0x0).wf = true) (w0x1 : (Lit.int .i32 a0x1).wf = true) (w0x2 : (Lit.int .i32 a0x2).wf = true) (w1x0 : (Lit.int .u32 a1x0).wf = true) (w1x1 : (Lit.int .u32 a1x1).wf = true) (w1x2 : (Lit.int .u32 a1x2).wf = true) :
    Calls Try.prog 4 #[.agg #[.int .i32 a0x0, .int .i32 a0x1, .int .i32 a0x2], .agg #[.int .u32 a1x0, .int .u32 a1x1, .int .u32 a1x2]] w fun e w' => e = .returned (.bool true) ∧ Below w.heap.size w w' := by
  have b0 := bounds_i32 w0x0
  have y0 := bounds_u32 w1x0
  have K0 := told1_is a0x0 a1x0 (by omega) (by omega)
  have b1 := bounds_i32 w0x1
  have y1 := bounds_u32 w1x1
  have K1 := told1_is a0x1 a1x1 (by omega) (by omega)
  have b2 := bounds_i32 w0x2
  have y2 := bounds_u32 w1x2
  have K2 := told1_is a0x2 a1x2 (by omega) (by omega)
  clear w0x0 w0x1 w0x2 w1x0 w1x1 w1x2
  obtain ⟨p0, hp0⟩ : ∃ p, a1x0 % 8388608 = p := ⟨_, rfl⟩
  obtain ⟨n0, hn0⟩ : ∃ n, a0x0 + a1x0 % 8388608 = n := ⟨_, rfl⟩
  rw [hn0, hp0] at K0
  rw [hp0] at hn0
  obtain ⟨t0, ht0⟩ : ∃ t, n0 % 16777216 = t := ⟨_, rfl⟩
  obtain ⟨s0, hs0⟩ : ∃ s, a0x0 % 16777216 = s := ⟨_, rfl⟩
  obtain ⟨e0, he0⟩ : ∃ e, decide (n0 = a0x0) = e := ⟨_, rfl⟩
  rw [ht0, hs0, he0] at K0
  have pb0 : 0 ≤ p0 ∧ p0 < 8388608 := by omega
  have nb0 : -2147483648 ≤ n0 ∧ n0 < 2155872255 := by omega
  have HE0 := Lib.hid he0
  have HP0 := Lib.hid hp0
  have HS0 := Lib.hid hn0
  have AT0 := Lib.hid (show bits .and .i64 n0 16777215 = t0 by rw [and24F, ht0])
  have AS0 := Lib.hid (show bits .and .i64 a0x0 16777215 = s0 by rw [and24F, hs0])
  clear hp0 hn0 ht0 hs0 he0
  obtain ⟨p1, hp1⟩ : ∃ p, a1x1 % 8388608 = p := ⟨_, rfl⟩
  obtain ⟨n1, hn1⟩ : ∃ n, a0x1 + a1x1 % 8388608 = n := ⟨_, rfl⟩
  rw [hn1, hp1] at K1
  rw [hp1] at hn1
  obtain ⟨t1, ht1⟩ : ∃ t, n1 % 16777216 = t := ⟨_, rfl⟩
  obtain ⟨s1, hs1⟩ : ∃ s, a0x1 % 16777216 = s := ⟨_, rfl⟩
  obtain ⟨e1, he1⟩ : ∃ e, decide (n1 = a0x1) = e := ⟨_, rfl⟩
  rw [ht1, hs1, he1] at K1
  have pb1 : 0 ≤ p1 ∧ p1 < 8388608 := by omega
  have nb1 : -2147483648 ≤ n1 ∧ n1 < 2155872255 := by omega
  have HE1 := Lib.hid he1
  have HP1 := Lib.hid hp1
  have HS1 := Lib.hid hn1
  have AT1 := Lib.hid (show bits .and .i64 n1 16777215 = t1 by rw [and24F, ht1])
  have AS1 := Lib.hid (show bits .and .i64 a0x1 16777215 = s1 by rw [and24F, hs1])
  clear hp1 hn1 ht1 hs1 he1
  obtain ⟨p2, hp2⟩ : ∃ p, a1x2 % 8388608 = p := ⟨_, rfl⟩
  obtain ⟨n2, hn2⟩ : ∃ n, a0x2 + a1x2 % 8388608 = n := ⟨_, rfl⟩
  rw [hn2, hp2] at K2
  rw [hp2] at hn2
  obtain ⟨t2, ht2⟩ : ∃ t, n2 % 16777216 = t := ⟨_, rfl⟩
  obtain ⟨s2, hs2⟩ : ∃ s, a0x2 % 16777216 = s := ⟨_, rfl⟩
  obtain ⟨e2, he2⟩ : ∃ e, decide (n2 = a0x2) = e := ⟨_, rfl⟩
  rw [ht2, hs2, he2] at K2
  have pb2 : 0 ≤ p2 ∧ p2 < 8388608 := by omega
  have nb2 : -2147483648 ≤ n2 ∧ n2 < 2155872255 := by omega
  have HE2 := Lib.hid he2
  have HP2 := Lib.hid hp2
  have HS2 := Lib.hid hn2
  have AT2 := Lib.hid (show bits .and .i64 n2 16777215 = t2 by rw [and24F, ht2])
  have AS2 := Lib.hid (show bits .and .i64 a0x2 16777215 = s2 by rw [and24F, hs2])
  clear hp2 hn2 ht2 hs2 he2
  have FA := Lib.hid (fun w => follow17_any a0x0 a0x1 a0x2 t0 t1 t2 w (by unfold int64F; omega) (by unfold int64F; omega) (by unfold int64F; omega))
  have FB := Lib.hid (fun w => fresh17_any a0x0 a0x1 a0x2 t0 t1 t2 w)
  have FC := Lib.hid (fun w => follow17_any n0 n1 n2 t0 t1 t2 w (by unfold int64F; omega) (by unfold int64F; omega) (by unfold int64F; omega))
  have FD := Lib.hid (fun w => fresh17_any n0 n1 n2 s0 s1 s2 w)
  have FE := Lib.hid (fun w => follow17_any n0 n1 n2 s0 s1 s2 w (by unfold int64F; omega) (by unfold int64F; omega) (by unfold int64F; omega))
  unfold FolTo at FA FC FE
  rw [K0.fo1, K1.fo1, K2.fo1] at FA
  simp only [K0.fr1, K1.fr1, K2.fr1, Bool.and_self] at FB
  rw [K0.fo2, K1.fo2, K2.fo2] at FC
  rw [K0.fr2, K1.fr2, K2.fr2] at FD
  rw [K0.fo3, K1.fo3, K2.fo3] at FE
  clear K0 K1 K2
  have S := Lib.hid (bck_start w a0x0 a0x1 a0x2 a1x0 a1x1 a1x2)
  go_enter Try.func4, Try.ntmps4
  go_wp2_with fail
  go_loopg [8, 11] 3 (fun gh vm vi wr => BckI w a0x0 a0x1 a0x2 a1x0 a1x1 a1x2 n0 n1 n2 t0 t1 t2 e0 e1 e2 gh vm vi wr)
  case atStart => exact ⟨0, rfl, rfl, rfl, by omega, S.out⟩
  case round =>
    clear S
    obtain ⟨k, rfl, rfl, rfl, hk, C⟩ := hrel
    have ne1 : w.heap.size + 1 + 1 ≠ w.heap.size + 1 + 1 + 1 := by omega
    have ne2 : w.heap.size + 1 ≠ w.heap.size + 1 + 1 + 1 := by omega
    obtain rfl | rfl | rfl | rfl : k = 0 ∨ k = 1 ∨ k = 2 ∨ k = 3 := by omega
    · have HC := Lib.hid C
      have c0 := C.last.cell 0 rfl
      have v0 := C.old.cell 0 rfl
      have f0 := C.old.frozen 0
      clear C
      obtain ⟨fv, hfv⟩ : ∃ fv, (!frP e0 e1 e2 0) = fv := ⟨_, rfl⟩
      have HF := Lib.hid hfv
      rw [hfv]
      clear hfv
      have hw : IntKind.i64.wrap a0x0 = a0x0 := by rw [IntKind.wrap_i64]; omega
      go_upto_region 7 with (fail)
      have C := HC.out.setO 0 (.int .i64 a0x0)
      clear HC c0 f0 v0
      generalize wr.setCell ⟨w.heap.size + 1 + 1, 0, none⟩ (.int .i64 a0x0) = W at *
      have HC := Lib.hid C
      have c0 := C.old.cell 0 rfl
      have z0 := C.by_.cell 0 rfl
      have v0 := C.now.cell 0 rfl
      have f0 := C.now.frozen 0
      clear C
      have hr : a1x0.tmod 8388608 = p0 := by rw [Int.tmod_eq_emod_of_nonneg (by omega)]; exact HP0.out
      have hr' := HP0.out
      have hs := HS0.out
      have hw1 : IntKind.i64.wrap p0 = p0 := by rw [IntKind.wrap_i64]; omega
      have hw2 : IntKind.i64.wrap n0 = n0 := by rw [IntKind.wrap_i64]; omega
      go_region_held3 (fun w' => w'.cell? ⟨w.heap.size + 1 + 1, 0, none⟩ = some (.int .i64 a0x0) ∧ w'.cell? ⟨w.heap.size + 1, 0, none⟩ = some (.int .u32 a1x0))
        (first | assumption | exact ⟨cellF_far ne1 (by assumption), cellF_far ne2 (by assumption)⟩ | go_keep)
        (fail)
      all_goals
        have C := (HC.out.setN 0 (.int .i64 n0)).drew
        clear HC c0 z0 v0 f0 hw hr hr' hs hw1 hw2
        generalize (W.setCell ⟨w.heap.size + 1 + 1 + 1, 0, none⟩ (.int .i64 n0)).drew = X at *
        have HC := Lib.hid C
        have c0 := C.now.cell 0 rfl
        have v0 := C.told.cell 0 rfl
        have f0 := C.told.frozen 0
        clear C
        have ha := AT0.out
        go_upto_region 9 with (fail)
        have C := HC.out.setT 0 (.int .i64 t0)
        clear HC c0 v0 f0 ha
        generalize X.setCell ⟨w.heap.size + 1 + 1 + 1 + 1, 0, none⟩ (.int .i64 t0) = Y at *
        have HC := Lib.hid C
        have c0 := C.old.cell 0 rfl
        have z0 := C.now.cell 0 rfl
        clear C
        have hq : (n0 != a0x0) = !e0 := by rw [← HE0.out]; by_cases h : n0 = a0x0 <;> simp [h]
        cases fv
        all_goals
          go_quiet (fail)
          have C := HC.out.draw nq
          go_wp2_with fail
          go_roundg (3 - (0 + 1))
          case measure => omega
          case rel => exact ⟨0 + 1, by go_num, by first | rw [frP_t0 (by simpa using HF.out)] | rw [frP_n0 (by simpa using HF.out)]; rfl, rfl, by omega, C⟩
    · have HC := Lib.hid C
      have c0 := C.last.cell 1 rfl
      have v0 := C.old.cell 1 rfl
      have f0 := C.old.frozen 1
      clear C
      obtain ⟨fv, hfv⟩ : ∃ fv, (!frP e0 e1 e2 1) = fv := ⟨_, rfl⟩
      have HF := Lib.hid hfv
      rw [hfv]
      clear hfv
      have hw : IntKind.i64.wrap a0x1 = a0x1 := by rw [IntKind.wrap_i64]; omega
      go_upto_region 7 with (fail)
      have C := HC.out.setO 1 (.int .i64 a0x1)
      clear HC c0 f0 v0
      generalize wr.setCell ⟨w.heap.size + 1 + 1, 1, none⟩ (.int .i64 a0x1) = W at *
      have HC := Lib.hid C
      have c0 := C.old.cell 1 rfl
      have z0 := C.by_.cell 1 rfl
      have v0 := C.now.cell 1 rfl
      have f0 := C.now.frozen 1
      clear C
      have hr : a1x1.tmod 8388608 = p1 := by rw [Int.tmod_eq_emod_of_nonneg (by omega)]; exact HP1.out
      have hr' := HP1.out
      have hs := HS1.out
      have hw1 : IntKind.i64.wrap p1 = p1 := by rw [IntKind.wrap_i64]; omega
      have hw2 : IntKind.i64.wrap n1 = n1 := by rw [IntKind.wrap_i64]; omega
      go_region_held3 (fun w' => w'.cell? ⟨w.heap.size + 1 + 1, 1, none⟩ = some (.int .i64 a0x1) ∧ w'.cell? ⟨w.heap.size + 1, 1, none⟩ = some (.int .u32 a1x1))
        (first | assumption | exact ⟨cellF_far ne1 (by assumption), cellF_far ne2 (by assumption)⟩ | go_keep)
        (fail)
      all_goals
        have C := (HC.out.setN 1 (.int .i64 n1)).drew
        clear HC c0 z0 v0 f0 hw hr hr' hs hw1 hw2
        generalize (W.setCell ⟨w.heap.size + 1 + 1 + 1, 1, none⟩ (.int .i64 n1)).drew = X at *
        have HC := Lib.hid C
        have c0 := C.now.cell 1 rfl
        have v0 := C.told.cell 1 rfl
        have f0 := C.told.frozen 1
        clear C
        have ha := AT1.out
        go_upto_region 9 with (fail)
        have C := HC.out.setT 1 (.int .i64 t1)
        clear HC c0 v0 f0 ha
        generalize X.setCell ⟨w.heap.size + 1 + 1 + 1 + 1, 1, none⟩ (.int .i64 t1) = Y at *
        have HC := Lib.hid C
        have c0 := C.old.cell 1 rfl
        have z0 := C.now.cell 1 rfl
        clear C
        have hq : (n1 != a0x1) = !e1 := by rw [← HE1.out]; by_cases h : n1 = a0x1 <;> simp [h]
        cases fv
        all_goals
          go_quiet (fail)
          have C := HC.out.draw nq
          go_wp2_with fail
          go_roundg (3 - (1 + 1))
          case measure => omega
          case rel => exact ⟨1 + 1, by go_num, by first | rw [frP_t1 (by simpa using HF.out)] | rw [frP_n1 (by simpa using HF.out)]; rfl, rfl, by omega, C⟩
    · have HC := Lib.hid C
      have c0 := C.last.cell 2 rfl
      have v0 := C.old.cell 2 rfl
      have f0 := C.old.frozen 2
      clear C
      obtain ⟨fv, hfv⟩ : ∃ fv, (!frP e0 e1 e2 2) = fv := ⟨_, rfl⟩
      have HF := Lib.hid hfv
      rw [hfv]
      clear hfv
      have hw : IntKind.i64.wrap a0x2 = a0x2 := by rw [IntKind.wrap_i64]; omega
      go_upto_region 7 with (fail)
      have C := HC.out.setO 2 (.int .i64 a0x2)
      clear HC c0 f0 v0
      generalize wr.setCell ⟨w.heap.size + 1 + 1, 2, none⟩ (.int .i64 a0x2) = W at *
      have HC := Lib.hid C
      have c0 := C.old.cell 2 rfl
      have z0 := C.by_.cell 2 rfl
      have v0 := C.now.cell 2 rfl
      have f0 := C.now.frozen 2
      clear C
      have hr : a1x2.tmod 8388608 = p2 := by rw [Int.tmod_eq_emod_of_nonneg (by omega)]; exact HP2.out
      have hr' := HP2.out
      have hs := HS2.out
      have hw1 : IntKind.i64.wrap p2 = p2 := by rw [IntKind.wrap_i64]; omega
      have hw2 : IntKind.i64.wrap n2 = n2 := by rw [IntKind.wrap_i64]; omega
      go_region_held3 (fun w' => w'.cell? ⟨w.heap.size + 1 + 1, 2, none⟩ = some (.int .i64 a0x2) ∧ w'.cell? ⟨w.heap.size + 1, 2, none⟩ = some (.int .u32 a1x2))
        (first | assumption | exact ⟨cellF_far ne1 (by assumption), cellF_far ne2 (by assumption)⟩ | go_keep)
        (fail)
      all_goals
        have C := (HC.out.setN 2 (.int .i64 n2)).drew
        clear HC c0 z0 v0 f0 hw hr hr' hs hw1 hw2
        generalize (W.setCell ⟨w.heap.size + 1 + 1 + 1, 2, none⟩ (.int .i64 n2)).drew = X at *
        have HC := Lib.hid C
        have c0 := C.now.cell 2 rfl
        have v0 := C.told.cell 2 rfl
        have f0 := C.told.frozen 2
        clear C
        have ha := AT2.out
        go_upto_region 9 with (fail)
        have C := HC.out.setT 2 (.int .i64 t2)
        clear HC c0 v0 f0 ha
        generalize X.setCell ⟨w.heap.size + 1 + 1 + 1 + 1, 2, none⟩ (.int .i64 t2) = Y at *
        have HC := Lib.hid C
        have c0 := C.old.cell 2 rfl
        have z0 := C.now.cell 2 rfl
        clear C
        have hq : (n2 != a0x2) = !e2 := by rw [← HE2.out]; by_cases h : n2 = a0x2 <;> simp [h]
        cases fv
        all_goals
          go_quiet (fail)
          have C := HC.out.draw nq
          go_wp2_with fail
          go_roundg (3 - (2 + 1))
          case measure => omega
          case rel => exact ⟨2 + 1, by go_num, by first | rw [frP_t2 (by simpa using HF.out)] | rw [frP_n2 (by simpa using HF.out)]; rfl, rfl, by omega, C⟩
    · obtain ⟨F, hF⟩ : ∃ F, frP e0 e1 e2 3 = F := ⟨_, rfl⟩
      rw [show (e0 && e1 && e2) = F from hF] at FD
      rw [hF]
      clear hF HE0 HE1 HE2 HP0 HP1 HP2 HS0 HS1 HS2 AT0 AT1 AT2
      have a0 := AS0.out
      have a1 := AS1.out
      have a2 := AS2.out
      have c0 := C.old.cell 0 rfl
      have c1 := C.old.cell 1 rfl
      have c2 := C.old.cell 2 rfl
      go_upto_region 12 with (fail)
      clear a0 a1 a2 c0 c1 c2
      have HL := Lib.hid (new_alloc C.low (.cells #[.int .i64 s0, .int .i64 s1, .int .i64 s2] 22))
      have D := Blk.new wr [.int .i64 s0, .int .i64 s1, .int .i64 s2] 22
      have c0 := (C.old.alloc (.cells #[.int .i64 s0, .int .i64 s1, .int .i64 s2] 22)).cell 0 rfl
      have c1 := (C.old.alloc (.cells #[.int .i64 s0, .int .i64 s1, .int .i64 s2] 22)).cell 1 rfl
      have c2 := (C.old.alloc (.cells #[.int .i64 s0, .int .i64 s1, .int .i64 s2] 22)).cell 2 rfl
      have z0 := (C.told.alloc (.cells #[.int .i64 s0, .int .i64 s1, .int .i64 s2] 22)).cell 0 rfl
      have z1 := (C.told.alloc (.cells #[.int .i64 s0, .int .i64 s1, .int .i64 s2] 22)).cell 1 rfl
      have z2 := (C.told.alloc (.cells #[.int .i64 s0, .int .i64 s1, .int .i64 s2] 22)).cell 2 rfl
      have v0 := (C.now.alloc (.cells #[.int .i64 s0, .int .i64 s1, .int .i64 s2] 22)).cell 0 rfl
      have v1 := (C.now.alloc (.cells #[.int .i64 s0, .int .i64 s1, .int .i64 s2] 22)).cell 1 rfl
      have v2 := (C.now.alloc (.cells #[.int .i64 s0, .int .i64 s1, .int .i64 s2] 22)).cell 2 rfl
      have x0 := D.cell 0 rfl
      have x1 := D.cell 1 rfl
      have x2 := D.cell 2 rfl
      clear C D
      generalize wr.alloc (.cells #[.int .i64 s0, .int .i64 s1, .int .i64 s2] 22) = V at *
      generalize wr.heap.size = gs at *
      have hq := eqlF3 n0 n1 n2
      go_region_held3 (fun w' => w'.cell? ⟨w.heap.size + 1 + 1, 0, none⟩ = some (.int .i64 a0x0) ∧ w'.cell? ⟨w.heap.size + 1 + 1, 1, none⟩ = some (.int .i64 a0x1) ∧ w'.cell? ⟨w.heap.size + 1 + 1, 2, none⟩ = some (.int .i64 a0x2) ∧ w'.cell? ⟨w.heap.size + 1 + 1 + 1 + 1, 0, none⟩ = some (.int .i64 t0) ∧ w'.cell? ⟨w.heap.size + 1 + 1 + 1 + 1, 1, none⟩ = some (.int .i64 t1) ∧ w'.cell? ⟨w.heap.size + 1 + 1 + 1 + 1, 2, none⟩ = some (.int .i64 t2) ∧ w'.cell? ⟨w.heap.size + 1 + 1 + 1, 0, none⟩ = some (.int .i64 n0) ∧ w'.cell? ⟨w.heap.size + 1 + 1 + 1, 1, none⟩ = some (.int .i64 n1) ∧ w'.cell? ⟨w.heap.size + 1 + 1 + 1, 2, none⟩ = some (.int .i64 n2) ∧ w'.cell? ⟨gs, 0, none⟩ = some (.int .i64 s0) ∧ w'.cell? ⟨gs, 1, none⟩ = some (.int .i64 s1) ∧ w'.cell? ⟨gs, 2, none⟩ = some (.int .i64 s2))
        (first | assumption | exact twelve_keptF B16 (by assumption) | exact twelve_keptF B16 ⟨by assumption, by assumption, by assumption, by assumption, by assumption, by assumption, by assumption, by assumption, by assumption, by assumption, by assumption, by assumption⟩ | go_keep)
        (first
          | (go_at_call 11; refine (works17_any _).mono ?_; rintro e w8 ⟨rfl, B8⟩; have L8 := new_then L7 B8; replace B16 := B8)
          | (have h := L6; clear h; go_at_call 9; refine (FE.out _).mono ?_; rintro e w7 ⟨rfl, B7⟩; have L7 := new_then L6 B7; replace B16 := B7)
          | (have h := L5; clear h; go_at_call 10; refine (FD.out _).mono ?_; rintro e w6 ⟨rfl, B6⟩; have L6 := new_then L5 B6; replace B16 := B6)
          | (have h := L4; clear h; go_at_call 9; refine (FC.out _).mono ?_; rintro e w5 ⟨rfl, B5⟩; have L5 := new_then L4 B5; replace B16 := B5)
          | (have h := L3; clear h; go_at_call 10; refine (FB.out _).mono ?_; rintro e w4 ⟨rfl, B4⟩; have L4 := new_then L3 B4; replace B16 := B4)
          | (go_at_call 9; refine (FA.out _).mono ?_; rintro e w3 ⟨rfl, B16⟩; replace B16 := new_undrew B16; have L3 := new_then HL.out B16))
      all_goals
        go_wp2_with fail
        go_ret
        exact ⟨rfl, L8⟩

set_option maxRecDepth 100000 in
theorem lifted (os : Os) (started : os.Started) (H : Type) (enc : TypeId × Value → H) :
    ReturnsInHanded {} Try.checked os 4 .any (Rows.fieldBackSpec.pre6 enc Try.prog Try.f4 Rows.fieldBackRow.domain false) (Rows.fieldBackSpec.post enc Try.prog Try.f4 false true false false) := by
  refine returnsInHanded_of_change (C := Try.checked) own started (by kernel_rfl) Try.func4
    (ChangeSpec.witness6 (enc := enc) (C := Try.checked) false ⟨#[], #[.agg #[.int .i32 0, .int .i32 0, .int .i32 0], .agg #[.int .u32 0, .int .u32 0, .int .u32 0]], []⟩ 8 (by kernel_rfl) (by kernel_rfl) (by kernel_rfl) (by kernel_rfl)) ?_
  intro W base args ds gs before hval0 hW hcnd _
  have hval : ∀ (j : Nat) t v, Try.f4.params[j]? = some t → args[j]? = some v → Value.okWide Try.prog W .any base t v := hval0
  have hW' := hW
  obtain ⟨p, q, hA0, hV, rfl, hfz, hnd⟩ := hW
  have hA : DataW.TrodAll enc Try.prog W 0 (fun _ => true) true Try.f4.params.toList args.toList ds p := hA0
  rw [Try.params4] at hA hval
  obtain ⟨v0, vs0, d0, ds0, p0, q0, hargs, rfl, rfl, h0, r0⟩ := trodAll_cons hA
  obtain ⟨v1, vs1, d1, ds1, p1, q1, rfl, rfl, rfl, h1, r1⟩ := trodAll_cons r0
  obtain ⟨rfl, rfl, rfl⟩ := trodAll_nil r1
  obtain rfl : args = #[v0, v1] := by cases args; simp_all
  obtain ⟨rfl, rfl⟩ := trodVars_none hV
  have k0 := h0
  have lt0 : ∀ x ∈ p0, x.block < W.heap.size := by obtain ⟨m, hm⟩ := k0; exact DataW.trod_lt m _ _ _ hm
  obtain ⟨cs0, rfl, l0, L0⟩ := flat_of (n := 3) (ls := [(0, .inl .i32), (1, .inl .i32), (2, .inl .i32)]) (by kernel_rfl) (by kernel_rfl) (agg_of_array Try.underlying28 (hval 0 28 v0 rfl rfl)) h0
  obtain ⟨a0x0, e0x0, w0x0⟩ := leaf_int (L0 (0, .inl .i32) (by simp))
  obtain ⟨a0x1, e0x1, w0x1⟩ := leaf_int (L0 (1, .inl .i32) (by simp))
  obtain ⟨a0x2, e0x2, w0x2⟩ := leaf_int (L0 (2, .inl .i32) (by simp))
  obtain rfl : cs0 = [.int .i32 a0x0, .int .i32 a0x1, .int .i32 a0x2] := list_is l0 rfl (by intro i hi; match i, hi with | 0, _ => exact e0x0 | 1, _ => exact e0x1 | 2, _ => exact e0x2)
  have k1 := h1
  have lt1 : ∀ x ∈ p1, x.block < W.heap.size := by obtain ⟨m, hm⟩ := k1; exact DataW.trod_lt m _ _ _ hm
  obtain ⟨cs1, rfl, l1, L1⟩ := flat_of (n := 3) (ls := [(0, .inl .u32), (1, .inl .u32), (2, .inl .u32)]) (by kernel_rfl) (by kernel_rfl) (agg_of_array Try.underlying30 (hval 1 30 v1 rfl rfl)) h1
  obtain ⟨a1x0, e1x0, w1x0⟩ := leaf_int (L1 (0, .inl .u32) (by simp))
  obtain ⟨a1x1, e1x1, w1x1⟩ := leaf_int (L1 (1, .inl .u32) (by simp))
  obtain ⟨a1x2, e1x2, w1x2⟩ := leaf_int (L1 (2, .inl .u32) (by simp))
  obtain rfl : cs1 = [.int .u32 a1x0, .int .u32 a1x1, .int .u32 a1x2] := list_is l1 rfl (by intro i hi; match i, hi with | 0, _ => exact e1x0 | 1, _ => exact e1x1 | 2, _ => exact e1x2)
  clear hA0 hval0
  refine (walk a0x0 a0x1 a0x2 a1x0 a1x1 a1x2 W w0x0 w0x1 w0x2 w1x0 w1x1 w1x2).mono fun e W' ⟨he, bel⟩ => ?_
  subst he
  exact ⟨_, rfl, _, _, _, [], _, [], hW', trodAll_mk1 (shut_bool Try.underlying4 _), (trodAll_cons_mk (Below.trod laidOut (by kernel_rfl) (of_decide_eq_true (by kernel_rfl)) k0 bel lt0) (trodAll_cons_mk (Below.trod laidOut (by kernel_rfl) (of_decide_eq_true (by kernel_rfl)) k1 bel lt1) trodAll_mk0)), rfl, bel.frame _, fun h => by cases h⟩

theorem over : Rows.fieldBackRow.holds Try.pinned (OpenSpec.ofChange Rows.fieldBackSpec) :=
  OpenClaim.holds_of_wide 4 Try.f4 rfl rfl rfl rfl rfl rfl rfl ⟨rfl, rfl, rfl, rfl, rfl⟩ rfl rfl rfl rfl rfl (by kernel_rfl) Try.func4 (by kernel_rfl)
    (of_decide_eq_true (by kernel_rfl)) (by unfold Func.isWrapper; first | (rw [if_pos (by decide +kernel)]; kernel_rfl) | (rw [if_neg (by decide +kernel)]; exact ⟨rfl, rfl⟩))
    (fun os started H enc _ => lifted os started H enc)
end fieldBack
theorem fieldBack_holds : Rows.FieldBackSaid := fieldBack.over
end Go.Proofs.Ytdkkeplegbmjgaa
