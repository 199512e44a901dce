/- For every timer, every base and every time: timer.Wait and timer.Arm answer as the document's own do, timer.Off is the timer within its ends with Due -1, timer.Heard is the document's Arm of the timer with that base and no tries, and the chapter's example holds: TimerWaits returns true and changes nothing that was there. No conditions. -/
import Derived.Test.YtgennncpdfjfcaaKit
import Derived.Test.YtgennncpdfjfcaaTmrD
namespace Go.Proofs.Ytgennncpdfjfcaa
namespace timerWaits
open Go.ChangeShapes Go.WideShapes Go.ChangeAt Go.RowKit
open Go.ChangeMaps (open_string shut_string)
set_option linter.unusedVariables false

theorem own : ownKnob Try.prog.godebug = none := by kernel_rfl
theorem laidOut : laidOutB Try.prog = true := by kernel_rfl

set_option maxHeartbeats 4000000 in
set_option maxRecDepth 100000 in
theorem walk (a0x0 : Int) (a0x1 : Int) (a0x2 : Int) (a0x3 : Int) (a1 : Int) (a2 : Int) (w : World) (w0x0 : (Lit.int .i64 a0x0).wf = true) (w0x1 : (Lit.int .i64 a0x1).wf = true) (w0x2 : (Lit.int .i64 a0x2).wf = true) (w0x3 : (Lit.int .i64 a0x3).wf = true) (w1 : (Lit.int .i64 a1).wf = true) (w2 : (Lit.int .i64 a2).wf = true) :
    Calls Try.prog 3 #[.agg #[.int .i64 a0x0, .int .i64 a0x1, .int .i64 a0x2, .int .i64 a0x3], .int .i64 a1, .int .i64 a2] w fun e w' => e = .returned (.bool true) ∧ Below w.heap.size w w' := by
  obtain ⟨c, hcc⟩ : ∃ c : Tm, c = ⟨a0x0, a0x1, a0x2, a0x3⟩ := ⟨_, rfl⟩
  obtain rfl : a0x0 = c.b := by rw [hcc]
  obtain rfl : a0x1 = c.m := by rw [hcc]
  obtain rfl : a0x2 = c.t := by rw [hcc]
  obtain rfl : a0x3 = c.d := by rw [hcc]
  clear hcc w0x0 w0x1 w0x2 w0x3 w1 w2
  have C0 := Lib.hid (Blk.new w (tmV c) 23)
  have L := Lib.hid (new_alloc (new_refl w) (.cells #[.int .i64 c.b, .int .i64 c.m, .int .i64 c.t, .int .i64 c.d] 23))
  have IN : Hid (∀ w, Calls Try.prog 6 #[.agg #[.int .i64 c.b, .int .i64 c.m, .int .i64 c.t, .int .i64 c.d]] w fun e w' => e = .returned (.agg #[.int .i64 (tmB c), .int .i64 (tmM c), .int .i64 (tmT c), .int .i64 c.d]) ∧ Below w.heap.size w w') := Lib.hid (fun w => within22R_any c w)
  have WA : Hid (∀ w, Calls Try.prog 7 #[.agg #[.int .i64 c.b, .int .i64 c.m, .int .i64 c.t, .int .i64 c.d]] w fun e w' => e = .returned (.int .i64 (tmW c)) ∧ Below w.heap.size w w') := Lib.hid (fun w => wait22_any c w)
  have WR : Hid (∀ w, Calls Try.prog 8 #[.agg #[.int .i64 c.b, .int .i64 c.m, .int .i64 c.t, .int .i64 c.d]] w fun e w' => e = .returned (.int .i64 (tmW c)) ∧ Below w.heap.size w w') := Lib.hid (fun w => wait22R_any c w)
  have AR : Hid (∀ w, Calls Try.prog 9 #[.agg #[.int .i64 c.b, .int .i64 c.m, .int .i64 c.t, .int .i64 c.d], .int .i64 a2] w fun e w' => e = .returned (tmG (tmArm c a2)) ∧ Below w.heap.size w w') := Lib.hid (fun w => arm22_any c a2 w)
  have RR : Hid (∀ w, Calls Try.prog 10 #[.agg #[.int .i64 c.b, .int .i64 c.m, .int .i64 c.t, .int .i64 c.d], .int .i64 a2] w fun e w' => e = .returned (tmG (tmArm c a2)) ∧ Below w.heap.size w w') := Lib.hid (fun w => arm22R_any c a2 w)
  have RH : Hid (∀ w, Calls Try.prog 10 #[.agg #[.int .i64 a1, .int .i64 c.m, .int .i64 0, .int .i64 c.d], .int .i64 a2] w fun e w' => e = .returned (tmG (tmArm ⟨a1, c.m, 0, c.d⟩ a2)) ∧ Below w.heap.size w w') := Lib.hid (fun w => arm22R_any ⟨a1, c.m, 0, c.d⟩ a2 w)
  have HE : Hid (∀ w, Calls Try.prog 12 #[.agg #[.int .i64 c.b, .int .i64 c.m, .int .i64 c.t, .int .i64 c.d], .int .i64 a1, .int .i64 a2] w fun e w' => e = .returned (tmG (tmArm ⟨a1, c.m, 0, c.d⟩ a2)) ∧ Below w.heap.size w w') := Lib.hid (fun w => heard22_any c a1 a2 w)
  have OF : Hid (∀ w, Calls Try.prog 11 #[.agg #[.int .i64 c.b, .int .i64 c.m, .int .i64 c.t, .int .i64 c.d]] w fun e w' => e = .returned (.agg #[.int .i64 (tmB c), .int .i64 (tmM c), .int .i64 (tmT c), .int .i64 (-1)]) ∧ Below w.heap.size w w') := Lib.hid (fun w => off22_any c w)
  have E1 := eqlT (tmArm c a2)
  have E2 := eqlT (tmArm ⟨a1, c.m, 0, c.d⟩ a2)
  have E3 := eqlT ⟨tmB c, tmM c, tmT c, -1⟩
  generalize tmArm ⟨a1, c.m, 0, c.d⟩ a2 = H at *
  generalize tmArm c a2 = D at *
  generalize tmW c = X at *
  generalize tmB c = B at *
  generalize tmM c = M at *
  generalize tmT c = T at *
  unfold tmG at *
  go_enter Try.func3, Try.ntmps3
  go_upto_region 6 with (first
    | (go_at_call 6; refine (IN.out _).mono ?_; rintro e w1 ⟨rfl, B1⟩
       have K := C0.out.kept B1
       have LT : w.heap.size < w1.heap.size := by have := B1.size; simp at this; omega
       have N := fun o => K.alloc o
       have n0 := fun o => (N o).cell 0 rfl
       have n1 := fun o => (N o).cell 1 rfl
       have n2 := fun o => (N o).cell 2 rfl
       have n3 := fun o => (N o).cell 3 rfl
       have G := Lib.hid (N (.cells #[.int .i64 B, .int .i64 M, .int .i64 T, .int .i64 (-1)] 23))
       clear K N)
    | fail)
  clear n0 n1 n2 n3
  have P1 := Lib.hid ((Blk.new w1 (tmV ⟨B, M, T, -1⟩) 23).alloc (.cells #[.int .i64 a1, .int .i64 c.m, .int .i64 0, .int .i64 c.d] 23))
  have P2 := Lib.hid (Blk.newAt (alloc_size w1 (.cells #[.int .i64 B, .int .i64 M, .int .i64 T, .int .i64 (-1)] 23)) (tmV ⟨a1, c.m, 0, c.d⟩) 23)
  have P0 := Lib.hid (G.out.alloc (.cells #[.int .i64 a1, .int .i64 c.m, .int .i64 0, .int .i64 c.d] 23))
  have LL := Lib.hid (new_alloc (new_alloc (new_then L.out B1) (.cells #[.int .i64 B, .int .i64 M, .int .i64 T, .int .i64 (-1)] 23)) (.cells #[.int .i64 a1, .int .i64 c.m, .int .i64 0, .int .i64 c.d] 23))
  clear G L B1 C0 LT
  obtain ⟨W, hW⟩ : ∃ W, (w1.alloc (.cells #[.int .i64 B, .int .i64 M, .int .i64 T, .int .i64 (-1)] 23)).alloc (.cells #[.int .i64 a1, .int .i64 c.m, .int .i64 0, .int .i64 c.d] 23) = W := ⟨_, rfl⟩
  replace P0 : Hid (Blk W w.heap.size (tmV c) 23) := Lib.hid (by rw [← hW]; exact P0.out)
  replace P1 : Hid (Blk W w1.heap.size (tmV ⟨B, M, T, -1⟩) 23) := Lib.hid (by rw [← hW]; exact P1.out)
  replace P2 : Hid (Blk W (w1.heap.size + 1) (tmV ⟨a1, c.m, 0, c.d⟩) 23) := Lib.hid (by rw [← hW]; exact P2.out)
  replace LL : Hid (Below w.heap.size w W) := Lib.hid (by rw [← hW]; exact LL.out)
  rw [hW]
  clear hW
  have p0 := cell_by (P0.out.cell 0 rfl)
  have p1 := cell_by (P0.out.cell 1 rfl)
  have p2 := cell_by (P0.out.cell 2 rfl)
  have p3 := cell_by (P0.out.cell 3 rfl)
  have q0 := cell_by (P1.out.cell 0 rfl)
  have q1 := cell_by (P1.out.cell 1 rfl)
  have q2 := cell_by (P1.out.cell 2 rfl)
  have q3 := cell_by (P1.out.cell 3 rfl)
  have r0 := cell_by (P2.out.cell 0 rfl)
  have r1 := cell_by (P2.out.cell 1 rfl)
  have r2 := cell_by (P2.out.cell 2 rfl)
  have r3 := cell_by (P2.out.cell 3 rfl)
  refine wp_region_quiet_below (by kernel_rfl) (by kernel_rfl) ?_
  repeat (go_big_quiet_step (first
    | (go_at_call 7; refine calls_by (WA.out _))
    | (go_at_call 8; refine calls_by (WR.out _))
    | (go_at_call 9; refine calls_by (AR.out _))
    | (go_at_call 12; refine calls_by (HE.out _))
    | (go_at_call 11; refine calls_by (OF.out _))
    | (go_at_call_of 10 (Value.agg #[.int .i64 c.b, .int .i64 c.m, .int .i64 c.t, .int .i64 c.d]); refine calls_by (RR.out _))
    | (go_at_call 10; refine calls_by (RH.out _))
    | (go_at_call 13; refine calls_by (works22_any _))))
  refine wpQuiet_nil ?_
  intro _ hw'
  obtain ⟨⟨wq, Bq⟩, hw''⟩ := hw'
  subst hw''
  clear p0 p1 p2 p3 q0 q1 q2 q3 r0 r1 r2 r3
  go_wp2_with fail
  go_ret
  exact ⟨rfl, new_then LL.out Bq⟩

set_option maxRecDepth 100000 in
theorem lifted (os : Os) (started : os.Started) (H : Type) (enc : TypeId × Value → H) :
    ReturnsInHanded {} Try.checked os 3 .any (Rows.timerWaitsSpec.pre6 enc Try.prog Try.f3 Rows.timerWaitsRow.domain false) (Rows.timerWaitsSpec.post enc Try.prog Try.f3 false true false false) := by
  refine returnsInHanded_of_change (C := Try.checked) own started (by kernel_rfl) Try.func3
    (ChangeSpec.witness6 (enc := enc) (C := Try.checked) false ⟨#[], #[.agg #[.int .i64 0, .int .i64 0, .int .i64 0, .int .i64 0], .int .i64 0, .int .i64 0], []⟩ 8 (by kernel_rfl) (by kernel_rfl) (by kernel_rfl) (by kernel_rfl)) ?_
  intro W base args ds gs before hval0 hW hcnd _
  have hval : ∀ (j : Nat) t v, Try.f3.params[j]? = some t → args[j]? = some v → Value.okWide Try.prog W .any base t v := hval0
  have hW' := hW
  obtain ⟨p, q, hA0, hV, rfl, hfz, hnd⟩ := hW
  have hA : DataW.TrodAll enc Try.prog W 0 (fun _ => true) true Try.f3.params.toList args.toList ds p := hA0
  rw [Try.params3] at hA hval
  obtain ⟨v0, vs0, d0, ds0, p0, q0, hargs, rfl, rfl, h0, r0⟩ := trodAll_cons hA
  obtain ⟨v1, vs1, d1, ds1, p1, q1, rfl, rfl, rfl, h1, r1⟩ := trodAll_cons r0
  obtain ⟨v2, vs2, d2, ds2, p2, q2, rfl, rfl, rfl, h2, r2⟩ := trodAll_cons r1
  obtain ⟨rfl, rfl, rfl⟩ := trodAll_nil r2
  obtain rfl : args = #[v0, v1, v2] := by cases args; simp_all
  obtain ⟨rfl, rfl⟩ := trodVars_none hV
  have k0 := h0
  have lt0 : ∀ x ∈ p0, x.block < W.heap.size := by obtain ⟨m, hm⟩ := k0; exact DataW.trod_lt m _ _ _ hm
  obtain ⟨cs0, rfl, l0, L0⟩ := flat_of (n := 4) (ls := [(0, .inl .i64), (1, .inl .i64), (2, .inl .i64), (3, .inl .i64)]) (by kernel_rfl) (by kernel_rfl) (agg_of_struct Try.underlying23 (hval 0 23 v0 rfl rfl)) h0
  obtain ⟨a0x0, e0x0, w0x0⟩ := leaf_int (L0 (0, .inl .i64) (by simp))
  obtain ⟨a0x1, e0x1, w0x1⟩ := leaf_int (L0 (1, .inl .i64) (by simp))
  obtain ⟨a0x2, e0x2, w0x2⟩ := leaf_int (L0 (2, .inl .i64) (by simp))
  obtain ⟨a0x3, e0x3, w0x3⟩ := leaf_int (L0 (3, .inl .i64) (by simp))
  obtain rfl : cs0 = [.int .i64 a0x0, .int .i64 a0x1, .int .i64 a0x2, .int .i64 a0x3] := list_is l0 rfl (by intro i hi; match i, hi with | 0, _ => exact e0x0 | 1, _ => exact e0x1 | 2, _ => exact e0x2 | 3, _ => exact e0x3)
  have k1 := h1
  have lt1 : ∀ x ∈ p1, x.block < W.heap.size := by obtain ⟨m, hm⟩ := k1; exact DataW.trod_lt m _ _ _ hm
  obtain ⟨a1, rfl, _, _, w1⟩ := open_int Try.underlying2 (hval 1 2 v1 rfl rfl) h1
  have k2 := h2
  have lt2 : ∀ x ∈ p2, x.block < W.heap.size := by obtain ⟨m, hm⟩ := k2; exact DataW.trod_lt m _ _ _ hm
  obtain ⟨a2, rfl, _, _, w2⟩ := open_int Try.underlying2 (hval 2 2 v2 rfl rfl) h2
  clear hA0 hval0
  refine (walk a0x0 a0x1 a0x2 a0x3 a1 a2 W w0x0 w0x1 w0x2 w0x3 w1 w2).mono fun e W' ⟨he, bel⟩ => ?_
  subst he
  exact ⟨_, rfl, _, _, _, [], _, [], hW', trodAll_mk1 (shut_bool Try.underlying4 _), (trodAll_cons_mk (Below.trod laidOut (by kernel_rfl) (of_decide_eq_true (by kernel_rfl)) k0 bel lt0) (trodAll_cons_mk (Below.trod laidOut (by kernel_rfl) (of_decide_eq_true (by kernel_rfl)) k1 bel lt1) (trodAll_cons_mk (Below.trod laidOut (by kernel_rfl) (of_decide_eq_true (by kernel_rfl)) k2 bel lt2) trodAll_mk0))), rfl, bel.frame _, fun h => by cases h⟩

theorem over : Rows.timerWaitsRow.holds Try.pinned (OpenSpec.ofChange Rows.timerWaitsSpec) :=
  OpenClaim.holds_of_wide 3 Try.f3 rfl rfl rfl rfl rfl rfl rfl ⟨rfl, rfl, rfl, rfl, rfl⟩ rfl rfl rfl rfl rfl (by kernel_rfl) Try.func3 (by kernel_rfl)
    (of_decide_eq_true (by kernel_rfl)) (by unfold Func.isWrapper; first | (rw [if_pos (by decide +kernel)]; kernel_rfl) | (rw [if_neg (by decide +kernel)]; exact ⟨rfl, rfl⟩))
    (fun os started H enc _ => lifted os started H enc)
end timerWaits
theorem timerWaits_holds : Rows.TimerWaitsSaid := timerWaits.over
end Go.Proofs.Ytgennncpdfjfcaa
