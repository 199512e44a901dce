/- For every score, mark, depth and limit, classic.Round answers as the document's own Round does; classic.Old tells whether the score is One or above; and the chapter's example holds: ClassicRounds returns true and changes nothing that was there. No conditions. -/
import Derived.Test.YtmmccaaocfbdlaaKit
import Derived.Test.YtmmccaaocfbdlaaClsB
namespace Go.Proofs.Ytmmccaaocfbdlaa
namespace classicRounds
open Go.ChangeShapes Go.WideShapes Go.ChangeAt Go.RowKit
open Go.ChangeMaps (open_string shut_string)
set_option linter.unusedVariables false

abbrev clV2 (x y : Int) : List Value := [.int .i64 x, .int .i64 y]
theorem own : ownKnob Try.prog.godebug = none := by kernel_rfl
theorem laidOut : laidOutB Try.prog = true := by kernel_rfl

set_option maxHeartbeats 4000000 in
set_option maxRecDepth 100000 in
theorem walk (a0x0 : Int) (a1 : Bool) (a2x0 : Int) (a2x1 : Int) (w : World) (w0x0 : (Lit.int .i64 a0x0).wf = true) (w2x0 : (Lit.int .i64 a2x0).wf = true) (w2x1 : (Lit.int .i64 a2x1).wf = true) :
    Calls Try.prog 3 #[.agg #[.int .i64 a0x0], .bool a1, .agg #[.int .i64 a2x0, .int .i64 a2x1]] w fun e w' => e = .returned (.bool true) ∧ Below w.heap.size w w' := by
  have b0 := bounds_i64 w2x0
  have b1 := bounds_i64 w2x1
  have R1 : Hid (∀ w, Calls Try.prog 5 #[.agg #[.int .i64 a0x0], .bool a1, .int .i64 a2x0, .int .i64 a2x1] w fun e w' => e = .returned (.agg #[.int .i64 (clR a0x0 a1 a2x0 a2x1)]) ∧ Below w.heap.size w w') := Lib.hid (fun w => round27_any a0x0 a1 a2x0 a2x1 w (by omega) (by omega))
  have R2 : Hid (∀ w, Calls Try.prog 6 #[.agg #[.int .i64 a0x0], .bool a1, .int .i64 a2x0, .int .i64 a2x1] w fun e w' => e = .returned (.agg #[.int .i64 (clR a0x0 a1 a2x0 a2x1)]) ∧ Below w.heap.size w w') := Lib.hid (fun w => round27R_any a0x0 a1 a2x0 a2x1 w (by omega) (by omega))
  have OL : Hid (∀ w, Calls Try.prog 7 #[.agg #[.int .i64 a0x0]] w fun e w' => e = .returned (.bool (clOld a0x0)) ∧ Below w.heap.size w w') := Lib.hid (fun w => old27_any a0x0 w)
  have E1 := eqlK1 (clR a0x0 a1 a2x0 a2x1)
  generalize clR a0x0 a1 a2x0 a2x1 = X at *
  unfold clOld at OL
  clear w0x0 w2x0 w2x1 b0 b1
  obtain ⟨W1, h1⟩ : ∃ W, w.alloc (.cells #[.int .i64 a0x0] 23) = W := ⟨_, rfl⟩
  obtain ⟨W2, h2⟩ : ∃ W, W1.alloc (.cells #[.int .i64 a2x0, .int .i64 a2x1] 24) = W := ⟨_, rfl⟩
  have z1 : W1.heap.size = w.heap.size + 1 := by rw [← h1]; simp
  have L2 : Hid (Below w.heap.size w W2) := Lib.hid (by rw [← h2, ← h1]; exact new_alloc (new_alloc (new_refl w) _) _)
  have C2 : Hid (Blk W2 w.heap.size [.int .i64 a0x0] 23) := Lib.hid (by rw [← h2, ← h1]; exact (Blk.new w [.int .i64 a0x0] _).alloc _)
  have P2' : Hid (Blk W2 (w.heap.size + 1) (clV2 a2x0 a2x1) 24) := Lib.hid (by rw [← h2]; exact Blk.newAt z1 (clV2 a2x0 a2x1) _)
  go_enter Try.func3, Try.ntmps3
  go_upto_region 1 with fail
  clear h1 h2 z1
  have c0 := cell_by (C2.out.cell 0 rfl)
  have p0 := cell_by (P2'.out.cell 0 rfl)
  have p1 := cell_by (P2'.out.cell 1 rfl)
  by_cases h : 1048576 ≤ a0x0
  · rw [decide_eq_true h] at OL
    refine wp_region_quiet_below (by kernel_rfl) (by kernel_rfl) ?_
    repeat (go_big_quiet_step (first
      | (go_at_call 5; refine calls_by (R1.out _))
      | (go_at_call 6; refine calls_by (R2.out _))
      | (go_at_call 7; refine calls_by (OL.out _))
      | (go_at_call 8; refine calls_by (works27_any _))))
    refine wpQuiet_nil ?_
    intro wq hw'
    obtain ⟨⟨wr, Bq⟩, hw''⟩ := hw'
    subst hw''
    clear c0 p0 p1
    go_wp2_with fail
    go_ret
    exact ⟨rfl, new_then L2.out Bq⟩
  · rw [decide_eq_false h] at OL
    refine wp_region_quiet_below (by kernel_rfl) (by kernel_rfl) ?_
    repeat (go_big_quiet_step (first
      | (go_at_call 5; refine calls_by (R1.out _))
      | (go_at_call 6; refine calls_by (R2.out _))
      | (go_at_call 7; refine calls_by (OL.out _))
      | (go_at_call 8; refine calls_by (works27_any _))))
    refine wpQuiet_nil ?_
    intro wq hw'
    obtain ⟨⟨wr, Bq⟩, hw''⟩ := hw'
    subst hw''
    clear c0 p0 p1
    go_wp2_with fail
    go_ret
    exact ⟨rfl, new_then L2.out Bq⟩

set_option maxRecDepth 100000 in
theorem lifted (os : Os) (started : os.Started) (H : Type) (enc : TypeId × Value → H) :
    ReturnsInHanded {} Try.checked os 3 .any (Rows.classicRoundsSpec.pre6 enc Try.prog Try.f3 Rows.classicRoundsRow.domain false) (Rows.classicRoundsSpec.post enc Try.prog Try.f3 false true false false) := by
  refine returnsInHanded_of_change (C := Try.checked) own started (by kernel_rfl) Try.func3
    (ChangeSpec.witness6 (enc := enc) (C := Try.checked) false ⟨#[], #[.agg #[.int .i64 0], .bool false, .agg #[.int .i64 0, .int .i64 0]], []⟩ 8 (by kernel_rfl) (by kernel_rfl) (by kernel_rfl) (by kernel_rfl)) ?_
  intro W base args ds gs before hval0 hW hcnd _
  have hval : ∀ (j : Nat) t v, Try.f3.params[j]? = some t → args[j]? = some v → Value.okWide Try.prog W .any base t v := hval0
  have hW' := hW
  obtain ⟨p, q, hA0, hV, rfl, hfz, hnd⟩ := hW
  have hA : DataW.TrodAll enc Try.prog W 0 (fun _ => true) true Try.f3.params.toList args.toList ds p := hA0
  rw [Try.params3] at hA hval
  obtain ⟨v0, vs0, d0, ds0, p0, q0, hargs, rfl, rfl, h0, r0⟩ := trodAll_cons hA
  obtain ⟨v1, vs1, d1, ds1, p1, q1, rfl, rfl, rfl, h1, r1⟩ := trodAll_cons r0
  obtain ⟨v2, vs2, d2, ds2, p2, q2, rfl, rfl, rfl, h2, r2⟩ := trodAll_cons r1
  obtain ⟨rfl, rfl, rfl⟩ := trodAll_nil r2
  obtain rfl : args = #[v0, v1, v2] := by cases args; simp_all
  obtain ⟨rfl, rfl⟩ := trodVars_none hV
  have k0 := h0
  have lt0 : ∀ x ∈ p0, x.block < W.heap.size := by obtain ⟨m, hm⟩ := k0; exact DataW.trod_lt m _ _ _ hm
  obtain ⟨cs0, rfl, l0, L0⟩ := flat_of (n := 1) (ls := [(0, .inl .i64)]) (by kernel_rfl) (by kernel_rfl) (agg_of_struct Try.underlying23 (hval 0 23 v0 rfl rfl)) h0
  obtain ⟨a0x0, e0x0, w0x0⟩ := leaf_int (L0 (0, .inl .i64) (by simp))
  obtain rfl : cs0 = [.int .i64 a0x0] := list_is l0 rfl (by intro i hi; match i, hi with | 0, _ => exact e0x0)
  have k1 := h1
  have lt1 : ∀ x ∈ p1, x.block < W.heap.size := by obtain ⟨m, hm⟩ := k1; exact DataW.trod_lt m _ _ _ hm
  obtain ⟨a1, rfl, _, _⟩ := open_bool Try.underlying4 (hval 1 4 v1 rfl rfl) h1
  have k2 := h2
  have lt2 : ∀ x ∈ p2, x.block < W.heap.size := by obtain ⟨m, hm⟩ := k2; exact DataW.trod_lt m _ _ _ hm
  obtain ⟨cs2, rfl, l2, L2⟩ := flat_of (n := 2) (ls := [(0, .inl .i64), (1, .inl .i64)]) (by kernel_rfl) (by kernel_rfl) (agg_of_array Try.underlying24 (hval 2 24 v2 rfl rfl)) h2
  obtain ⟨a2x0, e2x0, w2x0⟩ := leaf_int (L2 (0, .inl .i64) (by simp))
  obtain ⟨a2x1, e2x1, w2x1⟩ := leaf_int (L2 (1, .inl .i64) (by simp))
  obtain rfl : cs2 = [.int .i64 a2x0, .int .i64 a2x1] := list_is l2 rfl (by intro i hi; match i, hi with | 0, _ => exact e2x0 | 1, _ => exact e2x1)
  clear hA0 hval0
  refine (walk a0x0 a1 a2x0 a2x1 W w0x0 w2x0 w2x1).mono fun e W' ⟨he, bel⟩ => ?_
  subst he
  exact ⟨_, rfl, _, _, _, [], _, [], hW', trodAll_mk1 (shut_bool Try.underlying4 _), (trodAll_cons_mk (Below.trod laidOut (by kernel_rfl) (of_decide_eq_true (by kernel_rfl)) k0 bel lt0) (trodAll_cons_mk (Below.trod laidOut (by kernel_rfl) (of_decide_eq_true (by kernel_rfl)) k1 bel lt1) (trodAll_cons_mk (Below.trod laidOut (by kernel_rfl) (of_decide_eq_true (by kernel_rfl)) k2 bel lt2) trodAll_mk0))), rfl, bel.frame _, fun h => by cases h⟩

theorem over : Rows.classicRoundsRow.holds Try.pinned (OpenSpec.ofChange Rows.classicRoundsSpec) :=
  OpenClaim.holds_of_wide 3 Try.f3 rfl rfl rfl rfl rfl rfl rfl ⟨rfl, rfl, rfl, rfl, rfl⟩ rfl rfl rfl rfl rfl (by kernel_rfl) Try.func3 (by kernel_rfl)
    (of_decide_eq_true (by kernel_rfl)) (by unfold Func.isWrapper; first | (rw [if_pos (by decide +kernel)]; kernel_rfl) | (rw [if_neg (by decide +kernel)]; exact ⟨rfl, rfl⟩))
    (fun os started H enc _ => lifted os started H enc)
end classicRounds
theorem classicRounds_holds : Rows.ClassicRoundsSaid := classicRounds.over
end Go.Proofs.Ytmmccaaocfbdlaa
