/- For every timer and every time, timer.Fire answers as the document's own Fire does, and the chapter's example holds: TimerFires returns true and changes nothing that was there. No conditions. -/
import Derived.Test.YtgennncpdfjfcaaKit
import Derived.Test.YtgennncpdfjfcaaTmrD
namespace Go.Proofs.Ytgennncpdfjfcaa
namespace timerFires
open Go.ChangeShapes Go.WideShapes Go.ChangeAt Go.RowKit
open Go.ChangeMaps (open_string shut_string)
set_option linter.unusedVariables false

theorem own : ownKnob Try.prog.godebug = none := by kernel_rfl
theorem laidOut : laidOutB Try.prog = true := by kernel_rfl

set_option maxHeartbeats 4000000 in
set_option maxRecDepth 100000 in
theorem walk (a0x0 : Int) (a0x1 : Int) (a0x2 : Int) (a0x3 : Int) (a1 : Int) (w : World) (w0x0 : (Lit.int .i64 a0x0).wf = true) (w0x1 : (Lit.int .i64 a0x1).wf = true) (w0x2 : (Lit.int .i64 a0x2).wf = true) (w0x3 : (Lit.int .i64 a0x3).wf = true) (w1 : (Lit.int .i64 a1).wf = true) :
    Calls Try.prog 4 #[.agg #[.int .i64 a0x0, .int .i64 a0x1, .int .i64 a0x2, .int .i64 a0x3], .int .i64 a1] w fun e w' => e = .returned (.bool true) ∧ Below w.heap.size w w' := by
  obtain ⟨c, hcc⟩ : ∃ c : Tm, c = ⟨a0x0, a0x1, a0x2, a0x3⟩ := ⟨_, rfl⟩
  obtain rfl : a0x0 = c.b := by rw [hcc]
  obtain rfl : a0x1 = c.m := by rw [hcc]
  obtain rfl : a0x2 = c.t := by rw [hcc]
  obtain rfl : a0x3 = c.d := by rw [hcc]
  clear hcc w0x0 w0x1 w0x2 w0x3 w1
  have C0 := Lib.hid (Blk.new w (tmV c) 23)
  have L := Lib.hid (new_alloc (new_refl w) (.cells #[.int .i64 c.b, .int .i64 c.m, .int .i64 c.t, .int .i64 c.d] 23))
  have FI : Hid (∀ w, Calls Try.prog 14 #[.agg #[.int .i64 c.b, .int .i64 c.m, .int .i64 c.t, .int .i64 c.d], .int .i64 a1] w fun e w' => e = .returned (.tuple #[tmG (tmFire c a1), .bool (tmGoes c a1)]) ∧ Below w.heap.size w w') := Lib.hid (fun w => fire22_any c a1 w)
  have FR : Hid (∀ w, Calls Try.prog 15 #[.agg #[.int .i64 c.b, .int .i64 c.m, .int .i64 c.t, .int .i64 c.d], .int .i64 a1] w fun e w' => e = .returned (.tuple #[tmG (tmFire c a1), .bool (tmGoes c a1)]) ∧ Below w.heap.size w w') := Lib.hid (fun w => fire22R_any c a1 w)
  have E1 := eqlT (tmFire c a1)
  generalize tmFire c a1 = D at *
  generalize tmGoes c a1 = f at *
  unfold tmG at *
  cases f
  all_goals
    go_enter Try.func4, Try.ntmps4
    go_wp2_with (first
      | (go_at_call 14; refine (FI.out _).mono ?_; rintro e w1 ⟨rfl, B1⟩
         have K := (C0.out.kept B1).alloc (.cells #[.int .i64 D.b, .int .i64 D.m, .int .i64 D.t, .int .i64 D.d] 23)
         have N := Blk.new w1 (tmV D) 23
         have c0 := K.cell 0 rfl; have c1 := K.cell 1 rfl; have c2 := K.cell 2 rfl; have c3 := K.cell 3 rfl)
      | (go_at_call 15; refine (FR.out _).mono ?_; rintro e w2 ⟨rfl, B2⟩
         have N2 := (N.kept B2).alloc (.cells #[.int .i64 D.b, .int .i64 D.m, .int .i64 D.t, .int .i64 D.d] 23)
         have n0 := N2.cell 0 rfl; have n1 := N2.cell 1 rfl; have n2 := N2.cell 2 rfl; have n3 := N2.cell 3 rfl)
      | (go_at_call 13; refine (works22_any _).mono ?_; rintro e w3 ⟨rfl, B3⟩))
    go_ret
    exact ⟨rfl, new_then (new_alloc (new_then (new_alloc (new_then L.out B1) _) B2) _) B3⟩

set_option maxRecDepth 100000 in
theorem lifted (os : Os) (started : os.Started) (H : Type) (enc : TypeId × Value → H) :
    ReturnsInHanded {} Try.checked os 4 .any (Rows.timerFiresSpec.pre6 enc Try.prog Try.f4 Rows.timerFiresRow.domain false) (Rows.timerFiresSpec.post enc Try.prog Try.f4 false true false false) := by
  refine returnsInHanded_of_change (C := Try.checked) own started (by kernel_rfl) Try.func4
    (ChangeSpec.witness6 (enc := enc) (C := Try.checked) false ⟨#[], #[.agg #[.int .i64 0, .int .i64 0, .int .i64 0, .int .i64 0], .int .i64 0], []⟩ 8 (by kernel_rfl) (by kernel_rfl) (by kernel_rfl) (by kernel_rfl)) ?_
  intro W base args ds gs before hval0 hW hcnd _
  have hval : ∀ (j : Nat) t v, Try.f4.params[j]? = some t → args[j]? = some v → Value.okWide Try.prog W .any base t v := hval0
  have hW' := hW
  obtain ⟨p, q, hA0, hV, rfl, hfz, hnd⟩ := hW
  have hA : DataW.TrodAll enc Try.prog W 0 (fun _ => true) true Try.f4.params.toList args.toList ds p := hA0
  rw [Try.params4] at hA hval
  obtain ⟨v0, vs0, d0, ds0, p0, q0, hargs, rfl, rfl, h0, r0⟩ := trodAll_cons hA
  obtain ⟨v1, vs1, d1, ds1, p1, q1, rfl, rfl, rfl, h1, r1⟩ := trodAll_cons r0
  obtain ⟨rfl, rfl, rfl⟩ := trodAll_nil r1
  obtain rfl : args = #[v0, v1] := by cases args; simp_all
  obtain ⟨rfl, rfl⟩ := trodVars_none hV
  have k0 := h0
  have lt0 : ∀ x ∈ p0, x.block < W.heap.size := by obtain ⟨m, hm⟩ := k0; exact DataW.trod_lt m _ _ _ hm
  obtain ⟨cs0, rfl, l0, L0⟩ := flat_of (n := 4) (ls := [(0, .inl .i64), (1, .inl .i64), (2, .inl .i64), (3, .inl .i64)]) (by kernel_rfl) (by kernel_rfl) (agg_of_struct Try.underlying23 (hval 0 23 v0 rfl rfl)) h0
  obtain ⟨a0x0, e0x0, w0x0⟩ := leaf_int (L0 (0, .inl .i64) (by simp))
  obtain ⟨a0x1, e0x1, w0x1⟩ := leaf_int (L0 (1, .inl .i64) (by simp))
  obtain ⟨a0x2, e0x2, w0x2⟩ := leaf_int (L0 (2, .inl .i64) (by simp))
  obtain ⟨a0x3, e0x3, w0x3⟩ := leaf_int (L0 (3, .inl .i64) (by simp))
  obtain rfl : cs0 = [.int .i64 a0x0, .int .i64 a0x1, .int .i64 a0x2, .int .i64 a0x3] := list_is l0 rfl (by intro i hi; match i, hi with | 0, _ => exact e0x0 | 1, _ => exact e0x1 | 2, _ => exact e0x2 | 3, _ => exact e0x3)
  have k1 := h1
  have lt1 : ∀ x ∈ p1, x.block < W.heap.size := by obtain ⟨m, hm⟩ := k1; exact DataW.trod_lt m _ _ _ hm
  obtain ⟨a1, rfl, _, _, w1⟩ := open_int Try.underlying2 (hval 1 2 v1 rfl rfl) h1
  clear hA0 hval0
  refine (walk a0x0 a0x1 a0x2 a0x3 a1 W w0x0 w0x1 w0x2 w0x3 w1).mono fun e W' ⟨he, bel⟩ => ?_
  subst he
  exact ⟨_, rfl, _, _, _, [], _, [], hW', trodAll_mk1 (shut_bool Try.underlying4 _), (trodAll_cons_mk (Below.trod laidOut (by kernel_rfl) (of_decide_eq_true (by kernel_rfl)) k0 bel lt0) (trodAll_cons_mk (Below.trod laidOut (by kernel_rfl) (of_decide_eq_true (by kernel_rfl)) k1 bel lt1) trodAll_mk0)), rfl, bel.frame _, fun h => by cases h⟩

theorem over : Rows.timerFiresRow.holds Try.pinned (OpenSpec.ofChange Rows.timerFiresSpec) :=
  OpenClaim.holds_of_wide 4 Try.f4 rfl rfl rfl rfl rfl rfl rfl ⟨rfl, rfl, rfl, rfl, rfl⟩ rfl rfl rfl rfl rfl (by kernel_rfl) Try.func4 (by kernel_rfl)
    (of_decide_eq_true (by kernel_rfl)) (by unfold Func.isWrapper; first | (rw [if_pos (by decide +kernel)]; kernel_rfl) | (rw [if_neg (by decide +kernel)]; exact ⟨rfl, rfl⟩))
    (fun os started H enc _ => lifted os started H enc)
end timerFires
theorem timerFires_holds : Rows.TimerFiresSaid := timerFires.over
end Go.Proofs.Ytgennncpdfjfcaa
