/- For every window, every share and every mss, reno.Cut and reno.Collapse of it, and reno.Start of that mss and of the share as a number of segments, answer as the document's own do, and the chapter's example holds: RenoFalls returns true and changes nothing that was there. No conditions. -/
import Derived.Test.YtbfghiocfognlaaKit
import Derived.Test.YtbfghiocfognlaaRenI
namespace Go.Proofs.Ytbfghiocfognlaa
namespace renoFalls
open Go.ChangeShapes Go.WideShapes Go.ChangeAt Go.RowKit
open Go.ChangeMaps (open_string shut_string)
set_option linter.unusedVariables false

theorem own : ownKnob Try.prog.godebug = none := by kernel_rfl
theorem laidOut : laidOutB Try.prog = true := by kernel_rfl

set_option maxHeartbeats 4000000 in
set_option maxRecDepth 100000 in
theorem walk (a0x0 : Int) (a0x1 : Int) (a0x2 : Int) (a1 : Int) (a2 : Int) (w : World) (w0x0 : (Lit.int .i64 a0x0).wf = true) (w0x1 : (Lit.int .i64 a0x1).wf = true) (w0x2 : (Lit.int .i64 a0x2).wf = true) (w1 : (Lit.int .i64 a1).wf = true) (w2 : (Lit.int .i64 a2).wf = true) :
    Calls Try.prog 3 #[.agg #[.int .i64 a0x0, .int .i64 a0x1, .int .i64 a0x2], .int .i64 a1, .int .i64 a2] w fun e w' => e = .returned (.bool true) ∧ Below w.heap.size w w' := by
  obtain ⟨c, hcc⟩ : ∃ c : Rn, c = ⟨a0x0, a0x1, a0x2⟩ := ⟨_, rfl⟩
  obtain rfl : a0x0 = c.c := by rw [hcc]
  obtain rfl : a0x1 = c.t := by rw [hcc]
  obtain rfl : a0x2 = c.k := by rw [hcc]
  clear hcc w0x0 w0x1 w0x2 w1 w2
  have C0 := Lib.hid (Blk.new w (rnV c) 23)
  have LO := Lib.hid (new_alloc (new_refl w) (.cells #[.int .i64 c.c, .int .i64 c.t, .int .i64 c.k] 23))
  obtain ⟨d, hd⟩ : ∃ d, rnCut c a1 a2 = d := ⟨_, rfl⟩
  obtain ⟨f, hf⟩ : ∃ d, rnFell c a2 = d := ⟨_, rfl⟩
  obtain ⟨g, hg⟩ : ∃ d, rnStart a2 a1 = d := ⟨_, rfl⟩
  have F1 : Hid (∀ w, Calls Try.prog 6 #[.agg #[.int .i64 c.c, .int .i64 c.t, .int .i64 c.k], .int .i64 a1, .int .i64 a2] w fun e w' => e = .returned (.agg #[.int .i64 d.c, .int .i64 d.t, .int .i64 d.k]) ∧ Below w.heap.size w w') := Lib.hid (fun w => by rw [← hd]; exact cut24_any c a1 a2 w)
  have F2 : Hid (∀ w, Calls Try.prog 7 #[.agg #[.int .i64 c.c, .int .i64 c.t, .int .i64 c.k], .int .i64 a1, .int .i64 a2] w fun e w' => e = .returned (.agg #[.int .i64 d.c, .int .i64 d.t, .int .i64 d.k]) ∧ Below w.heap.size w w') := Lib.hid (fun w => by rw [← hd]; exact cut24R_any c a1 a2 w)
  have G1 : Hid (∀ w, Calls Try.prog 8 #[.agg #[.int .i64 c.c, .int .i64 c.t, .int .i64 c.k], .int .i64 a2] w fun e w' => e = .returned (.agg #[.int .i64 f.c, .int .i64 f.t, .int .i64 f.k]) ∧ Below w.heap.size w w') := Lib.hid (fun w => by rw [← hf]; exact fell24_any c a2 w)
  have G2 : Hid (∀ w, Calls Try.prog 9 #[.agg #[.int .i64 c.c, .int .i64 c.t, .int .i64 c.k], .int .i64 a2] w fun e w' => e = .returned (.agg #[.int .i64 f.c, .int .i64 f.t, .int .i64 f.k]) ∧ Below w.heap.size w w') := Lib.hid (fun w => by rw [← hf]; exact fell24R_any c a2 w)
  have S1 : Hid (∀ w, Calls Try.prog 10 #[.int .i64 a2, .int .i64 a1] w fun e w' => e = .returned (.agg #[.int .i64 g.c, .int .i64 g.t, .int .i64 g.k]) ∧ Below w.heap.size w w') := Lib.hid (fun w => by rw [← hg]; exact start24_any a2 a1 w)
  have S2 : Hid (∀ w, Calls Try.prog 11 #[.int .i64 a2, .int .i64 a1] w fun e w' => e = .returned (.agg #[.int .i64 g.c, .int .i64 g.t, .int .i64 g.k]) ∧ Below w.heap.size w w') := Lib.hid (fun w => by rw [← hg]; exact start24R_any a2 a1 w)
  clear hd hf hg
  have q1 := eqlN d
  have q2 := eqlN f
  have q3 := eqlN g
  unfold rnW at q1 q2 q3
  go_enter Try.func3, Try.ntmps3
  go_upto_region 1 with fail
  have e0 := cell_by (C0.out.cell 0 rfl)
  have e1 := cell_by (C0.out.cell 1 rfl)
  have e2 := cell_by (C0.out.cell 2 rfl)
  refine wp_region_quiet_below (by kernel_rfl) (by kernel_rfl) ?_
  repeat (go_big_quiet_step (first
    | (go_at_call 6; refine calls_by (F1.out _))
    | (go_at_call 7; refine calls_by (F2.out _))
    | (go_at_call 8; refine calls_by (G1.out _))
    | (go_at_call 9; refine calls_by (G2.out _))
    | (go_at_call 10; refine calls_by (S1.out _))
    | (go_at_call 11; refine calls_by (S2.out _))
    | (go_at_call 12; refine calls_by (works24_any _))))
  refine wpQuiet_nil ?_
  intro wq hw'
  obtain ⟨⟨wr, Bq⟩, hw''⟩ := hw'
  subst hw''
  clear e0 e1 e2
  go_wp2_with fail
  go_ret
  exact ⟨rfl, new_then LO.out Bq⟩

set_option maxRecDepth 100000 in
theorem lifted (os : Os) (started : os.Started) (H : Type) (enc : TypeId × Value → H) :
    ReturnsInHanded {} Try.checked os 3 .any (Rows.renoFallsSpec.pre6 enc Try.prog Try.f3 Rows.renoFallsRow.domain false) (Rows.renoFallsSpec.post enc Try.prog Try.f3 false true false false) := by
  refine returnsInHanded_of_change (C := Try.checked) own started (by kernel_rfl) Try.func3
    (ChangeSpec.witness6 (enc := enc) (C := Try.checked) false ⟨#[], #[.agg #[.int .i64 0, .int .i64 0, .int .i64 0], .int .i64 0, .int .i64 0], []⟩ 8 (by kernel_rfl) (by kernel_rfl) (by kernel_rfl) (by kernel_rfl)) ?_
  intro W base args ds gs before hval0 hW hcnd _
  have hval : ∀ (j : Nat) t v, Try.f3.params[j]? = some t → args[j]? = some v → Value.okWide Try.prog W .any base t v := hval0
  have hW' := hW
  obtain ⟨p, q, hA0, hV, rfl, hfz, hnd⟩ := hW
  have hA : DataW.TrodAll enc Try.prog W 0 (fun _ => true) true Try.f3.params.toList args.toList ds p := hA0
  rw [Try.params3] at hA hval
  obtain ⟨v0, vs0, d0, ds0, p0, q0, hargs, rfl, rfl, h0, r0⟩ := trodAll_cons hA
  obtain ⟨v1, vs1, d1, ds1, p1, q1, rfl, rfl, rfl, h1, r1⟩ := trodAll_cons r0
  obtain ⟨v2, vs2, d2, ds2, p2, q2, rfl, rfl, rfl, h2, r2⟩ := trodAll_cons r1
  obtain ⟨rfl, rfl, rfl⟩ := trodAll_nil r2
  obtain rfl : args = #[v0, v1, v2] := by cases args; simp_all
  obtain ⟨rfl, rfl⟩ := trodVars_none hV
  have k0 := h0
  have lt0 : ∀ x ∈ p0, x.block < W.heap.size := by obtain ⟨m, hm⟩ := k0; exact DataW.trod_lt m _ _ _ hm
  obtain ⟨cs0, rfl, l0, L0⟩ := flat_of (n := 3) (ls := [(0, .inl .i64), (1, .inl .i64), (2, .inl .i64)]) (by kernel_rfl) (by kernel_rfl) (agg_of_struct Try.underlying23 (hval 0 23 v0 rfl rfl)) h0
  obtain ⟨a0x0, e0x0, w0x0⟩ := leaf_int (L0 (0, .inl .i64) (by simp))
  obtain ⟨a0x1, e0x1, w0x1⟩ := leaf_int (L0 (1, .inl .i64) (by simp))
  obtain ⟨a0x2, e0x2, w0x2⟩ := leaf_int (L0 (2, .inl .i64) (by simp))
  obtain rfl : cs0 = [.int .i64 a0x0, .int .i64 a0x1, .int .i64 a0x2] := list_is l0 rfl (by intro i hi; match i, hi with | 0, _ => exact e0x0 | 1, _ => exact e0x1 | 2, _ => exact e0x2)
  have k1 := h1
  have lt1 : ∀ x ∈ p1, x.block < W.heap.size := by obtain ⟨m, hm⟩ := k1; exact DataW.trod_lt m _ _ _ hm
  obtain ⟨a1, rfl, _, _, w1⟩ := open_int Try.underlying2 (hval 1 2 v1 rfl rfl) h1
  have k2 := h2
  have lt2 : ∀ x ∈ p2, x.block < W.heap.size := by obtain ⟨m, hm⟩ := k2; exact DataW.trod_lt m _ _ _ hm
  obtain ⟨a2, rfl, _, _, w2⟩ := open_int Try.underlying2 (hval 2 2 v2 rfl rfl) h2
  clear hA0 hval0
  refine (walk a0x0 a0x1 a0x2 a1 a2 W w0x0 w0x1 w0x2 w1 w2).mono fun e W' ⟨he, bel⟩ => ?_
  subst he
  exact ⟨_, rfl, _, _, _, [], _, [], hW', trodAll_mk1 (shut_bool Try.underlying4 _), (trodAll_cons_mk (Below.trod laidOut (by kernel_rfl) (of_decide_eq_true (by kernel_rfl)) k0 bel lt0) (trodAll_cons_mk (Below.trod laidOut (by kernel_rfl) (of_decide_eq_true (by kernel_rfl)) k1 bel lt1) (trodAll_cons_mk (Below.trod laidOut (by kernel_rfl) (of_decide_eq_true (by kernel_rfl)) k2 bel lt2) trodAll_mk0))), rfl, bel.frame _, fun h => by cases h⟩

theorem over : Rows.renoFallsRow.holds Try.pinned (OpenSpec.ofChange Rows.renoFallsSpec) :=
  OpenClaim.holds_of_wide 3 Try.f3 rfl rfl rfl rfl rfl rfl rfl ⟨rfl, rfl, rfl, rfl, rfl⟩ rfl rfl rfl rfl rfl (by kernel_rfl) Try.func3 (by kernel_rfl)
    (of_decide_eq_true (by kernel_rfl)) (by unfold Func.isWrapper; first | (rw [if_pos (by decide +kernel)]; kernel_rfl) | (rw [if_neg (by decide +kernel)]; exact ⟨rfl, rfl⟩))
    (fun os started H enc _ => lifted os started H enc)
end renoFalls
theorem renoFalls_holds : Rows.RenoFallsSaid := renoFalls.over
end Go.Proofs.Ytbfghiocfognlaa
