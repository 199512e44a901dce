/- For every state and every four numbers, alpha.Take answers as the document's own Take does, its bool too, alpha.Fraction as its Fraction, alpha.Start is the state of that share and end within its ends; and the chapter's example holds: AlphaTakes returns true and changes nothing that was there. No conditions. -/
import Derived.Test.YtpeckopgmdgnnaaKit
import Derived.Test.YtpeckopgmdgnnaaAlpC
namespace Go.Proofs.Ytpeckopgmdgnnaa
namespace alphaTakes
open Go.ChangeShapes Go.WideShapes Go.ChangeAt Go.RowKit
open Go.ChangeMaps (open_string shut_string)
set_option linter.unusedVariables false

theorem apIn_start (s e : Int) : apIn ⟨s, 0, 0, e⟩ = apStart s e := by
  have k0 : apK ⟨s, 0, 0, e⟩ = 0 := show clampI 0 0 1099511627776 = 0 by decide
  have m0 : apM ⟨s, 0, 0, e⟩ = 0 := by unfold apM; rw [k0]; exact (show clampI 0 0 0 = 0 by decide)
  unfold apIn apStart
  rw [k0, m0]
abbrev twV (x y : Int) : List Value := [.int .i64 x, .int .i64 y]
theorem own : ownKnob Try.prog.godebug = none := by kernel_rfl
theorem laidOut : laidOutB Try.prog = true := by kernel_rfl

set_option maxHeartbeats 4000000 in
set_option maxRecDepth 100000 in
theorem walk (a0x0 : Int) (a0x1 : Int) (a0x2 : Int) (a0x3 : Int) (a1x0 : Int) (a1x1 : Int) (a2x0 : Int) (a2x1 : Int) (w : World) (w0x0 : (Lit.int .i64 a0x0).wf = true) (w0x1 : (Lit.int .i64 a0x1).wf = true) (w0x2 : (Lit.int .i64 a0x2).wf = true) (w0x3 : (Lit.int .i64 a0x3).wf = true) (w1x0 : (Lit.int .i64 a1x0).wf = true) (w1x1 : (Lit.int .i64 a1x1).wf = true) (w2x0 : (Lit.int .i64 a2x0).wf = true) (w2x1 : (Lit.int .i64 a2x1).wf = true) :
    Calls Try.prog 3 #[.agg #[.int .i64 a0x0, .int .i64 a0x1, .int .i64 a0x2, .int .i64 a0x3], .agg #[.int .i64 a1x0, .int .i64 a1x1], .agg #[.int .i64 a2x0, .int .i64 a2x1]] w fun e w' => e = .returned (.bool true) ∧ Below w.heap.size w w' := by
  obtain ⟨c, hcc⟩ : ∃ c : Ap, c = ⟨a0x0, a0x1, a0x2, a0x3⟩ := ⟨_, rfl⟩
  obtain rfl : a0x0 = c.s := by rw [hcc]
  obtain rfl : a0x1 = c.k := by rw [hcc]
  obtain rfl : a0x2 = c.m := by rw [hcc]
  obtain rfl : a0x3 = c.e := by rw [hcc]
  clear hcc w0x0 w0x1 w0x2 w0x3 w1x0 w1x1 w2x0 w2x1
  have T1 : Hid (∀ w, Calls Try.prog 6 #[.agg #[.int .i64 c.s, .int .i64 c.k, .int .i64 c.m, .int .i64 c.e], .int .i64 a1x0, .int .i64 a1x1, .int .i64 a2x0, .int .i64 a2x1] w fun e w' => e = .returned (.tuple #[apG (apTake c a1x0 a1x1 a2x0 a2x1), .bool (apEnd a2x0 c.e)]) ∧ Below w.heap.size w w') := Lib.hid (fun w => take25_any c a1x0 a1x1 a2x0 a2x1 w)
  have T2 : Hid (∀ w, Calls Try.prog 7 #[.agg #[.int .i64 c.s, .int .i64 c.k, .int .i64 c.m, .int .i64 c.e], .int .i64 a1x0, .int .i64 a1x1, .int .i64 a2x0, .int .i64 a2x1] w fun e w' => e = .returned (.tuple #[apG (apTake c a1x0 a1x1 a2x0 a2x1), .bool (apEnd a2x0 c.e)]) ∧ Below w.heap.size w w') := Lib.hid (fun w => take25R_any c a1x0 a1x1 a2x0 a2x1 w)
  have F1 : Hid (∀ w, Calls Try.prog 9 #[.agg #[.int .i64 c.s, .int .i64 c.k, .int .i64 c.m, .int .i64 c.e]] w fun e w' => e = .returned (.int .i64 (apF c)) ∧ Below w.heap.size w w') := Lib.hid (fun w => fraction25_any c w)
  have F2 : Hid (∀ w, Calls Try.prog 10 #[.agg #[.int .i64 c.s, .int .i64 c.k, .int .i64 c.m, .int .i64 c.e]] w fun e w' => e = .returned (.int .i64 (apF c)) ∧ Below w.heap.size w w') := Lib.hid (fun w => fraction25R_any c w)
  have S1 : Hid (∀ w, Calls Try.prog 8 #[.int .i64 a1x0, .int .i64 a2x0] w fun e w' => e = .returned (apG (apStart a1x0 a2x0)) ∧ Below w.heap.size w w') := Lib.hid (fun w => start25_any a1x0 a2x0 w)
  have S2 : Hid (∀ w, Calls Try.prog 11 #[.agg #[.int .i64 a1x0, .int .i64 0, .int .i64 0, .int .i64 a2x0]] w fun e w' => e = .returned (apG (apStart a1x0 a2x0)) ∧ Below w.heap.size w w') := Lib.hid (fun w => by
    have h := within25R_any ⟨a1x0, 0, 0, a2x0⟩ w
    unfold ApIs at h
    rwa [apIn_start] at h)
  have E1 := eqlA4 (apTake c a1x0 a1x1 a2x0 a2x1)
  have E2 := eqlA4 (apStart a1x0 a2x0)
  generalize apTake c a1x0 a1x1 a2x0 a2x1 = D at *
  generalize apStart a1x0 a2x0 = H at *
  generalize apEnd a2x0 c.e = G at *
  generalize apF c = F at *
  unfold apG at *
  obtain ⟨W1, h1⟩ : ∃ W, w.alloc (.cells #[.int .i64 c.s, .int .i64 c.k, .int .i64 c.m, .int .i64 c.e] 23) = W := ⟨_, rfl⟩
  obtain ⟨W2, h2⟩ : ∃ W, W1.alloc (.cells #[.int .i64 a1x0, .int .i64 a1x1] 24) = W := ⟨_, rfl⟩
  obtain ⟨W3, h3⟩ : ∃ W, W2.alloc (.cells #[.int .i64 a2x0, .int .i64 a2x1] 24) = W := ⟨_, rfl⟩
  have z1 : W1.heap.size = w.heap.size + 1 := by rw [← h1]; simp
  have z2 : W2.heap.size = w.heap.size + 1 + 1 := by rw [← h2]; simp [z1]
  have L3 : Hid (Below w.heap.size w W3) := Lib.hid (by rw [← h3, ← h2, ← h1]; exact new_alloc (new_alloc (new_alloc (new_refl w) _) _) _)
  have C3 : Hid (Blk W3 w.heap.size (apV c) 23) := Lib.hid (by rw [← h3, ← h2, ← h1]; exact ((Blk.new w (apV c) _).alloc _).alloc _)
  have P3 : Hid (Blk W3 (w.heap.size + 1) (twV a1x0 a1x1) 24) := Lib.hid (by rw [← h3, ← h2]; exact (Blk.newAt z1 (twV a1x0 a1x1) _).alloc _)
  have Q3 : Hid (Blk W3 (w.heap.size + 1 + 1) (twV a2x0 a2x1) 24) := Lib.hid (by rw [← h3]; exact Blk.newAt z2 (twV a2x0 a2x1) _)
  cases G
  all_goals
    go_enter Try.func3, Try.ntmps3
    go_upto_region 1 with fail
    clear h1 h2 h3 z1 z2
    have c0 := C3.out.cell 0 rfl; have c1 := C3.out.cell 1 rfl; have c2 := C3.out.cell 2 rfl; have c3 := C3.out.cell 3 rfl; have p0 := P3.out.cell 0 rfl; have p1 := P3.out.cell 1 rfl; have q0 := Q3.out.cell 0 rfl; have q1 := Q3.out.cell 1 rfl
    go_upto_region 2 with (go_at_call 6; refine (T1.out _).mono ?_; rintro e w1 ⟨rfl, B1⟩)
    have N1 := Lib.hid (Blk.new w1 (apV D) 23)
    have C4 := Lib.hid ((C3.out.kept B1).alloc (.cells #[.int .i64 D.s, .int .i64 D.k, .int .i64 D.m, .int .i64 D.e] 23))
    have P4 := Lib.hid ((P3.out.kept B1).alloc (.cells #[.int .i64 D.s, .int .i64 D.k, .int .i64 D.m, .int .i64 D.e] 23))
    have Q4 := Lib.hid ((Q3.out.kept B1).alloc (.cells #[.int .i64 D.s, .int .i64 D.k, .int .i64 D.m, .int .i64 D.e] 23))
    have L4 := Lib.hid (new_alloc (new_then L3.out B1) (.cells #[.int .i64 D.s, .int .i64 D.k, .int .i64 D.m, .int .i64 D.e] 23))
    clear c0 c1 c2 c3 p0 p1 q0 q1 C3 P3 Q3 L3 B1 T1
    have c0 := C4.out.cell 0 rfl; have c1 := C4.out.cell 1 rfl; have c2 := C4.out.cell 2 rfl; have c3 := C4.out.cell 3 rfl; have p0 := P4.out.cell 0 rfl; have p1 := P4.out.cell 1 rfl; have q0 := Q4.out.cell 0 rfl; have q1 := Q4.out.cell 1 rfl
    go_upto_region 3 with (go_at_call 7; refine (T2.out _).mono ?_; rintro e w2 ⟨rfl, B2⟩)
    have M1 := Lib.hid (Blk.new w2 (apV D) 23)
    have N2 := Lib.hid ((N1.out.kept B2).alloc (.cells #[.int .i64 D.s, .int .i64 D.k, .int .i64 D.m, .int .i64 D.e] 23))
    have C5 := Lib.hid ((C4.out.kept B2).alloc (.cells #[.int .i64 D.s, .int .i64 D.k, .int .i64 D.m, .int .i64 D.e] 23))
    have P5 := Lib.hid ((P4.out.kept B2).alloc (.cells #[.int .i64 D.s, .int .i64 D.k, .int .i64 D.m, .int .i64 D.e] 23))
    have Q5 := Lib.hid ((Q4.out.kept B2).alloc (.cells #[.int .i64 D.s, .int .i64 D.k, .int .i64 D.m, .int .i64 D.e] 23))
    have L5 := Lib.hid (new_alloc (new_then L4.out B2) (.cells #[.int .i64 D.s, .int .i64 D.k, .int .i64 D.m, .int .i64 D.e] 23))
    clear c0 c1 c2 c3 p0 p1 q0 q1 C4 P4 Q4 L4 B2 T2 N1
    have c0 := C5.out.cell 0 rfl; have c1 := C5.out.cell 1 rfl; have c2 := C5.out.cell 2 rfl; have c3 := C5.out.cell 3 rfl; have p0 := P5.out.cell 0 rfl; have p1 := P5.out.cell 1 rfl; have q0 := Q5.out.cell 0 rfl; have q1 := Q5.out.cell 1 rfl
    go_upto_region 4 with (go_at_call 8; refine (S1.out _).mono ?_; rintro e w3 ⟨rfl, B3⟩)
    have O1 := Lib.hid (Blk.new w3 (apV H) 23)
    have M2 := Lib.hid ((M1.out.kept B3).alloc (.cells #[.int .i64 H.s, .int .i64 H.k, .int .i64 H.m, .int .i64 H.e] 23))
    have N3 := Lib.hid ((N2.out.kept B3).alloc (.cells #[.int .i64 H.s, .int .i64 H.k, .int .i64 H.m, .int .i64 H.e] 23))
    have C6 := Lib.hid ((C5.out.kept B3).alloc (.cells #[.int .i64 H.s, .int .i64 H.k, .int .i64 H.m, .int .i64 H.e] 23))
    have P6 := Lib.hid ((P5.out.kept B3).alloc (.cells #[.int .i64 H.s, .int .i64 H.k, .int .i64 H.m, .int .i64 H.e] 23))
    have Q6 := Lib.hid ((Q5.out.kept B3).alloc (.cells #[.int .i64 H.s, .int .i64 H.k, .int .i64 H.m, .int .i64 H.e] 23))
    have L6 := Lib.hid (new_alloc (new_then L5.out B3) (.cells #[.int .i64 H.s, .int .i64 H.k, .int .i64 H.m, .int .i64 H.e] 23))
    clear c0 c1 c2 c3 p0 p1 q0 q1 C5 P5 Q5 L5 B3 S1 N2 M1
    have c0 := cell_by (C6.out.cell 0 rfl)
    have c1 := cell_by (C6.out.cell 1 rfl)
    have c2 := cell_by (C6.out.cell 2 rfl)
    have c3 := cell_by (C6.out.cell 3 rfl)
    have p0 := cell_by (P6.out.cell 0 rfl)
    have q0 := cell_by (Q6.out.cell 0 rfl)
    have n0 := cell_by (N3.out.cell 0 rfl)
    have n1 := cell_by (N3.out.cell 1 rfl)
    have n2 := cell_by (N3.out.cell 2 rfl)
    have n3 := cell_by (N3.out.cell 3 rfl)
    have m0 := cell_by (M2.out.cell 0 rfl)
    have m1 := cell_by (M2.out.cell 1 rfl)
    have m2 := cell_by (M2.out.cell 2 rfl)
    have m3 := cell_by (M2.out.cell 3 rfl)
    have o0 := cell_by (O1.out.cell 0 rfl)
    have o1 := cell_by (O1.out.cell 1 rfl)
    have o2 := cell_by (O1.out.cell 2 rfl)
    have o3 := cell_by (O1.out.cell 3 rfl)
    refine wp_region_quiet_below (by kernel_rfl) (by kernel_rfl) ?_
    repeat (go_big_quiet_step (first
      | (go_at_call 9; refine calls_by (F1.out _))
      | (go_at_call 10; refine calls_by (F2.out _))
      | (go_at_call 11; refine calls_by (S2.out _))
      | (go_at_call 12; refine calls_by (works25_any _))))
    refine wpQuiet_nil ?_
    intro wq hw'
    obtain ⟨⟨wr, Bq⟩, hw''⟩ := hw'
    subst hw''
    clear c0 c1 c2 c3 p0 q0 n0 n1 n2 n3 m0 m1 m2 m3 o0 o1 o2 o3
    go_wp2_with fail
    go_ret
    exact ⟨rfl, new_then L6.out Bq⟩

set_option maxRecDepth 100000 in
theorem lifted (os : Os) (started : os.Started) (H : Type) (enc : TypeId × Value → H) :
    ReturnsInHanded {} Try.checked os 3 .any (Rows.alphaTakesSpec.pre6 enc Try.prog Try.f3 Rows.alphaTakesRow.domain false) (Rows.alphaTakesSpec.post enc Try.prog Try.f3 false true false false) := by
  refine returnsInHanded_of_change (C := Try.checked) own started (by kernel_rfl) Try.func3
    (ChangeSpec.witness6 (enc := enc) (C := Try.checked) false ⟨#[], #[.agg #[.int .i64 0, .int .i64 0, .int .i64 0, .int .i64 0], .agg #[.int .i64 0, .int .i64 0], .agg #[.int .i64 0, .int .i64 0]], []⟩ 8 (by kernel_rfl) (by kernel_rfl) (by kernel_rfl) (by kernel_rfl)) ?_
  intro W base args ds gs before hval0 hW hcnd _
  have hval : ∀ (j : Nat) t v, Try.f3.params[j]? = some t → args[j]? = some v → Value.okWide Try.prog W .any base t v := hval0
  have hW' := hW
  obtain ⟨p, q, hA0, hV, rfl, hfz, hnd⟩ := hW
  have hA : DataW.TrodAll enc Try.prog W 0 (fun _ => true) true Try.f3.params.toList args.toList ds p := hA0
  rw [Try.params3] at hA hval
  obtain ⟨v0, vs0, d0, ds0, p0, q0, hargs, rfl, rfl, h0, r0⟩ := trodAll_cons hA
  obtain ⟨v1, vs1, d1, ds1, p1, q1, rfl, rfl, rfl, h1, r1⟩ := trodAll_cons r0
  obtain ⟨v2, vs2, d2, ds2, p2, q2, rfl, rfl, rfl, h2, r2⟩ := trodAll_cons r1
  obtain ⟨rfl, rfl, rfl⟩ := trodAll_nil r2
  obtain rfl : args = #[v0, v1, v2] := by cases args; simp_all
  obtain ⟨rfl, rfl⟩ := trodVars_none hV
  have k0 := h0
  have lt0 : ∀ x ∈ p0, x.block < W.heap.size := by obtain ⟨m, hm⟩ := k0; exact DataW.trod_lt m _ _ _ hm
  obtain ⟨cs0, rfl, l0, L0⟩ := flat_of (n := 4) (ls := [(0, .inl .i64), (1, .inl .i64), (2, .inl .i64), (3, .inl .i64)]) (by kernel_rfl) (by kernel_rfl) (agg_of_struct Try.underlying23 (hval 0 23 v0 rfl rfl)) h0
  obtain ⟨a0x0, e0x0, w0x0⟩ := leaf_int (L0 (0, .inl .i64) (by simp))
  obtain ⟨a0x1, e0x1, w0x1⟩ := leaf_int (L0 (1, .inl .i64) (by simp))
  obtain ⟨a0x2, e0x2, w0x2⟩ := leaf_int (L0 (2, .inl .i64) (by simp))
  obtain ⟨a0x3, e0x3, w0x3⟩ := leaf_int (L0 (3, .inl .i64) (by simp))
  obtain rfl : cs0 = [.int .i64 a0x0, .int .i64 a0x1, .int .i64 a0x2, .int .i64 a0x3] := list_is l0 rfl (by intro i hi; match i, hi with | 0, _ => exact e0x0 | 1, _ => exact e0x1 | 2, _ => exact e0x2 | 3, _ => exact e0x3)
  have k1 := h1
  have lt1 : ∀ x ∈ p1, x.block < W.heap.size := by obtain ⟨m, hm⟩ := k1; exact DataW.trod_lt m _ _ _ hm
  obtain ⟨cs1, rfl, l1, L1⟩ := flat_of (n := 2) (ls := [(0, .inl .i64), (1, .inl .i64)]) (by kernel_rfl) (by kernel_rfl) (agg_of_array Try.underlying24 (hval 1 24 v1 rfl rfl)) h1
  obtain ⟨a1x0, e1x0, w1x0⟩ := leaf_int (L1 (0, .inl .i64) (by simp))
  obtain ⟨a1x1, e1x1, w1x1⟩ := leaf_int (L1 (1, .inl .i64) (by simp))
  obtain rfl : cs1 = [.int .i64 a1x0, .int .i64 a1x1] := list_is l1 rfl (by intro i hi; match i, hi with | 0, _ => exact e1x0 | 1, _ => exact e1x1)
  have k2 := h2
  have lt2 : ∀ x ∈ p2, x.block < W.heap.size := by obtain ⟨m, hm⟩ := k2; exact DataW.trod_lt m _ _ _ hm
  obtain ⟨cs2, rfl, l2, L2⟩ := flat_of (n := 2) (ls := [(0, .inl .i64), (1, .inl .i64)]) (by kernel_rfl) (by kernel_rfl) (agg_of_array Try.underlying24 (hval 2 24 v2 rfl rfl)) h2
  obtain ⟨a2x0, e2x0, w2x0⟩ := leaf_int (L2 (0, .inl .i64) (by simp))
  obtain ⟨a2x1, e2x1, w2x1⟩ := leaf_int (L2 (1, .inl .i64) (by simp))
  obtain rfl : cs2 = [.int .i64 a2x0, .int .i64 a2x1] := list_is l2 rfl (by intro i hi; match i, hi with | 0, _ => exact e2x0 | 1, _ => exact e2x1)
  clear hA0 hval0
  refine (walk a0x0 a0x1 a0x2 a0x3 a1x0 a1x1 a2x0 a2x1 W w0x0 w0x1 w0x2 w0x3 w1x0 w1x1 w2x0 w2x1).mono fun e W' ⟨he, bel⟩ => ?_
  subst he
  exact ⟨_, rfl, _, _, _, [], _, [], hW', trodAll_mk1 (shut_bool Try.underlying4 _), (trodAll_cons_mk (Below.trod laidOut (by kernel_rfl) (of_decide_eq_true (by kernel_rfl)) k0 bel lt0) (trodAll_cons_mk (Below.trod laidOut (by kernel_rfl) (of_decide_eq_true (by kernel_rfl)) k1 bel lt1) (trodAll_cons_mk (Below.trod laidOut (by kernel_rfl) (of_decide_eq_true (by kernel_rfl)) k2 bel lt2) trodAll_mk0))), rfl, bel.frame _, fun h => by cases h⟩

theorem over : Rows.alphaTakesRow.holds Try.pinned (OpenSpec.ofChange Rows.alphaTakesSpec) :=
  OpenClaim.holds_of_wide 3 Try.f3 rfl rfl rfl rfl rfl rfl rfl ⟨rfl, rfl, rfl, rfl, rfl⟩ rfl rfl rfl rfl rfl (by kernel_rfl) Try.func3 (by kernel_rfl)
    (of_decide_eq_true (by kernel_rfl)) (by unfold Func.isWrapper; first | (rw [if_pos (by decide +kernel)]; kernel_rfl) | (rw [if_neg (by decide +kernel)]; exact ⟨rfl, rfl⟩))
    (fun os started H enc _ => lifted os started H enc)
end alphaTakes
theorem alphaTakes_holds : Rows.AlphaTakesSaid := alphaTakes.over
end Go.Proofs.Ytpeckopgmdgnnaa
