/- For every base, every most and every time of 32 bits: a timer that is armed then, and goes off at its own time again and again, forty times, does not go off a tick ahead of that, waits from its base to its most, never less long than before, and is due just that wait later; put off it does not go off; and the chapter's example holds: TimerBacks returns true and changes nothing that was there. No conditions. -/
import Derived.Test.YtgennncpdfjfcaaKit
import Derived.Test.YtgennncpdfjfcaaTmrD
namespace Go.Proofs.Ytgennncpdfjfcaa
namespace timerBacks
open Go.ChangeShapes Go.WideShapes Go.ChangeAt Go.RowKit
open Go.ChangeMaps (open_string shut_string)
set_option linter.unusedVariables false

/-- A timer behind k goings off. -/
structure BkT (c : Tm) (k : Nat) : Prop where
  own : tmIn c = c
  low : 0 < c.d
  high : c.d ≤ 4294967296 + ((k : Int) + 1) * 1125899906842624
theorem bkT_start (b m n : Int) (h : 0 ≤ n ∧ n ≤ 4294967295) : BkT (tmArm ⟨b, m, 0, 0⟩ n) 0 := by
  have i := tmIn_in ⟨b, m, 0, 0⟩
  have bW := tmW_bd ⟨b, m, 0, 0⟩
  have bM := tmM_bd ⟨b, m, 0, 0⟩
  have bB := tmB_bd ⟨b, m, 0, 0⟩
  have en : tmNow n = n := clampI_in (by omega) (by omega)
  refine ⟨?_, ?_, ?_⟩
  · unfold tmArm
    exact congr (congr (congr (congrArg Tm.mk (congrArg Tm.b i)) (congrArg Tm.m i)) (congrArg Tm.t i)) rfl
  · show 0 < tmNow n + tmW _; omega
  · show tmNow n + tmW _ ≤ _; omega
theorem bkT_d {c : Tm} {k : Nat} (h : BkT c k) (hk : k < 41) : 0 < c.d ∧ c.d ≤ 1152921504606846976 := by have := h.low; have := h.high; omega
theorem bkT_next {c : Tm} {k : Nat} (h : BkT c k) (hk : k < 40) : BkT (tmFire c c.d) (k + 1) := by
  obtain ⟨d1, d2⟩ := bkT_d h (by omega)
  obtain ⟨_, e, _, i⟩ := tmFire_own h.own ⟨by omega, d2⟩
  have bW := tmW_bd (tmFire c c.d)
  have bM := tmM_bd (tmFire c c.d)
  have bB := tmB_bd (tmFire c c.d)
  have ed : (tmFire c c.d).d = c.d + tmW (tmFire c c.d) := (congrArg Tm.d e).trans rfl
  have hh := h.high
  refine ⟨i, by omega, ?_⟩
  rw [ed]
  have : ((k + 1 : Nat) : Int) = (k : Int) + 1 := by omega
  rw [this]; omega
def BksI (w : World) (G : Nat) (gh : Nat) (vi : Value) (wr : World) : Prop :=
  ∃ (k : Nat) (c : Tm), vi = .int .i64 (k : Int) ∧ 40 - k = gh ∧ k ≤ 40 ∧ BkT c k ∧ Blk wr G (tmV c) 23 ∧ Below w.heap.size w wr
theorem own : ownKnob Try.prog.godebug = none := by kernel_rfl
theorem laidOut : laidOutB Try.prog = true := by kernel_rfl

set_option maxHeartbeats 4000000 in
set_option maxRecDepth 100000 in
theorem walk (a0 : Int) (a1 : Int) (a2 : Int) (w : World) (w0 : (Lit.int .i64 a0).wf = true) (w1 : (Lit.int .i64 a1).wf = true) (w2 : (Lit.int .u32 a2).wf = true) :
    Calls Try.prog 5 #[.int .i64 a0, .int .i64 a1, .int .u32 a2] w fun e w' => e = .returned (.bool true) ∧ Below w.heap.size w w' := by
  have b2 := bounds_u32 w2
  have HB := Lib.hid (bkT_start a0 a1 a2 (by omega))
  have AR : Hid (∀ w, Calls Try.prog 9 #[.agg #[.int .i64 a0, .int .i64 a1, .int .i64 0, .int .i64 0], .int .i64 a2] w fun e w' => e = .returned (tmG (tmArm ⟨a0, a1, 0, 0⟩ a2)) ∧ Below w.heap.size w w') := Lib.hid (fun w => arm22_any ⟨a0, a1, 0, 0⟩ a2 w)
  clear w0 w1 w2
  generalize tmArm ⟨a0, a1, 0, 0⟩ a2 = c at *
  go_enter Try.func5, Try.ntmps5
  go_wp2_with (go_at_call 9; refine (AR.out _).mono ?_; rintro e w1 ⟨rfl, B1⟩)
  have S : Hid (BksI w w1.heap.size 40 (.int .i64 0) (w1.alloc (.cells #[.int .i64 c.b, .int .i64 c.m, .int .i64 c.t, .int .i64 c.d] 23))) := Lib.hid ⟨0, c, rfl, rfl, by omega, HB.out, Blk.new w1 (tmV c) _, new_alloc B1 _⟩
  have hG : w.heap.size ≤ w1.heap.size := B1.size
  obtain ⟨G, eG⟩ : ∃ G, w1.heap.size = G := ⟨_, rfl⟩
  rw [eG] at hG S ⊢
  clear AR HB B1 eG b2
  go_loopg [21] 40 (fun gh vi wr => BksI w G gh vi wr)
  case atStart => exact S.out
  case round =>
    clear S
    obtain ⟨k, c, rfl, rfl, hk, HS, C, L0⟩ := hrel
    have HC := Lib.hid C
    have L := Lib.hid L0
    have HI := Lib.hid HS
    clear HS
    by_cases hlt : k < 40
    · have k1 : (k : Int) < 40 := by omega
      have bd := bkT_d HI.out (by omega)
      have NX := Lib.hid (bkT_next HI.out hlt)
      have O := tmFire_own HI.out.own ⟨by omega, bd.2⟩
      have fb : tmB c = c.b := congrArg Tm.b HI.out.own
      have fm : tmM c = c.m := congrArg Tm.m HI.out.own
      have bW := tmW_bd c
      have WA : Hid (∀ w, Calls Try.prog 7 #[.agg #[.int .i64 c.b, .int .i64 c.m, .int .i64 c.t, .int .i64 c.d]] w fun e w' => e = .returned (.int .i64 (tmW c)) ∧ Below w.heap.size w w') := Lib.hid (fun w => wait22_any c w)
      have WD : Hid (∀ w, Calls Try.prog 7 #[.agg #[.int .i64 (tmFire c c.d).b, .int .i64 (tmFire c c.d).m, .int .i64 (tmFire c c.d).t, .int .i64 (tmFire c c.d).d]] w fun e w' => e = .returned (.int .i64 (tmW (tmFire c c.d))) ∧ Below w.heap.size w w') := Lib.hid (fun w => wait22_any (tmFire c c.d) w)
      have FO : Hid (∀ w, Calls Try.prog 14 #[.agg #[.int .i64 c.b, .int .i64 c.m, .int .i64 c.t, .int .i64 c.d], .int .i64 c.d] w fun e w' => e = .returned (.tuple #[tmG (tmFire c c.d), .bool true]) ∧ Below w.heap.size w w') := Lib.hid (fun w => by
        have h := fire22_any c c.d w
        rw [O.1] at h
        exact h)
      have FE : Hid (∀ w, Calls Try.prog 14 #[.agg #[.int .i64 c.b, .int .i64 c.m, .int .i64 c.t, .int .i64 c.d], .int .i64 (c.d - 1)] w fun e w' => e = .returned (.tuple #[tmG (tmFire c (c.d - 1)), .bool false]) ∧ Below w.heap.size w w') := Lib.hid (fun w => by
        have h := fire22_any c (c.d - 1) w
        rw [tmGoes_early bd] at h
        exact h)
      have ed : (tmFire c c.d).d = c.d + tmW (tmFire c c.d) := (congrArg Tm.d O.2.1).trans rfl
      have o3 := O.2.2.1
      clear O
      have bY := tmW_bd (tmFire c c.d)
      have bYM := tmM_bd (tmFire c c.d)
      have bYB := tmB_bd (tmFire c c.d)
      rw [fb, fm] at bW
      have x1 : ¬ tmW c < c.b := by omega
      have x2 : ¬ c.m < tmW c := by omega
      have x3 : decide (tmW c < c.b) = false := by simpa using x1
      have x4 : decide (c.m < tmW c) = false := by simpa using x2
      have y1 : decide (tmW (tmFire c c.d) < tmW c) = false := by simpa using o3
      have y2 : IntKind.i64.wrap (tmW (tmFire c c.d)) = tmW (tmFire c c.d) := by rw [IntKind.wrap_i64]; omega
      have y3 : (tmFire c c.d).d - c.d = tmW (tmFire c c.d) := by omega
      have y4 : ¬ tmW (tmFire c c.d) < tmW c := by omega
      have z1 : -9223372036854775808 ≤ c.d - 1 ∧ c.d - 1 ≤ 9223372036854775807 := by omega
      clear fb fm bY bYM bYB ed
      generalize tmW (tmFire c c.d) = Y at *
      generalize tmFire c c.d = D at *
      generalize tmFire c (c.d - 1) = E at *
      generalize tmW c = X at *
      unfold tmG at *
      have c0 := C.cell 0 rfl; have c1 := C.cell 1 rfl; have c2 := C.cell 2 rfl; have c3 := C.cell 3 rfl; have f0 := C.frozen 0; have f1 := C.frozen 1; have f2 := C.frozen 2; have f3 := C.frozen 3
      go_upto_region 11 with (first
        | (go_at_call 7; refine (WA.out _).mono ?_; rintro e w1 ⟨rfl, B1⟩
           have K1 := HC.out.kept B1
           have d0 := K1.cell 0 rfl; have d1 := K1.cell 1 rfl; have d2 := K1.cell 2 rfl; have d3 := K1.cell 3 rfl)
        | (go_at_call 14; have h := K2; clear h; refine (FO.out _).mono ?_; rintro e w3 ⟨rfl, B3⟩
           have K3 := (K2.kept B3).alloc (.cells #[.int .i64 D.b, .int .i64 D.m, .int .i64 D.t, .int .i64 D.d] 23)
           have N3 := Blk.new w3 (tmV D) 23
           have LB := new_alloc (new_then (new_alloc (new_then (new_then L.out B1) B2) (.cells #[.int .i64 E.b, .int .i64 E.m, .int .i64 E.t, .int .i64 E.d] 23)) B3) (.cells #[.int .i64 D.b, .int .i64 D.m, .int .i64 D.t, .int .i64 D.d] 23))
        | (go_at_call 14; refine (FE.out _).mono ?_; rintro e w2 ⟨rfl, B2⟩
           have K2 := (K1.kept B2).alloc (.cells #[.int .i64 E.b, .int .i64 E.m, .int .i64 E.t, .int .i64 E.d] 23)
           have e0 := K2.cell 0 rfl; have e1 := K2.cell 1 rfl; have e2 := K2.cell 2 rfl; have e3 := K2.cell 3 rfl))
      have HK := Lib.hid K3
      have HN := Lib.hid N3
      have HL := Lib.hid LB
      clear d0 d1 d2 d3 e0 e1 e2 e3 c0 c1 c2 c3 f0 f1 f2 f3 C K1 K2 K3 N3 LB B1 B2 B3 HC WA FO FE
      obtain ⟨W, hW⟩ : ∃ W, w3.alloc (.cells #[.int .i64 D.b, .int .i64 D.m, .int .i64 D.t, .int .i64 D.d] 23) = W := ⟨_, rfl⟩
      replace HK : Hid (Blk W G (tmV c) 23) := Lib.hid (by rw [← hW]; exact HK.out)
      replace HN : Hid (Blk W w3.heap.size (tmV D) 23) := Lib.hid (by rw [← hW]; exact HN.out)
      replace HL : Hid (Below w.heap.size w W) := Lib.hid (by rw [← hW]; exact HL.out)
      rw [hW]
      clear hW
      obtain ⟨g2, hg2⟩ : ∃ g2, w3.heap.size = g2 := ⟨_, rfl⟩
      rw [hg2] at HN ⊢
      clear hg2
      have p3 := cell_by (HK.out.cell 3 rfl)
      have q0 := cell_by (HN.out.cell 0 rfl)
      have q1 := cell_by (HN.out.cell 1 rfl)
      have q2 := cell_by (HN.out.cell 2 rfl)
      have q3 := cell_by (HN.out.cell 3 rfl)
      refine wp_region_quiet_below (by kernel_rfl) (by kernel_rfl) ?_
      repeat (go_big_quiet_step (first
        | (go_at_call 7; refine calls_by (WD.out _))))
      refine wpQuiet_nil ?_
      intro wq hw'
      obtain ⟨⟨wr2, Bq⟩, hw''⟩ := hw'
      subst hw''
      clear p3 q0 q1 q2 q3 WD
      have K := HK.out.kept Bq
      have N := HN.out.kept Bq
      have NT := Lib.hid (tm_set K D)
      have NL := Lib.hid (lowT4 (new_then HL.out Bq) hG (.int .i64 D.b) (.int .i64 D.m) (.int .i64 D.t) (.int .i64 D.d))
      have m0 := N.cell 0 rfl; have m1 := N.cell 1 rfl; have m2 := N.cell 2 rfl; have m3 := N.cell 3 rfl; have c0 := K.cell 0 rfl; have c1 := K.cell 1 rfl; have c2 := K.cell 2 rfl; have c3 := K.cell 3 rfl; have f0 := K.frozen 0; have f1 := K.frozen 1; have f2 := K.frozen 2; have f3 := K.frozen 3
      clear K N HK HN HL Bq
      go_wp2_with fail
      go_roundg (40 - (k + 1))
      case measure => omega
      case rel => exact ⟨k + 1, D, by go_num, rfl, by omega, NX.out, NT.out, NL.out⟩
    · obtain rfl : k = 40 := by omega
      have OF : Hid (∀ w, Calls Try.prog 11 #[.agg #[.int .i64 c.b, .int .i64 c.m, .int .i64 c.t, .int .i64 c.d]] w fun e w' => e = .returned (.agg #[.int .i64 (tmB c), .int .i64 (tmM c), .int .i64 (tmT c), .int .i64 (-1)]) ∧ Below w.heap.size w w') := Lib.hid (fun w => off22_any c w)
      have FE : Hid (∀ w, Calls Try.prog 14 #[.agg #[.int .i64 (tmB c), .int .i64 (tmM c), .int .i64 (tmT c), .int .i64 (-1)], .int .i64 1152921504606846976] w fun e w' => e = .returned (.tuple #[tmG (tmFire ⟨tmB c, tmM c, tmT c, -1⟩ 1152921504606846976), .bool false]) ∧ Below w.heap.size w w') := Lib.hid (fun w => by
        have h := fire22_any ⟨tmB c, tmM c, tmT c, -1⟩ 1152921504606846976 w
        rw [show tmGoes ⟨tmB c, tmM c, tmT c, -1⟩ 1152921504606846976 = false by unfold tmGoes; simp] at h
        exact h)
      generalize tmFire ⟨tmB c, tmM c, tmT c, -1⟩ 1152921504606846976 = E at *
      generalize tmB c = B at *
      generalize tmM c = M at *
      generalize tmT c = T at *
      unfold tmG at *
      have c0 := C.cell 0 rfl; have c1 := C.cell 1 rfl; have c2 := C.cell 2 rfl; have c3 := C.cell 3 rfl
      go_wp2_with (first
        | (go_at_call 11; refine (OF.out _).mono ?_; rintro e w1 ⟨rfl, B1⟩)
        | (go_at_call 14; refine (FE.out _).mono ?_; rintro e w2 ⟨rfl, B2⟩)
        | (go_at_call 13; refine (works22_any _).mono ?_; rintro e w3 ⟨rfl, B3⟩))
      go_ret
      exact ⟨rfl, new_then (new_alloc (new_then (new_then L.out B1) B2) _) B3⟩

set_option maxRecDepth 100000 in
theorem lifted (os : Os) (started : os.Started) (H : Type) (enc : TypeId × Value → H) :
    ReturnsInHanded {} Try.checked os 5 .any (Rows.timerBacksSpec.pre6 enc Try.prog Try.f5 Rows.timerBacksRow.domain false) (Rows.timerBacksSpec.post enc Try.prog Try.f5 false true false false) := by
  refine returnsInHanded_of_change (C := Try.checked) own started (by kernel_rfl) Try.func5
    (ChangeSpec.witness6 (enc := enc) (C := Try.checked) false ⟨#[], #[.int .i64 0, .int .i64 0, .int .u32 0], []⟩ 8 (by kernel_rfl) (by kernel_rfl) (by kernel_rfl) (by kernel_rfl)) ?_
  intro W base args ds gs before hval0 hW hcnd _
  have hval : ∀ (j : Nat) t v, Try.f5.params[j]? = some t → args[j]? = some v → Value.okWide Try.prog W .any base t v := hval0
  have hW' := hW
  obtain ⟨p, q, hA0, hV, rfl, hfz, hnd⟩ := hW
  have hA : DataW.TrodAll enc Try.prog W 0 (fun _ => true) true Try.f5.params.toList args.toList ds p := hA0
  rw [Try.params5] at hA hval
  obtain ⟨v0, vs0, d0, ds0, p0, q0, hargs, rfl, rfl, h0, r0⟩ := trodAll_cons hA
  obtain ⟨v1, vs1, d1, ds1, p1, q1, rfl, rfl, rfl, h1, r1⟩ := trodAll_cons r0
  obtain ⟨v2, vs2, d2, ds2, p2, q2, rfl, rfl, rfl, h2, r2⟩ := trodAll_cons r1
  obtain ⟨rfl, rfl, rfl⟩ := trodAll_nil r2
  obtain rfl : args = #[v0, v1, v2] := by cases args; simp_all
  obtain ⟨rfl, rfl⟩ := trodVars_none hV
  have k0 := h0
  have lt0 : ∀ x ∈ p0, x.block < W.heap.size := by obtain ⟨m, hm⟩ := k0; exact DataW.trod_lt m _ _ _ hm
  obtain ⟨a0, rfl, _, _, w0⟩ := open_int Try.underlying2 (hval 0 2 v0 rfl rfl) h0
  have k1 := h1
  have lt1 : ∀ x ∈ p1, x.block < W.heap.size := by obtain ⟨m, hm⟩ := k1; exact DataW.trod_lt m _ _ _ hm
  obtain ⟨a1, rfl, _, _, w1⟩ := open_int Try.underlying2 (hval 1 2 v1 rfl rfl) h1
  have k2 := h2
  have lt2 : ∀ x ∈ p2, x.block < W.heap.size := by obtain ⟨m, hm⟩ := k2; exact DataW.trod_lt m _ _ _ hm
  obtain ⟨a2, rfl, _, _, w2⟩ := open_int Try.underlying33 (hval 2 33 v2 rfl rfl) h2
  clear hA0 hval0
  refine (walk a0 a1 a2 W w0 w1 w2).mono fun e W' ⟨he, bel⟩ => ?_
  subst he
  exact ⟨_, rfl, _, _, _, [], _, [], hW', trodAll_mk1 (shut_bool Try.underlying4 _), (trodAll_cons_mk (Below.trod laidOut (by kernel_rfl) (of_decide_eq_true (by kernel_rfl)) k0 bel lt0) (trodAll_cons_mk (Below.trod laidOut (by kernel_rfl) (of_decide_eq_true (by kernel_rfl)) k1 bel lt1) (trodAll_cons_mk (Below.trod laidOut (by kernel_rfl) (of_decide_eq_true (by kernel_rfl)) k2 bel lt2) trodAll_mk0))), rfl, bel.frame _, fun h => by cases h⟩

theorem over : Rows.timerBacksRow.holds Try.pinned (OpenSpec.ofChange Rows.timerBacksSpec) :=
  OpenClaim.holds_of_wide 5 Try.f5 rfl rfl rfl rfl rfl rfl rfl ⟨rfl, rfl, rfl, rfl, rfl⟩ rfl rfl rfl rfl rfl (by kernel_rfl) Try.func5 (by kernel_rfl)
    (of_decide_eq_true (by kernel_rfl)) (by unfold Func.isWrapper; first | (rw [if_pos (by decide +kernel)]; kernel_rfl) | (rw [if_neg (by decide +kernel)]; exact ⟨rfl, rfl⟩))
    (fun os started H enc _ => lifted os started H enc)
end timerBacks
theorem timerBacks_holds : Rows.TimerBacksSaid := timerBacks.over
end Go.Proofs.Ytgennncpdfjfcaa
