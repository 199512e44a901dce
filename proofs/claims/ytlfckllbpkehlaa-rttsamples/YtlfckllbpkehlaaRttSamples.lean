/- For every estimate, every sample and every list of samples: rtt.Sample, rtt.Smooth and rtt.Vary answer as the document's own do, and rtt.All of the first thirty samples of the list is what the document's Sample makes of them one by one; and the chapter's example holds: RttSamples returns true and changes nothing that was there. No conditions. -/
import Derived.Test.YtlfckllbpkehlaaKit
import Derived.Test.YtlfckllbpkehlaaRttE
import Derived.Test.YtlfckllbpkehlaaQuiB
import Derived.Test.YtlfckllbpkehlaaLsA
namespace Go.Proofs.Ytlfckllbpkehlaa
namespace rttSamples
open Go.ChangeShapes Go.WideShapes Go.ChangeAt Go.RowKit
open Go.ChangeMaps (open_string shut_string)
set_option linter.unusedVariables false

/-- The estimate that came in, and the one that is wanted. -/
structure WtAt (w wr : World) (gw : Nat) (c d : Rtx) : Prop where
  cur : Blk wr w.heap.size (rtV c) 23
  want : Blk wr gw (rtV d) 23
  far : w.heap.size < gw
  low : Below w.heap.size w wr
theorem WtAt.kept {w wr w1 : World} {gw : Nat} {c d : Rtx} (h : WtAt w wr gw c d) (B : Below wr.heap.size wr w1) : WtAt w w1 gw c d := ⟨h.cur.kept B, h.want.kept B, h.far, new_then h.low B⟩
theorem WtAt.set {w wr : World} {gw : Nat} {c d : Rtx} (h : WtAt w wr gw c d) (x : Rtx) : WtAt w (((wr.setCell ⟨gw, 0, none⟩ (.int .i64 x.a)).setCell ⟨gw, 1, none⟩ (.int .i64 x.v)).setCell ⟨gw, 2, none⟩ (.bool x.s)) gw c x :=
  ⟨far3 h.cur (by have := h.far; omega) _ _ _, rt_set h.want x, h.far, lowR3 h.low (Nat.le_of_lt h.far) _ _ _⟩
def SmpI (w : World) (gw : Nat) (c : Rtx) (ks : List Int) (N gh : Nat) (vi : Value) (wr : World) : Prop := ∃ i : Nat, vi = .int .i64 (i : Int) ∧ N - i = gh ∧ i ≤ N ∧ WtAt w wr gw c (rtAll c (ks.take i))
theorem own : ownKnob Try.prog.godebug = none := by kernel_rfl
theorem laidOut : laidOutB Try.prog = true := by kernel_rfl

set_option maxHeartbeats 4000000 in
set_option maxRecDepth 100000 in
theorem walk (a0x0 : Int) (a0x1 : Int) (a0x2 : Bool) (a1 : Int) (a2 : Option Addr) (len2 cap2 : Nat) (z2 : List Int) (w : World) (w0x0 : (Lit.int .i64 a0x0).wf = true) (w0x1 : (Lit.int .i64 a0x1).wf = true) (w1 : (Lit.int .i64 a1).wf = true) (w2 : IsRow .i64 w a2 len2 cap2 z2) :
    Calls Try.prog 3 #[.agg #[.int .i64 a0x0, .int .i64 a0x1, .bool a0x2], .int .i64 a1, .slice a2 len2 cap2] w fun e w' => e = .returned (.bool true) ∧ Below w.heap.size w w' := by
  obtain ⟨c, hcc⟩ : ∃ c : Rtx, c = ⟨a0x0, a0x1, a0x2⟩ := ⟨_, rfl⟩
  obtain rfl : a0x0 = c.a := by rw [hcc]
  obtain rfl : a0x1 = c.v := by rw [hcc]
  obtain rfl : a0x2 = c.s := by rw [hcc]
  have hc1 := row_len w2
  have hc2 := (row_low w2).2
  unfold maxLen at hc2
  obtain ⟨N, hn⟩ : ∃ n, n = min len2 30 := ⟨_, rfl⟩
  have hn1 : N ≤ len2 := by omega
  have hn2 : N ≤ 30 := by omega
  have HW := Lib.hid w2
  have HN := Lib.hid hn
  clear hcc w0x0 w0x1 w1 w2 hn
  have B0 := Lib.hid (Blk.new w (rtV c) 23)
  have L0 := Lib.hid (new_alloc (new_refl w) (.cells #[.int .i64 c.a, .int .i64 c.v, .bool c.s] 23))
  go_enter Try.func3, Try.ntmps3
  go_upto_region 1 with (fail)
  go_cut [2] (fun v wx => v = .slice a2 N cap2 ∧ wx = w.alloc (.cells #[.int .i64 c.a, .int .i64 c.v, .bool c.s] 23))
  case first =>
    by_cases h40 : len2 ≤ 30
    · obtain rfl : len2 = N := by have := HN.out; omega
      have k1 : (len2 : Int) ≤ 30 := by omega
      have k2 : (0 : Int) ≤ (len2 : Int) := by omega
      have k3 : (len2 : Int) ≤ (cap2 : Int) := by omega
      go_wp2_with fail
      go_meet
      case rel => exact ⟨rfl, rfl⟩
    · obtain rfl : N = 30 := by have := HN.out; omega
      have k1 : (30 : Int) < (len2 : Int) := by omega
      have k3 : (30 : Int) ≤ (cap2 : Int) := by omega
      go_wp2_with fail
      go_meet
      case rel => exact ⟨rfl, rfl⟩
  case rest =>
    obtain ⟨rfl, rfl⟩ := hcut
    obtain ⟨g, hls⟩ := row_ls HW.out N hn1
    have hl := row_take HW.out N hn1
    generalize z2.take N = ks at hls hl
    have HL := Lib.hid hls
    have HQ := Lib.hid hl
    clear hls hl HW HN
    have c0 := B0.out.cell 0 rfl
    have c1 := B0.out.cell 1 rfl
    have c2 := B0.out.cell 2 rfl
    have SA : Hid (∀ w, Calls Try.prog 8 #[.agg #[.int .i64 c.a, .int .i64 c.v, .bool c.s], .int .i64 a1] w fun e w' => e = .returned (.agg #[.int .i64 (rtSam c a1).a, .int .i64 (rtSam c a1).v, .bool (rtSam c a1).s]) ∧ Below w.heap.size w w') := Lib.hid (fun w => sample20_any c a1 w)
    have RA : Hid (∀ w, Calls Try.prog 7 #[.agg #[.int .i64 c.a, .int .i64 c.v, .bool c.s], .int .i64 a1] w fun e w' => e = .returned (.agg #[.int .i64 (rtSam c a1).a, .int .i64 (rtSam c a1).v, .bool (rtSam c a1).s]) ∧ Below w.heap.size w w') := Lib.hid (fun w => refSample20_any c a1 w)
    have SM : Hid (∀ w, Calls Try.prog 9 #[.agg #[.int .i64 c.a, .int .i64 c.v, .bool c.s]] w fun e w' => e = .returned (.int .i64 (rtSm c)) ∧ Below w.heap.size w w') := Lib.hid (fun w => smooth20_any c w)
    have VA : Hid (∀ w, Calls Try.prog 11 #[.agg #[.int .i64 c.a, .int .i64 c.v, .bool c.s]] w fun e w' => e = .returned (.int .i64 (rtVa c)) ∧ Below w.heap.size w w') := Lib.hid (fun w => vary20_any c w)
    have WI : Hid (∀ w, Calls Try.prog 10 #[.agg #[.int .i64 c.a, .int .i64 c.v, .bool c.s]] w fun e w' => e = .returned (.agg #[.int .i64 (rtIn c.a), .int .i64 (rtIn c.v), .bool c.s]) ∧ Below w.heap.size w w') := Lib.hid (fun w => within20_any c w)
    have hf0 : ∀ w : World, (Instr.field 23 (.agg #[.int .i64 (rtIn c.a), .int .i64 (rtIn c.v), .bool c.s]) 0).run Try.prog w = .ok (.int .i64 (rtIn c.a)) w := fun _ => by kernel_rfl
    have hf1 : ∀ w : World, (Instr.field 23 (.agg #[.int .i64 (rtIn c.a), .int .i64 (rtIn c.v), .bool c.s]) 1).run Try.prog w = .ok (.int .i64 (rtIn c.v)) w := fun _ => by kernel_rfl
    have iA := rtIn_bd c.a
    have iV := rtIn_bd c.v
    have q1 : (rtIn c.a).tdiv 8 = rtSm c := by rw [Int.tdiv_eq_ediv_of_nonneg iA.1]; rfl
    have q2 : (rtIn c.v).tdiv 4 = rtVa c := by rw [Int.tdiv_eq_ediv_of_nonneg iV.1]; rfl
    have q3 : rtIn c.a / 8 = rtSm c := rfl
    have q4 : rtIn c.v / 4 = rtVa c := rfl
    have NE := neqR (rtSam c a1)
    unfold rtG at NE
    generalize rtSm c = S1 at *
    generalize rtVa c = V1 at *
    generalize rtIn c.a = A at *
    generalize rtIn c.v = V at *
    generalize rtSam c a1 = d at *
    go_upto_region 3 with (go_at_call 7; refine (RA.out _).mono ?_; rintro e w1 ⟨rfl, B1⟩)
    clear c0 c1 c2
    have LT : w.heap.size < w1.heap.size := by have := B1.size; simp at this; omega
    have H := Lib.hid (⟨(B0.out.kept B1).alloc _, Blk.new w1 (rtV d) _, LT, new_alloc (new_then L0.out B1) _⟩ : WtAt w (w1.alloc (.cells #[.int .i64 d.a, .int .i64 d.v, .bool d.s] 23)) w1.heap.size c d)
    generalize w1.alloc (.cells #[.int .i64 d.a, .int .i64 d.v, .bool d.s] 23) = W at *
    generalize w1.heap.size = gw at *
    clear B1 RA
    have p0 := cell_by (H.out.cur.cell 0 rfl)
    have p1 := cell_by (H.out.cur.cell 1 rfl)
    have p2 := cell_by (H.out.cur.cell 2 rfl)
    have p3 := cell_by (H.out.want.cell 0 rfl)
    have p4 := cell_by (H.out.want.cell 1 rfl)
    have p5 := cell_by (H.out.want.cell 2 rfl)
    refine wp_region_quiet_below (by kernel_rfl) (by kernel_rfl) ?_
    repeat (go_big_quiet_step (first
      | (go_at_call 8; refine calls_by (SA.out _))
      | (go_at_call 9; refine calls_by (SM.out _))
      | (go_at_call 11; refine calls_by (VA.out _))
      | (go_at_call 10; refine calls_by (WI.out _))))
    refine wpQuiet_nil ?_
    intro _ hw'
    obtain ⟨⟨wq, Bq⟩, hw''⟩ := hw'
    subst hw''
    clear p0 p1 p2 p3 p4 p5 hf0 hf1 q1 q2 q3 q4 NE SA SM VA WI
    have H2 := H.out.kept Bq
    have c0 := H2.cur.cell 0 rfl; have c1 := H2.cur.cell 1 rfl; have c2 := H2.cur.cell 2 rfl; have d0 := H2.want.cell 0 rfl; have d1 := H2.want.cell 1 rfl; have d2 := H2.want.cell 2 rfl; have f0 := H2.want.frozen 0; have f1 := H2.want.frozen 1; have f2 := H2.want.frozen 2
    have H3 := Lib.hid (H2.set c)
    clear H2 H
    go_wp2_with fail
    go_loopg [44] N (fun gh vi wr => SmpI w gw c ks N gh vi wr)
    case atStart => exact ⟨0, rfl, rfl, by omega, by rw [rtAll_nil]; exact H3.out⟩
    case round =>
      clear H3 c0 c1 c2 d0 d1 d2 f0 f1 f2
      obtain ⟨i, rfl, rfl, hi, C⟩ := hrel
      have HC := Lib.hid C
      by_cases hlt : i < N
      · have k0 : (0 : Int) ≤ (i : Int) := by omega
        have k1 : (i : Int) < (N : Int) := by omega
        have LS := HL.out.kept C.low
        rcases LS with rfl | ⟨off, rfl, hc⟩
        · have := HQ.out; simp at this; omega
        have z0 := hc i (by have := HQ.out; omega)
        have HS := Lib.hid (rtAll_snoc c ks (i := i) (by have := HQ.out; omega))
        clear C hc
        generalize rtAll c (ks.take i) = e at *
        generalize ks[i]?.getD 0 = k at *
        have d0 := HC.out.want.cell 0 rfl; have d1 := HC.out.want.cell 1 rfl; have d2 := HC.out.want.cell 2 rfl
        go_wp2_with (first
          | (go_at_call 7; refine (refSample20_any e k _).mono ?_; rintro e w5 ⟨rfl, B5⟩
             have K := HC.out.kept B5
             have D := K.set (rtSam e k)
             have e0 := K.want.cell 0 rfl; have e1 := K.want.cell 1 rfl; have e2 := K.want.cell 2 rfl; have f0 := K.want.frozen 0; have f1 := K.want.frozen 1; have f2 := K.want.frozen 2))
        go_roundg (N - (i + 1))
        case measure => omega
        case rel => exact ⟨i + 1, by go_num, rfl, by omega, by rw [HS.out]; exact D⟩
      · obtain rfl : i = N := by omega
        rw [show ks.take i = ks from by rw [← HQ.out]; exact List.take_length] at *
        have AL : Hid (∀ w' g, LsK .i64 w' g a2 ks → Calls Try.prog 12 #[.agg #[.int .i64 c.a, .int .i64 c.v, .bool c.s], .slice a2 i cap2] w' fun e w'' => e = .returned (.agg #[.int .i64 (rtAll c ks).a, .int .i64 (rtAll c ks).v, .bool (rtAll c ks).s]) ∧ Below w'.heap.size w' w'') := Lib.hid (fun w' g h => all20_any c g i cap2 a2 ks w' h HQ.out (by omega))
        have EQ := eqlR (rtAll c ks)
        unfold rtG at EQ
        clear C
        generalize rtAll c ks = d at *
        go_upto_region 11 with fail
        have p0 := cell_by (HC.out.cur.cell 0 rfl)
        have p1 := cell_by (HC.out.cur.cell 1 rfl)
        have p2 := cell_by (HC.out.cur.cell 2 rfl)
        have p3 := cell_by (HC.out.want.cell 0 rfl)
        have p4 := cell_by (HC.out.want.cell 1 rfl)
        have p5 := cell_by (HC.out.want.cell 2 rfl)
        refine wp_region_quiet_below (by kernel_rfl) (by kernel_rfl) ?_
        repeat (go_big_quiet_step (first
          | (go_at_call 12; refine calls_by (AL.out _ g ?_); exact (HL.out.kept HC.out.low).kept (BelowBy.low _))
          | (go_at_call 13; refine calls_by (works20_any _))))
        refine wpQuiet_nil ?_
        intro _ hw'
        obtain ⟨⟨wq2, Bq2⟩, hw''⟩ := hw'
        subst hw''
        clear p0 p1 p2 p3 p4 p5 EQ
        go_wp2_with fail
        go_ret
        exact ⟨rfl, new_then HC.out.low Bq2⟩

set_option maxRecDepth 100000 in
theorem lifted (os : Os) (started : os.Started) (H : Type) (enc : TypeId × Value → H) :
    ReturnsInHanded {} Try.checked os 3 .any (Rows.rttSamplesSpec.pre6 enc Try.prog Try.f3 Rows.rttSamplesRow.domain false) (Rows.rttSamplesSpec.post enc Try.prog Try.f3 false true false false) := by
  refine returnsInHanded_of_change (C := Try.checked) own started (by kernel_rfl) Try.func3
    (ChangeSpec.witness6 (enc := enc) (C := Try.checked) false ⟨#[], #[.agg #[.int .i64 0, .int .i64 0, .bool false], .int .i64 0, .slice none 0 0], []⟩ 8 (by kernel_rfl) (by kernel_rfl) (by kernel_rfl) (by kernel_rfl)) ?_
  intro W base args ds gs before hval0 hW hcnd _
  have hval : ∀ (j : Nat) t v, Try.f3.params[j]? = some t → args[j]? = some v → Value.okWide Try.prog W .any base t v := hval0
  have hW' := hW
  obtain ⟨p, q, hA0, hV, rfl, hfz, hnd⟩ := hW
  have hA : DataW.TrodAll enc Try.prog W 0 (fun _ => true) true Try.f3.params.toList args.toList ds p := hA0
  rw [Try.params3] at hA hval
  obtain ⟨v0, vs0, d0, ds0, p0, q0, hargs, rfl, rfl, h0, r0⟩ := trodAll_cons hA
  obtain ⟨v1, vs1, d1, ds1, p1, q1, rfl, rfl, rfl, h1, r1⟩ := trodAll_cons r0
  obtain ⟨v2, vs2, d2, ds2, p2, q2, rfl, rfl, rfl, h2, r2⟩ := trodAll_cons r1
  obtain ⟨rfl, rfl, rfl⟩ := trodAll_nil r2
  obtain rfl : args = #[v0, v1, v2] := by cases args; simp_all
  obtain ⟨rfl, rfl⟩ := trodVars_none hV
  have k0 := h0
  have lt0 : ∀ x ∈ p0, x.block < W.heap.size := by obtain ⟨m, hm⟩ := k0; exact DataW.trod_lt m _ _ _ hm
  obtain ⟨cs0, rfl, l0, L0⟩ := flat_of (n := 3) (ls := [(0, .inl .i64), (1, .inl .i64), (2, .inr false)]) (by kernel_rfl) (by kernel_rfl) (agg_of_struct Try.underlying23 (hval 0 23 v0 rfl rfl)) h0
  obtain ⟨a0x0, e0x0, w0x0⟩ := leaf_int (L0 (0, .inl .i64) (by simp))
  obtain ⟨a0x1, e0x1, w0x1⟩ := leaf_int (L0 (1, .inl .i64) (by simp))
  obtain ⟨a0x2, e0x2⟩ := leaf_bool (L0 (2, .inr false) (by simp))
  obtain rfl : cs0 = [.int .i64 a0x0, .int .i64 a0x1, .bool a0x2] := list_is l0 rfl (by intro i hi; match i, hi with | 0, _ => exact e0x0 | 1, _ => exact e0x1 | 2, _ => exact e0x2)
  have k1 := h1
  have lt1 : ∀ x ∈ p1, x.block < W.heap.size := by obtain ⟨m, hm⟩ := k1; exact DataW.trod_lt m _ _ _ hm
  obtain ⟨a1, rfl, _, _, w1⟩ := open_int Try.underlying2 (hval 1 2 v1 rfl rfl) h1
  have k2 := h2
  have lt2 : ∀ x ∈ p2, x.block < W.heap.size := by obtain ⟨m, hm⟩ := k2; exact DataW.trod_lt m _ _ _ hm
  obtain ⟨a2, len2, cap2, rfl⟩ := okWide_slice Try.underlying24 (hval 2 24 v2 rfl rfl)
  obtain ⟨z2, w2⟩ := isRow_of Try.underlying24 Try.underlying2 (by kernel_rfl) h2
  clear hA0 hval0
  refine (walk a0x0 a0x1 a0x2 a1 a2 len2 cap2 z2 W w0x0 w0x1 w1 w2).mono fun e W' ⟨he, bel⟩ => ?_
  subst he
  exact ⟨_, rfl, _, _, _, [], _, [], hW', trodAll_mk1 (shut_bool Try.underlying4 _), (trodAll_cons_mk (Below.trod laidOut (by kernel_rfl) (of_decide_eq_true (by kernel_rfl)) k0 bel lt0) (trodAll_cons_mk (Below.trod laidOut (by kernel_rfl) (of_decide_eq_true (by kernel_rfl)) k1 bel lt1) (trodAll_cons_mk (Below.trod laidOut (by kernel_rfl) (of_decide_eq_true (by kernel_rfl)) k2 bel lt2) trodAll_mk0))), rfl, bel.frame _, fun h => by cases h⟩

theorem over : Rows.rttSamplesRow.holds Try.pinned (OpenSpec.ofChange Rows.rttSamplesSpec) :=
  OpenClaim.holds_of_wide 3 Try.f3 rfl rfl rfl rfl rfl rfl rfl ⟨rfl, rfl, rfl, rfl, rfl⟩ rfl rfl rfl rfl rfl (by kernel_rfl) Try.func3 (by kernel_rfl)
    (of_decide_eq_true (by kernel_rfl)) (by unfold Func.isWrapper; first | (rw [if_pos (by decide +kernel)]; kernel_rfl) | (rw [if_neg (by decide +kernel)]; exact ⟨rfl, rfl⟩))
    (fun os started H enc _ => lifted os started H enc)
end rttSamples
theorem rttSamples_holds : Rows.RttSamplesSaid := rttSamples.over
end Go.Proofs.Ytlfckllbpkehlaa
