/- For every two int64 and every list of acknowledgements, of its first sixty, one behind the other, the sender tells by how much its count rose and its error as the document's does, and knows the same count and the same bytes; the chapter's example holds: FeedbackTakes returns true and changes nothing that was there. No conditions. -/
import Derived.Test.YtfoonfmhamaclaaKit
import Derived.Test.YtfoonfmhamaclaaFbkT
namespace Go.Proofs.Ytfoonfmhamaclaa
namespace feedbackTakes
open Go.ChangeShapes Go.WideShapes Go.ChangeAt Go.RowKit
open Go.ChangeMaps (open_string shut_string)
set_option linter.unusedVariables false

def TkI (w : World) (b g len gh : Nat) (vi : Value) (wr : World) : Prop := ∃ (k : Nat) (s : Sn), vi = .int .i64 (k : Int) ∧ len - k = gh ∧ k ≤ len ∧ k ≤ 60 ∧ OkS k s ∧ TksAt w b g s wr
def TkE (w : World) (b g : Nat) (wr : World) : Prop := ∃ (s : Sn), TksAt w b g s wr
theorem own : ownKnob Try.prog.godebug = none := by kernel_rfl
theorem laidOut : laidOutB Try.prog = true := by kernel_rfl

set_option maxHeartbeats 4000000 in
set_option maxRecDepth 100000 in
theorem walk (a0 : Int) (a1 : Int) (a2 : Option Addr) (len2 cap2 : Nat) (w : World) (w0 : (Lit.int .i64 a0).wf = true) (w1 : (Lit.int .i64 a1).wf = true) (w2 : IsRows w a2 len2 cap2 6 [(0, .inl .i64), (1, .inl .u32), (2, .inl .u8), (3, .inl .i64), (4, .inl .i64), (5, .inl .i64)]) :
    Calls Try.prog 3 #[.int .i64 a0, .int .i64 a1, .slice a2 len2 cap2] w fun e w' => e = .returned (.bool true) ∧ Below w.heap.size w w' := by
  have b0 := bounds_i64 w0
  have b1 := bounds_i64 w1
  have HW := Lib.hid w2
  have K0 := Lib.hid (ok_start (stK a1) (mss := a0) (by unfold int64F; omega) (stK_bd a1))
  have N0 := Lib.hid (fun w => new19_any a0 a1 w)
  have R0 := Lib.hid (fun w => refNew19_any a0 a1 w)
  clear w0 w1 w2 b0 b1
  generalize stK a1 = m at *
  go_enter Try.func3, Try.ntmps3
  go_wp2_with (first
    | (go_at_call 6; refine (N0.out _).mono ?_; rintro e wa ⟨b, rfl, D1⟩)
    | (go_at_call 7; refine (R0.out _).mono ?_; rintro e wb ⟨rfl, B1⟩))
  have S0 := Lib.hid (TksAt.mk ((D1.kept B1).kept (new_alloc (new_refl _) (.cells #[.int .i64 a0, .int .i64 m, .int .i64 m, .int .i64 1, .int .i64 0, .int .i64 1, .int .u32 0, .bool false] 28))) (Blk.new wb (rfV ⟨0, 0, 0, a0, m, m, 1, 0, 1⟩) 28) (by have h1 := Blk.lt (D1.kept B1).snd; omega) (by have h1 := (D1.kept B1).low.size; omega))
  clear D1 B1
  generalize wb.heap.size = g at *
  go_loopg [24] len2 (fun gh vi wr => TkI w b g len2 gh vi wr)
  case atStart => exact ⟨0, _, rfl, rfl, by omega, by omega, K0.out, S0.out⟩
  case round =>
    clear S0 K0 N0 R0
    obtain ⟨k, s, rfl, rfl, hk, hk6, OK, D⟩ := hrel
    by_cases hlt : k < len2
    · have i0 : (0 : Int) ≤ (k : Int) := by omega
      have i1 : (k : Int) < (len2 : Int) := by omega
      obtain ⟨bl, off, rfl, hc⟩ := ak_at HW.out (by omega)
      obtain ⟨a, OA, e0, e1, e2, e3, e4, e5⟩ := hc k hlt
      replace e0 := cell_kept D.snd.low e0
      replace e1 := cell_kept D.snd.low e1
      replace e2 := cell_kept D.snd.low e2
      replace e3 := cell_kept D.snd.low e3
      replace e4 := cell_kept D.snd.low e4
      replace e5 := cell_kept D.snd.low e5
      have HOK := Lib.hid OK
      have HOA := Lib.hid OA
      have HD := Lib.hid D
      clear hc OK OA D
      by_cases h60 : k < 60
      · have i2 : (k : Int) < 60 := by omega
        have HA := Lib.hid (ak_new wr a)
        have HD1 := Lib.hid (HD.out.kept (new_alloc (new_refl wr) (.cells #[.int .i64 a.u, .int .u32 a.s, .int .u8 a.c, .int .i64 a.t0, .int .i64 a.t1, .int .i64 a.t2] 31)))
        have hgn : wr.heap.size ≠ b := by have := Blk.lt HD.out.snd.snd; omega
        have T := Lib.hid (fun wr' (h : SIn w b s wr') => h.take HOK.out HOA.out (by omega))
        have RT := Lib.hid (fun w' => rfTake_out k s a w' HOK.out HOA.out)
        have OKN := Lib.hid (ok_more (by omega) HOK.out HOA.out)
        generalize erK s a = er at *
        generalize tkK s a = s' at *
        clear HD HOK HOA
        go_upto_region 6 with (fail)
        generalize wr.alloc (.cells #[.int .i64 a.u, .int .u32 a.s, .int .u8 a.c, .int .i64 a.t0, .int .i64 a.t1, .int .i64 a.t2] 31) = W at *
        generalize wr.heap.size = ga at *
        clear e0 e1 e2 e3 e4 e5
        have c0 := HA.out.cell 0 rfl
        have c1 := HA.out.cell 1 rfl
        have c2 := HA.out.cell 2 rfl
        have c3 := HA.out.cell 3 rfl
        have c4 := HA.out.cell 4 rfl
        have c5 := HA.out.cell 5 rfl
        go_upto_region 7 with (first
          | (go_at_call 8; refine (T.out _ HD1.out.snd).mono ?_; rintro e w2 ⟨rfl, O2, S2⟩
             have A2 := Lib.hid (Blk.out HA.out O2 hgn)
             have G2 := Lib.hid (Blk.out HD1.out.want O2 HD1.out.apart)
             have E2 := Lib.hid HD1.out.apart
             have N2 := Lib.hid HD1.out.new
             have S2 := Lib.hid S2
             clear c0 c1 c2 c3 c4 c5 HA O2 HD1))
        clear T
        have c0 := A2.out.cell 0 rfl
        have c1 := A2.out.cell 1 rfl
        have c2 := A2.out.cell 2 rfl
        have c3 := A2.out.cell 3 rfl
        have c4 := A2.out.cell 4 rfl
        have c5 := A2.out.cell 5 rfl
        have d0 := G2.out.cell 0 rfl
        have d1 := G2.out.cell 1 rfl
        have d2 := G2.out.cell 2 rfl
        have d3 := G2.out.cell 3 rfl
        have d4 := G2.out.cell 4 rfl
        have d5 := G2.out.cell 5 rfl
        have d6 := G2.out.cell 6 rfl
        have d7 := G2.out.cell 7 rfl
        go_upto_region 8 with (first
          | (go_at_call 9; refine (RT.out _).mono ?_; rintro e w3 ⟨rfl, B3⟩
             have G3 := Lib.hid (G2.out.kept (new_then B3 (new_alloc (new_refl w3) (.cells #[.int .i64 s'.mss, .int .i64 s'.m, .int .i64 s'.ba, .int .i64 s'.f0, .int .i64 s'.f1, .int .i64 s'.f2, .int .u32 s'.x, .bool (decide (0 < s'.t))] 28))))
             have S3 := Lib.hid ((S2.out.kept B3).kept (new_alloc (new_refl w3) (.cells #[.int .i64 s'.mss, .int .i64 s'.m, .int .i64 s'.ba, .int .i64 s'.f0, .int .i64 s'.f1, .int .i64 s'.f2, .int .u32 s'.x, .bool (decide (0 < s'.t))] 28)))
             have V3 := Lib.hid (Blk.new w3 (rfV s') 28)
             clear c0 c1 c2 c3 c4 c5 d0 d1 d2 d3 d4 d5 d6 d7 G2 S2 A2 B3))
        clear RT
        have V4 : Hid (Blk (w3.alloc (.cells #[.int .i64 s'.mss, .int .i64 s'.m, .int .i64 s'.ba, .int .i64 s'.f0, .int .i64 s'.f1, .int .i64 s'.f2, .int .u32 s'.x, .bool (decide (0 < s'.t))] 28)) w3.heap.size (rfV s') 28) := Lib.hid V3.out
        clear V3
        generalize w3.alloc (.cells #[.int .i64 s'.mss, .int .i64 s'.m, .int .i64 s'.ba, .int .i64 s'.f0, .int .i64 s'.f1, .int .i64 s'.f2, .int .u32 s'.x, .bool (decide (0 < s'.t))] 28) = W4 at *
        generalize w3.heap.size = gv at *
        have c0 := V4.out.cell 0 rfl
        have c1 := V4.out.cell 1 rfl
        have c2 := V4.out.cell 2 rfl
        have c3 := V4.out.cell 3 rfl
        have c4 := V4.out.cell 4 rfl
        have c5 := V4.out.cell 5 rfl
        have c6 := V4.out.cell 6 rfl
        have c7 := V4.out.cell 7 rfl
        have d0 := G3.out.cell 0 rfl
        have d1 := G3.out.cell 1 rfl
        have d2 := G3.out.cell 2 rfl
        have d3 := G3.out.cell 3 rfl
        have d4 := G3.out.cell 4 rfl
        have d5 := G3.out.cell 5 rfl
        have d6 := G3.out.cell 6 rfl
        have d7 := G3.out.cell 7 rfl
        have f0 := G3.out.frozen 0
        have f1 := G3.out.frozen 1
        have f2 := G3.out.frozen 2
        have f3 := G3.out.frozen 3
        have f4 := G3.out.frozen 4
        have f5 := G3.out.frozen 5
        have f6 := G3.out.frozen 6
        have f7 := G3.out.frozen 7
        go_upto_region 9 with (fail)
        have DT := Lib.hid (tks_stored S3.out G3.out N2.out E2.out)
        clear c0 c1 c2 c3 c4 c5 c6 c7 d0 d1 d2 d3 d4 d5 d6 d7 f0 f1 f2 f3 f4 f5 f6 f7 S3 G3 N2 E2 V4
        generalize ((((((((W4.setCell ⟨g, 0, none⟩ (.int .i64 s'.mss)).setCell ⟨g, 1, none⟩ (.int .i64 s'.m)).setCell ⟨g, 2, none⟩ (.int .i64 s'.ba)).setCell ⟨g, 3, none⟩ (.int .i64 s'.f0)).setCell ⟨g, 4, none⟩ (.int .i64 s'.f1)).setCell ⟨g, 5, none⟩ (.int .i64 s'.f2)).setCell ⟨g, 6, none⟩ (.int .u32 s'.x)).setCell ⟨g, 7, none⟩ (.bool (decide (0 < s'.t)))) = W5 at *
        have p1 := cell_by (DT.out.want.cell 1 rfl)
        have p3 := cell_by (DT.out.want.cell 3 rfl)
        have p4 := cell_by (DT.out.want.cell 4 rfl)
        have p5 := cell_by (DT.out.want.cell 5 rfl)
        have hq := neqF3 s'.f0 s'.f1 s'.f2
        refine wp_region_quiet_below (by kernel_rfl) (by kernel_rfl) ?_
        repeat (go_big_quiet_step (first
          | (go_at_call 10; refine calls_by_same (marked19_any b s' _ (by_snd DT.out _)))
          | (go_at_call 11; refine calls_by (bytes19_any b s' _ (by_snd DT.out _)))))
        refine wpQuiet_nil ?_
        intro _ hw'
        obtain ⟨⟨wq, Bq⟩, hw''⟩ := hw'
        subst hw''
        clear p1 p3 p4 p5 hq
        go_wp2_with fail
        go_roundg (len2 - (k + 1))
        case measure => omega
        case rel => exact ⟨k + 1, s', by go_num, rfl, by omega, by omega, OKN.out, DT.out.kept Bq⟩
      · have i2 : ¬ (k : Int) < 60 := by omega
        have i3 : (60 : Int) ≤ (k : Int) := by omega
        have DT := Lib.hid (HD.out.kept (new_alloc (new_refl wr) (.cells #[.int .i64 a.u, .int .u32 a.s, .int .u8 a.c, .int .i64 a.t0, .int .i64 a.t1, .int .i64 a.t2] 31)))
        go_upto_region 12 with (fail)
        generalize wr.alloc (.cells #[.int .i64 a.u, .int .u32 a.s, .int .u8 a.c, .int .i64 a.t0, .int .i64 a.t1, .int .i64 a.t2] 31) = W at *
        clear e0 e1 e2 e3 e4 e5 HD
        have p1 := cell_by (DT.out.want.cell 1 rfl)
        have p3 := cell_by (DT.out.want.cell 3 rfl)
        have p4 := cell_by (DT.out.want.cell 4 rfl)
        have p5 := cell_by (DT.out.want.cell 5 rfl)
        have hq := eqlF3 s.f0 s.f1 s.f2
        refine wp_region_quiet_below (by kernel_rfl) (by kernel_rfl) ?_
        repeat (go_big_quiet_step (first
          | (go_at_call 10; refine calls_by_same (marked19_any b s _ (by_snd DT.out _)))
          | (go_at_call 11; refine calls_by (bytes19_any b s _ (by_snd DT.out _)))
          | (go_at_call 12; refine calls_by (works19_any _))))
        refine wpQuiet_nil ?_
        intro _ hw'
        obtain ⟨⟨wq, Bq⟩, hw''⟩ := hw'
        subst hw''
        clear p1 p3 p4 p5 hq
        go_wp2_with fail
        go_ret
        exact ⟨rfl, new_then DT.out.snd.low Bq⟩
    · obtain rfl : k = len2 := by omega
      have DT := Lib.hid D
      clear D
      go_upto_region 12 with (fail)
      have p1 := cell_by (DT.out.want.cell 1 rfl)
      have p3 := cell_by (DT.out.want.cell 3 rfl)
      have p4 := cell_by (DT.out.want.cell 4 rfl)
      have p5 := cell_by (DT.out.want.cell 5 rfl)
      have hq := eqlF3 s.f0 s.f1 s.f2
      refine wp_region_quiet_below (by kernel_rfl) (by kernel_rfl) ?_
      repeat (go_big_quiet_step (first
        | (go_at_call 10; refine calls_by_same (marked19_any b s _ (by_snd DT.out _)))
        | (go_at_call 11; refine calls_by (bytes19_any b s _ (by_snd DT.out _)))
        | (go_at_call 12; refine calls_by (works19_any _))))
      refine wpQuiet_nil ?_
      intro _ hw'
      obtain ⟨⟨wq, Bq⟩, hw''⟩ := hw'
      subst hw''
      clear p1 p3 p4 p5 hq
      go_wp2_with fail
      go_ret
      exact ⟨rfl, new_then DT.out.snd.low Bq⟩

set_option maxRecDepth 100000 in
theorem lifted (os : Os) (started : os.Started) (H : Type) (enc : TypeId × Value → H) :
    ReturnsInHanded {} Try.checked os 3 .any (Rows.feedbackTakesSpec.pre6 enc Try.prog Try.f3 Rows.feedbackTakesRow.domain false) (Rows.feedbackTakesSpec.post enc Try.prog Try.f3 false true false false) := by
  refine returnsInHanded_of_change (C := Try.checked) own started (by kernel_rfl) Try.func3
    (ChangeSpec.witness6 (enc := enc) (C := Try.checked) false ⟨#[], #[.int .i64 0, .int .i64 0, .slice none 0 0], []⟩ 8 (by kernel_rfl) (by kernel_rfl) (by kernel_rfl) (by kernel_rfl)) ?_
  intro W base args ds gs before hval0 hW hcnd _
  have hval : ∀ (j : Nat) t v, Try.f3.params[j]? = some t → args[j]? = some v → Value.okWide Try.prog W .any base t v := hval0
  have hW' := hW
  obtain ⟨p, q, hA0, hV, rfl, hfz, hnd⟩ := hW
  have hA : DataW.TrodAll enc Try.prog W 0 (fun _ => true) true Try.f3.params.toList args.toList ds p := hA0
  rw [Try.params3] at hA hval
  obtain ⟨v0, vs0, d0, ds0, p0, q0, hargs, rfl, rfl, h0, r0⟩ := trodAll_cons hA
  obtain ⟨v1, vs1, d1, ds1, p1, q1, rfl, rfl, rfl, h1, r1⟩ := trodAll_cons r0
  obtain ⟨v2, vs2, d2, ds2, p2, q2, rfl, rfl, rfl, h2, r2⟩ := trodAll_cons r1
  obtain ⟨rfl, rfl, rfl⟩ := trodAll_nil r2
  obtain rfl : args = #[v0, v1, v2] := by cases args; simp_all
  obtain ⟨rfl, rfl⟩ := trodVars_none hV
  have k0 := h0
  have lt0 : ∀ x ∈ p0, x.block < W.heap.size := by obtain ⟨m, hm⟩ := k0; exact DataW.trod_lt m _ _ _ hm
  obtain ⟨a0, rfl, _, _, w0⟩ := open_int Try.underlying2 (hval 0 2 v0 rfl rfl) h0
  have k1 := h1
  have lt1 : ∀ x ∈ p1, x.block < W.heap.size := by obtain ⟨m, hm⟩ := k1; exact DataW.trod_lt m _ _ _ hm
  obtain ⟨a1, rfl, _, _, w1⟩ := open_int Try.underlying2 (hval 1 2 v1 rfl rfl) h1
  have k2 := h2
  have lt2 : ∀ x ∈ p2, x.block < W.heap.size := by obtain ⟨m, hm⟩ := k2; exact DataW.trod_lt m _ _ _ hm
  obtain ⟨a2, len2, cap2, rfl⟩ := okWide_slice Try.underlying22 (hval 2 22 v2 rfl rfl)
  have w2 := isRows_of (n := 6) (ls := [(0, .inl .i64), (1, .inl .u32), (2, .inl .u8), (3, .inl .i64), (4, .inl .i64), (5, .inl .i64)]) Try.underlying22 (by kernel_rfl) (by kernel_rfl) (by decide) h2
  clear hA0 hval0
  refine (walk a0 a1 a2 len2 cap2 W w0 w1 w2).mono fun e W' ⟨he, bel⟩ => ?_
  subst he
  exact ⟨_, rfl, _, _, _, [], _, [], hW', trodAll_mk1 (shut_bool Try.underlying4 _), (trodAll_cons_mk (Below.trod laidOut (by kernel_rfl) (of_decide_eq_true (by kernel_rfl)) k0 bel lt0) (trodAll_cons_mk (Below.trod laidOut (by kernel_rfl) (of_decide_eq_true (by kernel_rfl)) k1 bel lt1) (trodAll_cons_mk (Below.trod laidOut (by kernel_rfl) (of_decide_eq_true (by kernel_rfl)) k2 bel lt2) trodAll_mk0))), rfl, bel.frame _, fun h => by cases h⟩

theorem over : Rows.feedbackTakesRow.holds Try.pinned (OpenSpec.ofChange Rows.feedbackTakesSpec) :=
  OpenClaim.holds_of_wide 3 Try.f3 rfl rfl rfl rfl rfl rfl rfl ⟨rfl, rfl, rfl, rfl, rfl⟩ rfl rfl rfl rfl rfl (by kernel_rfl) Try.func3 (by kernel_rfl)
    (of_decide_eq_true (by kernel_rfl)) (by unfold Func.isWrapper; first | (rw [if_pos (by decide +kernel)]; kernel_rfl) | (rw [if_neg (by decide +kernel)]; exact ⟨rfl, rfl⟩))
    (fun os started H enc _ => lifted os started H enc)
end feedbackTakes
theorem feedbackTakes_holds : Rows.FeedbackTakesSaid := feedbackTakes.over
end Go.Proofs.Ytfoonfmhamaclaa
