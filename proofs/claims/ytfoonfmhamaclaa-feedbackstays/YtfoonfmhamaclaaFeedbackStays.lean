/- For every int64 and every list of acknowledgements, of its first sixty, one behind the other: the sender's count never falls, rises by what is told, and is, modulo 8, what the newest one taken told; what is refused changes neither count nor bytes; a sender that is nil answers as the chapter says, and the chapter's example holds: FeedbackStays returns true and changes nothing that was there. No conditions. -/
import Derived.Test.YtfoonfmhamaclaaKit
import Derived.Test.YtfoonfmhamaclaaFbkT
namespace Go.Proofs.Ytfoonfmhamaclaa
namespace feedbackStays
open Go.ChangeShapes Go.WideShapes Go.ChangeAt Go.RowKit
open Go.ChangeMaps (open_string shut_string)
set_option linter.unusedVariables false

theorem marked_to {e : Ending} {w w' : World} {m m' : Int} (h : e = .returned (.int .i64 m) ∧ w = w') (hm : m = m') : e = .returned (.int .i64 m') ∧ w = w' := by subst hm; exact h
theorem bytes_to {e : Ending} {B : Prop} {a b c a' b' c' : Int} (h : e = .returned (.agg #[.int .i64 a, .int .i64 b, .int .i64 c]) ∧ B) (h1 : a = a') (h2 : b = b') (h3 : c = c') : e = .returned (.agg #[.int .i64 a', .int .i64 b', .int .i64 c']) ∧ B := by subst h1; subst h2; subst h3; exact h
def StI (w : World) (b len gh : Nat) (vi : Value) (wr : World) : Prop := ∃ (k : Nat) (s : Sn), vi = .int .i64 (k : Int) ∧ len - k = gh ∧ k ≤ len ∧ k ≤ 60 ∧ OkS k s ∧ SIn w b s wr
theorem own : ownKnob Try.prog.godebug = none := by kernel_rfl
theorem laidOut : laidOutB Try.prog = true := by kernel_rfl

set_option maxHeartbeats 4000000 in
set_option maxRecDepth 100000 in
theorem walk (a0 : Int) (a1 : Option Addr) (len1 cap1 : Nat) (w : World) (w0 : (Lit.int .i64 a0).wf = true) (w1 : IsRows w a1 len1 cap1 6 [(0, .inl .i64), (1, .inl .u32), (2, .inl .u8), (3, .inl .i64), (4, .inl .i64), (5, .inl .i64)]) :
    Calls Try.prog 4 #[.int .i64 a0, .slice a1 len1 cap1] w fun e w' => e = .returned (.bool true) ∧ Below w.heap.size w w' := by
  have b0 := bounds_i64 w0
  have HW := Lib.hid w1
  have K0 := Lib.hid (ok_start 5 (mss := a0) (by unfold int64F; omega) (by omega))
  have N0 := fun w => new19_any a0 5 w
  rw [show stK 5 = 5 by decide] at N0
  replace N0 := Lib.hid N0
  have TN := Lib.hid (fun w => take19_nil ⟨0, 0, 0, 0, 0, 0⟩ w)
  have hz := eqlF3 0 0 0
  clear w0 w1 b0
  go_enter Try.func4, Try.ntmps4
  go_wp2_with (first
    | (go_at_call 8; refine (TN.out _).mono ?_; rintro e wa ⟨rfl, B0⟩)
    | (go_at_call 6; refine (N0.out _).mono ?_; rintro e wb ⟨b, rfl, D1⟩))
  have S0 : SIn w b ⟨0, 0, 0, a0, 5, 5, 1, 0, 1⟩ wb := ⟨D1.snd, Nat.le_trans B0.size D1.new, new_then B0 D1.low⟩
  clear D1 B0
  go_loopg [25] len1 (fun gh vi wr => StI w b len1 gh vi wr)
  case atStart => exact ⟨0, _, rfl, rfl, by omega, by omega, K0.out, S0⟩
  case round =>
    clear S0 K0 N0 TN
    obtain ⟨k, s, rfl, rfl, hk, hk6, OK, D⟩ := hrel
    by_cases hlt : k < len1
    · have i0 : (0 : Int) ≤ (k : Int) := by omega
      have i1 : (k : Int) < (len1 : Int) := by omega
      obtain ⟨bl, off, rfl, hc⟩ := ak_at HW.out (by omega)
      obtain ⟨a, OA, e0, e1, e2, e3, e4, e5⟩ := hc k hlt
      replace e0 := cell_kept D.low e0
      replace e1 := cell_kept D.low e1
      replace e2 := cell_kept D.low e2
      replace e3 := cell_kept D.low e3
      replace e4 := cell_kept D.low e4
      replace e5 := cell_kept D.low e5
      have HOK := Lib.hid OK
      have HOA := Lib.hid OA
      have HD := Lib.hid D
      clear hc OK OA D
      by_cases h60 : k < 60
      · have i2 : (k : Int) < 60 := by omega
        have HA := Lib.hid (ak_new wr a)
        have HD1 := Lib.hid (HD.out.kept (new_alloc (new_refl wr) (.cells #[.int .i64 a.u, .int .u32 a.s, .int .u8 a.c, .int .i64 a.t0, .int .i64 a.t1, .int .i64 a.t2] 31)))
        have hgn : wr.heap.size ≠ b := by have := Blk.lt HD.out.snd; omega
        have hm := HOK.out.m
        have hfw := HOK.out.few
        clear HD
        rcases tk_cases HOK.out HOA.out with ⟨HE, hM8, hM1, hM2⟩ | ⟨HE | HE, hMM, hF0, hF1, hF2⟩
        · obtain ⟨M, hMM⟩ : ∃ M, (tkK s a).m = M := ⟨_, rfl⟩
          obtain ⟨n, hN⟩ : ∃ n, (tkK s a).m - s.m = n := ⟨_, rfl⟩
          rw [hMM] at hM8 hM1 hM2
          have hMn : M - s.m = n := by rw [← hN, hMM]
          have T := Lib.hid (fun wr' (h : SIn w b s wr') => (h.take HOK.out HOA.out (by omega)).mono fun _ _ q => q.to hN HE)
          have hn0 : 0 ≤ n := by omega
          have hn1 : decide (n < 0) = false := by simp; omega
          have hn2 : ¬ n < 0 := by omega
          have hv : IntKind.i64.wrap (s.m + n) = M := by rw [IntKind.wrap_i64]; omega
          have ha7 : bits .and .i64 M 7 = a.c := by rw [and7i]; exact hM8
          have hac := HOA.out.c
          have hcv : IntKind.i64.wrap a.c = a.c := by rw [IntKind.wrap_i64]; omega
          have MK := Lib.hid (fun w' (h : SnB w' b (tkK s a)) => (marked19_any b (tkK s a) w' h).mono fun _ _ q => marked_to q hMM)
          have hq : True := trivial
          have BY : True := trivial
          have OKN := Lib.hid (ok_more (by omega) HOK.out HOA.out)
          generalize tkK s a = s' at *
          clear HOA
          go_upto_region 8 with (fail)
          generalize wr.alloc (.cells #[.int .i64 a.u, .int .u32 a.s, .int .u8 a.c, .int .i64 a.t0, .int .i64 a.t1, .int .i64 a.t2] 31) = W at *
          clear e0 e1 e2 e3 e4 e5
          go_upto_region 9 with (first
            | (go_at_call 10; refine (marked19_any b s _ HD1.out.snd).mono ?_; rintro e w1 ⟨rfl, rfl⟩)
            | (go_at_call 11; refine (bytes19_any b s _ HD1.out.snd).mono ?_; rintro e w2 ⟨rfl, B2⟩
               have HD2 := Lib.hid ((HD1.out.kept B2).kept (new_alloc (new_refl w2) (.cells #[.int .i64 s.f0, .int .i64 s.f1, .int .i64 s.f2] 25)))
               have HA2 := Lib.hid ((HA.out.kept B2).alloc (.cells #[.int .i64 s.f0, .int .i64 s.f1, .int .i64 s.f2] 25))
               have HB2 : Hid (Blk (w2.alloc (.cells #[.int .i64 s.f0, .int .i64 s.f1, .int .i64 s.f2] 25)) w2.heap.size [.int .i64 s.f0, .int .i64 s.f1, .int .i64 s.f2] 25) := Lib.hid (Blk.new w2 [.int .i64 s.f0, .int .i64 s.f1, .int .i64 s.f2] 25)
               have hbn : w2.heap.size ≠ b := by have := Blk.lt (HD1.out.kept B2).snd; omega))
          clear B2 HA HD1
          generalize w2.alloc (.cells #[.int .i64 s.f0, .int .i64 s.f1, .int .i64 s.f2] 25) = W2 at *
          generalize w2.heap.size = gb at *
          have c0 := HA2.out.cell 0 rfl
          have c1 := HA2.out.cell 1 rfl
          have c2 := HA2.out.cell 2 rfl
          have c3 := HA2.out.cell 3 rfl
          have c4 := HA2.out.cell 4 rfl
          have c5 := HA2.out.cell 5 rfl
          go_upto_region 10 with (first
            | (go_at_call 8; refine (T.out _ HD2.out).mono ?_; rintro e w3 ⟨rfl, O2, S2⟩
               have A2 := Lib.hid (Blk.out HA2.out O2 hgn)
               have G2 := Lib.hid (Blk.out HB2.out O2 hbn)
               have S2 := Lib.hid S2
               clear c0 c1 c2 c3 c4 c5 HA2 HB2 O2 HD2))
          clear T
          have p2 := cell_by (A2.out.cell 2 rfl)
          have p3 := cell_by (G2.out.cell 0 rfl)
          have p4 := cell_by (G2.out.cell 1 rfl)
          have p5 := cell_by (G2.out.cell 2 rfl)
          refine wp_region_quiet_below (by kernel_rfl) (by kernel_rfl) ?_
          repeat (go_big_quiet_step (first
            | (go_at_call 10; refine calls_by_same (MK.out _ (Blk.kept S2.out.snd (BelowBy.low _))))))
          refine wpQuiet_nil ?_
          intro _ hw'
          obtain ⟨⟨wq, Bq⟩, hw''⟩ := hw'
          subst hw''
          clear p2 p3 p4 p5
          go_wp2_with fail
          go_roundg (len1 - (k + 1))
          case measure => omega
          case rel => exact ⟨k + 1, s', by go_num, rfl, by omega, by omega, OKN.out, S2.out.kept Bq⟩
        · have hZ : (tkK s a).m - s.m = 0 := by omega
          have T := Lib.hid (fun wr' (h : SIn w b s wr') => (h.take HOK.out HOA.out (by omega)).mono fun _ _ q => q.to hZ HE)
          have hv : IntKind.i64.wrap s.m = s.m := by rw [IntKind.wrap_i64]; omega
          have MK := Lib.hid (fun w' (h : SnB w' b (tkK s a)) => (marked19_any b (tkK s a) w' h).mono fun _ _ q => marked_to q hMM)
          have BY := Lib.hid (fun w' (h : SnB w' b (tkK s a)) => (bytes19_any b (tkK s a) w' h).mono fun _ _ q => bytes_to q hF0 hF1 hF2)
          have hq := neqF3 s.f0 s.f1 s.f2
          have OKN := Lib.hid (ok_more (by omega) HOK.out HOA.out)
          generalize tkK s a = s' at *
          clear HOA
          go_upto_region 8 with (fail)
          generalize wr.alloc (.cells #[.int .i64 a.u, .int .u32 a.s, .int .u8 a.c, .int .i64 a.t0, .int .i64 a.t1, .int .i64 a.t2] 31) = W at *
          clear e0 e1 e2 e3 e4 e5
          go_upto_region 9 with (first
            | (go_at_call 10; refine (marked19_any b s _ HD1.out.snd).mono ?_; rintro e w1 ⟨rfl, rfl⟩)
            | (go_at_call 11; refine (bytes19_any b s _ HD1.out.snd).mono ?_; rintro e w2 ⟨rfl, B2⟩
               have HD2 := Lib.hid ((HD1.out.kept B2).kept (new_alloc (new_refl w2) (.cells #[.int .i64 s.f0, .int .i64 s.f1, .int .i64 s.f2] 25)))
               have HA2 := Lib.hid ((HA.out.kept B2).alloc (.cells #[.int .i64 s.f0, .int .i64 s.f1, .int .i64 s.f2] 25))
               have HB2 : Hid (Blk (w2.alloc (.cells #[.int .i64 s.f0, .int .i64 s.f1, .int .i64 s.f2] 25)) w2.heap.size [.int .i64 s.f0, .int .i64 s.f1, .int .i64 s.f2] 25) := Lib.hid (Blk.new w2 [.int .i64 s.f0, .int .i64 s.f1, .int .i64 s.f2] 25)
               have hbn : w2.heap.size ≠ b := by have := Blk.lt (HD1.out.kept B2).snd; omega))
          clear B2 HA HD1
          generalize w2.alloc (.cells #[.int .i64 s.f0, .int .i64 s.f1, .int .i64 s.f2] 25) = W2 at *
          generalize w2.heap.size = gb at *
          have c0 := HA2.out.cell 0 rfl
          have c1 := HA2.out.cell 1 rfl
          have c2 := HA2.out.cell 2 rfl
          have c3 := HA2.out.cell 3 rfl
          have c4 := HA2.out.cell 4 rfl
          have c5 := HA2.out.cell 5 rfl
          go_upto_region 10 with (first
            | (go_at_call 8; refine (T.out _ HD2.out).mono ?_; rintro e w3 ⟨rfl, O2, S2⟩
               have A2 := Lib.hid (Blk.out HA2.out O2 hgn)
               have G2 := Lib.hid (Blk.out HB2.out O2 hbn)
               have S2 := Lib.hid S2
               clear c0 c1 c2 c3 c4 c5 HA2 HB2 O2 HD2))
          clear T
          have p2 := cell_by (A2.out.cell 2 rfl)
          have p3 := cell_by (G2.out.cell 0 rfl)
          have p4 := cell_by (G2.out.cell 1 rfl)
          have p5 := cell_by (G2.out.cell 2 rfl)
          refine wp_region_quiet_below (by kernel_rfl) (by kernel_rfl) ?_
          repeat (go_big_quiet_step (first
            | (go_at_call 10; refine calls_by_same (MK.out _ (Blk.kept S2.out.snd (BelowBy.low _))))
            | (go_at_call 11; refine calls_by (BY.out _ (Blk.kept S2.out.snd (BelowBy.low _))))))
          refine wpQuiet_nil ?_
          intro _ hw'
          obtain ⟨⟨wq, Bq⟩, hw''⟩ := hw'
          subst hw''
          clear p2 p3 p4 p5
          go_wp2_with fail
          go_roundg (len1 - (k + 1))
          case measure => omega
          case rel => exact ⟨k + 1, s', by go_num, rfl, by omega, by omega, OKN.out, S2.out.kept Bq⟩
        · have hZ : (tkK s a).m - s.m = 0 := by omega
          have T := Lib.hid (fun wr' (h : SIn w b s wr') => (h.take HOK.out HOA.out (by omega)).mono fun _ _ q => q.to hZ HE)
          have hv : IntKind.i64.wrap s.m = s.m := by rw [IntKind.wrap_i64]; omega
          have MK := Lib.hid (fun w' (h : SnB w' b (tkK s a)) => (marked19_any b (tkK s a) w' h).mono fun _ _ q => marked_to q hMM)
          have BY := Lib.hid (fun w' (h : SnB w' b (tkK s a)) => (bytes19_any b (tkK s a) w' h).mono fun _ _ q => bytes_to q hF0 hF1 hF2)
          have hq := neqF3 s.f0 s.f1 s.f2
          have OKN := Lib.hid (ok_more (by omega) HOK.out HOA.out)
          generalize tkK s a = s' at *
          clear HOA
          go_upto_region 8 with (fail)
          generalize wr.alloc (.cells #[.int .i64 a.u, .int .u32 a.s, .int .u8 a.c, .int .i64 a.t0, .int .i64 a.t1, .int .i64 a.t2] 31) = W at *
          clear e0 e1 e2 e3 e4 e5
          go_upto_region 9 with (first
            | (go_at_call 10; refine (marked19_any b s _ HD1.out.snd).mono ?_; rintro e w1 ⟨rfl, rfl⟩)
            | (go_at_call 11; refine (bytes19_any b s _ HD1.out.snd).mono ?_; rintro e w2 ⟨rfl, B2⟩
               have HD2 := Lib.hid ((HD1.out.kept B2).kept (new_alloc (new_refl w2) (.cells #[.int .i64 s.f0, .int .i64 s.f1, .int .i64 s.f2] 25)))
               have HA2 := Lib.hid ((HA.out.kept B2).alloc (.cells #[.int .i64 s.f0, .int .i64 s.f1, .int .i64 s.f2] 25))
               have HB2 : Hid (Blk (w2.alloc (.cells #[.int .i64 s.f0, .int .i64 s.f1, .int .i64 s.f2] 25)) w2.heap.size [.int .i64 s.f0, .int .i64 s.f1, .int .i64 s.f2] 25) := Lib.hid (Blk.new w2 [.int .i64 s.f0, .int .i64 s.f1, .int .i64 s.f2] 25)
               have hbn : w2.heap.size ≠ b := by have := Blk.lt (HD1.out.kept B2).snd; omega))
          clear B2 HA HD1
          generalize w2.alloc (.cells #[.int .i64 s.f0, .int .i64 s.f1, .int .i64 s.f2] 25) = W2 at *
          generalize w2.heap.size = gb at *
          have c0 := HA2.out.cell 0 rfl
          have c1 := HA2.out.cell 1 rfl
          have c2 := HA2.out.cell 2 rfl
          have c3 := HA2.out.cell 3 rfl
          have c4 := HA2.out.cell 4 rfl
          have c5 := HA2.out.cell 5 rfl
          go_upto_region 10 with (first
            | (go_at_call 8; refine (T.out _ HD2.out).mono ?_; rintro e w3 ⟨rfl, O2, S2⟩
               have A2 := Lib.hid (Blk.out HA2.out O2 hgn)
               have G2 := Lib.hid (Blk.out HB2.out O2 hbn)
               have S2 := Lib.hid S2
               clear c0 c1 c2 c3 c4 c5 HA2 HB2 O2 HD2))
          clear T
          have p2 := cell_by (A2.out.cell 2 rfl)
          have p3 := cell_by (G2.out.cell 0 rfl)
          have p4 := cell_by (G2.out.cell 1 rfl)
          have p5 := cell_by (G2.out.cell 2 rfl)
          refine wp_region_quiet_below (by kernel_rfl) (by kernel_rfl) ?_
          repeat (go_big_quiet_step (first
            | (go_at_call 10; refine calls_by_same (MK.out _ (Blk.kept S2.out.snd (BelowBy.low _))))
            | (go_at_call 11; refine calls_by (BY.out _ (Blk.kept S2.out.snd (BelowBy.low _))))))
          refine wpQuiet_nil ?_
          intro _ hw'
          obtain ⟨⟨wq, Bq⟩, hw''⟩ := hw'
          subst hw''
          clear p2 p3 p4 p5
          go_wp2_with fail
          go_roundg (len1 - (k + 1))
          case measure => omega
          case rel => exact ⟨k + 1, s', by go_num, rfl, by omega, by omega, OKN.out, S2.out.kept Bq⟩
      · have i2 : ¬ (k : Int) < 60 := by omega
        have i3 : (60 : Int) ≤ (k : Int) := by omega
        have DT := Lib.hid (HD.out.kept (new_alloc (new_refl wr) (.cells #[.int .i64 a.u, .int .u32 a.s, .int .u8 a.c, .int .i64 a.t0, .int .i64 a.t1, .int .i64 a.t2] 31)))
        clear HD
        go_wp2_with (first
          | (go_at_call 10; refine (marked19_nil _).mono ?_; rintro e w5 ⟨rfl, rfl⟩)
          | (go_at_call 11; refine (bytes19_nil _).mono ?_; rintro e w6 ⟨rfl, B6⟩)
          | (go_at_call 12; refine (works19_any _).mono ?_; rintro e w7 ⟨rfl, B7⟩))
        go_ret
        exact ⟨rfl, new_then (new_then DT.out.low B6) B7⟩
    · obtain rfl : k = len1 := by omega
      have DT := Lib.hid D
      clear D
      go_wp2_with (first
        | (go_at_call 10; refine (marked19_nil _).mono ?_; rintro e w5 ⟨rfl, rfl⟩)
        | (go_at_call 11; refine (bytes19_nil _).mono ?_; rintro e w6 ⟨rfl, B6⟩)
        | (go_at_call 12; refine (works19_any _).mono ?_; rintro e w7 ⟨rfl, B7⟩))
      go_ret
      exact ⟨rfl, new_then (new_then DT.out.low B6) B7⟩

set_option maxRecDepth 100000 in
theorem lifted (os : Os) (started : os.Started) (H : Type) (enc : TypeId × Value → H) :
    ReturnsInHanded {} Try.checked os 4 .any (Rows.feedbackStaysSpec.pre6 enc Try.prog Try.f4 Rows.feedbackStaysRow.domain false) (Rows.feedbackStaysSpec.post enc Try.prog Try.f4 false true false false) := by
  refine returnsInHanded_of_change (C := Try.checked) own started (by kernel_rfl) Try.func4
    (ChangeSpec.witness6 (enc := enc) (C := Try.checked) false ⟨#[], #[.int .i64 0, .slice none 0 0], []⟩ 8 (by kernel_rfl) (by kernel_rfl) (by kernel_rfl) (by kernel_rfl)) ?_
  intro W base args ds gs before hval0 hW hcnd _
  have hval : ∀ (j : Nat) t v, Try.f4.params[j]? = some t → args[j]? = some v → Value.okWide Try.prog W .any base t v := hval0
  have hW' := hW
  obtain ⟨p, q, hA0, hV, rfl, hfz, hnd⟩ := hW
  have hA : DataW.TrodAll enc Try.prog W 0 (fun _ => true) true Try.f4.params.toList args.toList ds p := hA0
  rw [Try.params4] at hA hval
  obtain ⟨v0, vs0, d0, ds0, p0, q0, hargs, rfl, rfl, h0, r0⟩ := trodAll_cons hA
  obtain ⟨v1, vs1, d1, ds1, p1, q1, rfl, rfl, rfl, h1, r1⟩ := trodAll_cons r0
  obtain ⟨rfl, rfl, rfl⟩ := trodAll_nil r1
  obtain rfl : args = #[v0, v1] := by cases args; simp_all
  obtain ⟨rfl, rfl⟩ := trodVars_none hV
  have k0 := h0
  have lt0 : ∀ x ∈ p0, x.block < W.heap.size := by obtain ⟨m, hm⟩ := k0; exact DataW.trod_lt m _ _ _ hm
  obtain ⟨a0, rfl, _, _, w0⟩ := open_int Try.underlying2 (hval 0 2 v0 rfl rfl) h0
  have k1 := h1
  have lt1 : ∀ x ∈ p1, x.block < W.heap.size := by obtain ⟨m, hm⟩ := k1; exact DataW.trod_lt m _ _ _ hm
  obtain ⟨a1, len1, cap1, rfl⟩ := okWide_slice Try.underlying22 (hval 1 22 v1 rfl rfl)
  have w1 := isRows_of (n := 6) (ls := [(0, .inl .i64), (1, .inl .u32), (2, .inl .u8), (3, .inl .i64), (4, .inl .i64), (5, .inl .i64)]) Try.underlying22 (by kernel_rfl) (by kernel_rfl) (by decide) h1
  clear hA0 hval0
  refine (walk a0 a1 len1 cap1 W w0 w1).mono fun e W' ⟨he, bel⟩ => ?_
  subst he
  exact ⟨_, rfl, _, _, _, [], _, [], hW', trodAll_mk1 (shut_bool Try.underlying4 _), (trodAll_cons_mk (Below.trod laidOut (by kernel_rfl) (of_decide_eq_true (by kernel_rfl)) k0 bel lt0) (trodAll_cons_mk (Below.trod laidOut (by kernel_rfl) (of_decide_eq_true (by kernel_rfl)) k1 bel lt1) trodAll_mk0)), rfl, bel.frame _, fun h => by cases h⟩

theorem over : Rows.feedbackStaysRow.holds Try.pinned (OpenSpec.ofChange Rows.feedbackStaysSpec) :=
  OpenClaim.holds_of_wide 4 Try.f4 rfl rfl rfl rfl rfl rfl rfl ⟨rfl, rfl, rfl, rfl, rfl⟩ rfl rfl rfl rfl rfl (by kernel_rfl) Try.func4 (by kernel_rfl)
    (of_decide_eq_true (by kernel_rfl)) (by unfold Func.isWrapper; first | (rw [if_pos (by decide +kernel)]; kernel_rfl) | (rw [if_neg (by decide +kernel)]; exact ⟨rfl, rfl⟩))
    (fun os started H enc _ => lifted os started H enc)
end feedbackStays
theorem feedbackStays_holds : Rows.FeedbackStaysSaid := feedbackStays.over
end Go.Proofs.Ytfoonfmhamaclaa
