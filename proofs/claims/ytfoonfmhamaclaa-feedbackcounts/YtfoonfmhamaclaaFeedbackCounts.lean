/- For every play - packets of one size that came to a receiver, each answered, with its fields or without, and the answers that come to the sender, in whatever order, whichever are lost - the sender's count is, modulo 8, the receiver's, as it was when the newest answer that was taken was sent, and it is that count where between two that were taken it rose by at most 7 or fields were told: FeedbackCounts returns true and changes nothing that was there. No conditions. -/
import Derived.Test.YtfoonfmhamaclaaKit
import Derived.Test.YtfoonfmhamaclaaCtD
import Derived.Test.YtfoonfmhamaclaaKitP
namespace Go.Proofs.Ytfoonfmhamaclaa
namespace feedbackCounts
open Go.ChangeShapes Go.WideShapes Go.ChangeAt Go.RowKit
open Go.ChangeMaps (open_string shut_string)
set_option linter.unusedVariables false

theorem own : ownKnob Try.prog.godebug = none := by kernel_rfl
theorem laidOut : laidOutB Try.prog = true := by kernel_rfl

set_option maxHeartbeats 4000000 in
set_option maxRecDepth 100000 in
theorem walk (a0x0 : Int) (a0x1 : Option Addr) (len0x1 cap0x1 : Nat) (z0x1 : List Int) (a0x2 : Option Addr) (len0x2 cap0x2 : Nat) (a0x3 : Option Addr) (len0x3 cap0x3 : Nat) (z0x3 : List Int) (w : World) (w0x0 : (Lit.int .u16 a0x0).wf = true) (w0x1 : IsRow .u8 w a0x1 len0x1 cap0x1 z0x1) (w0x2 : IsRowsN w a0x2 len0x2 cap0x2 1 [(0, .inr (.inl false))]) (w0x3 : IsRow .u8 w a0x3 len0x3 cap0x3 z0x3) :
    Calls Try.prog 5 #[.agg #[.int .u16 a0x0, .slice a0x1 len0x1 cap0x1, .slice a0x2 len0x2 cap0x2, .slice a0x3 len0x3 cap0x3]] w fun e w' => e = .returned (.bool true) ∧ Below w.heap.size w w' := by
  have bm := bounds_u16 w0x0
  obtain ⟨g2, bs, hbl, hbs⟩ := lbT_of w0x2
  have HC3 := Lib.hid w0x3
  obtain ⟨N, hN⟩ : ∃ N, N = min len0x1 100 := ⟨_, rfl⟩
  have hN100 : N ≤ 100 := by omega
  have SE := Lib.hid (fun wr (o : Below w.heap.size w wr) => sent_any a0x0 a0x1 a0x2 a0x3 len0x1 cap0x1 len0x2 cap0x2 len0x3 cap0x3 g2 N z0x1 bs wr (by omega) (rowT_kept w0x1 o) (hbs.kept o) hbl hN)
  have hn : 1 ≤ a0x0 + 1 ∧ a0x0 + 1 ≤ 65536 := by omega
  have v1 : IntKind.i64.wrap a0x0 = a0x0 := by rw [IntKind.wrap_i64]; omega
  have v2 : IntKind.i64.wrap (a0x0 + 1) = a0x0 + 1 := by rw [IntKind.wrap_i64]; omega
  have N0 := fun w => new19_any (a0x0 + 1) 5 w
  rw [show stK 5 = 5 by decide] at N0
  replace N0 := Lib.hid N0
  have K0 := Lib.hid (ok_start 5 (mss := a0x0 + 1) (by unfold int64F; omega) (by omega))
  have BXL := Lib.hid (new_alloc (new_refl w) (.cells #[.int .u16 a0x0, .slice a0x1 len0x1 cap0x1, .slice a0x2 len0x2 cap0x2, .slice a0x3 len0x3 cap0x3] 46))
  have BX := Lib.hid (Blk.new w [.int .u16 a0x0, .slice a0x1 len0x1 cap0x1, .slice a0x2 len0x2 cap0x2, .slice a0x3 len0x3 cap0x3] 46)
  have BX : Hid (Blk (w.alloc (.cells #[.int .u16 a0x0, .slice a0x1 len0x1 cap0x1, .slice a0x2 len0x2 cap0x2, .slice a0x3 len0x3 cap0x3] 46)) w.heap.size [.int .u16 a0x0, .slice a0x1 len0x1 cap0x1, .slice a0x2 len0x2 cap0x2, .slice a0x3 len0x3 cap0x3] 46) := Lib.hid BX.out
  clear w0x0 w0x1 w0x2 w0x3 hbl hbs bm hN
  go_enter Try.func5, Try.ntmps5
  go_upto_region 1 with (fail)
  generalize w.alloc (.cells #[.int .u16 a0x0, .slice a0x1 len0x1 cap0x1, .slice a0x2 len0x2 cap0x2, .slice a0x3 len0x3 cap0x3] 46) = Wb at *
  have c0 := BX.out.cell 0 rfl
  have c1 := BX.out.cell 1 rfl
  have c2 := BX.out.cell 2 rfl
  have c3 := BX.out.cell 3 rfl
  go_upto_region 2 with (first
    | (go_at_call 13; refine (SE.out _ BXL.out).mono ?_; rintro e W ⟨va, vb, rfl, OA, OB, BS⟩
       obtain ⟨A, capA, rfl, hA⟩ := cls_form OA
       obtain ⟨B, capB, rfl, hB⟩ := bls_form OB
       clear OA OB))
  have low0 := Lib.hid (new_then BXL.out BS)
  have BW := Lib.hid (BX.out.kept BS)
  clear c0 c1 c2 c3 BX BXL BS SE
  by_cases h0 : N = 0
  · subst h0
    go_wp2_with (first
      | (go_at_call 12; refine (works19_any _).mono ?_; rintro e w7 ⟨rfl, B7⟩))
    go_ret
    exact ⟨rfl, new_then low0.out B7⟩
  · have h1 : ¬ (N : Int) = 0 := by omega
    have h2 : ((N : Int) == 0) = false := by simpa using h0
    have hNp : (0 : Int) < (N : Int) := by omega
    obtain ⟨gA, rfl, hgA, hcA⟩ := hA (by omega)
    obtain ⟨gB, rfl, hgB, hcB⟩ := hB (by omega)
    have b0 := BW.out.cell 0 rfl
    go_wp2_with (first
      | (go_at_call 6; refine (N0.out _).mono ?_; rintro e w3 ⟨b, rfl, S3⟩))
    have D0 : PlyAt W b w3.heap.size (w3.heap.size + 1) ⟨0, 0, 0, a0x0 + 1, 5, 5, 1, 0, 1⟩ ⟨5, 0, 1, 1⟩ ⟨5, 0, 1, 1⟩ ((w3.alloc (.cells #[.int .i64 5, .int .i64 0, .int .i64 1, .int .i64 1] 51)).alloc (.cells #[.int .i64 5, .int .i64 0, .int .i64 1, .int .i64 1] 51)) := by
      have q1 := Blk.lt S3.snd
      have q2 := S3.low.size
      exact ⟨S3.kept (new_alloc (new_alloc (new_refl w3) _) _), (Blk.new w3 (ctV ⟨5, 0, 1, 1⟩) _).alloc _, Blk.newAt (alloc_size w3 _) (ctV ⟨5, 0, 1, 1⟩) _, by omega, by omega, by omega, by omega, by omega⟩
    clear S3 N0
    obtain ⟨M, hM⟩ : ∃ M, M = min len0x3 100 := ⟨_, rfl⟩
    have HMM := Lib.hid hM
    clear hM b0
    generalize hgl : w3.heap.size = gl at *
    generalize hgt : gl + 1 = gt at *
    go_loopg [8, 9, 10] M (fun gh ve vb vi wr => PlyI W b gl gt z0x1 (a0x0 + 1) M gh ve vb vi wr)
    case atStart => exact ⟨0, 0, 0, true, _, rfl, rfl, rfl, rfl, by omega, by omega, K0.out, pf_start _ _, D0⟩
    case round =>
      clear D0 K0 v1 v2 hgl hgt
      obtain ⟨i, l, t, ex, s, rfl, rfl, rfl, rfl, hi, hi1, OK, P, D⟩ := hrel
      have HOK := Lib.hid OK
      have HPF := Lib.hid P
      have HD0 := Lib.hid D
      clear OK P D
      have hMM := HMM.out
      have p3 := cell_kept HD0.out.snd.low (BW.out.cell 3 rfl)
      by_cases hlt : i < M
      · have i1 : (i : Int) < (len0x3 : Int) := by omega
        have i2 : (i : Int) < 100 := by omega
        have i3 : (0 : Int) ≤ (i : Int) := by omega
        have hi9 : i < 100 := by omega
        obtain ⟨bl, off, rfl, e0, hbl, s0⟩ := row_at HC3.out (i := i) (by omega)
        replace e0 := cell_kept HD0.out.snd.low (cell_low low0.out hbl e0)
        have hs := bounds_u8 s0
        generalize z0x3[i]?.getD 0 = z at *
        have q1 := Int.emod_nonneg z (show (N : Int) ≠ 0 from h1)
        have q2 := Int.emod_lt_of_pos z hNp
        obtain ⟨k, hk0⟩ : ∃ k : Nat, (k : Int) = z % (N : Int) := ⟨(z % (N : Int)).toNat, Int.toNat_of_nonneg q1⟩
        have hkN : k < N := Int.ofNat_lt.1 (by rw [hk0]; exact q2)
        have t1 : z.tmod (N : Int) = (k : Int) := by rw [Int.tmod_eq_emod_of_nonneg hs.1]; exact hk0.symm
        clear q1 q2 hk0
        have hk9 : k < 100 := by omega
        have t2 : IntKind.i64.wrap z = z := by rw [IntKind.wrap_i64]; omega
        have t3 : IntKind.i64.wrap (k : Int) = (k : Int) := by rw [IntKind.wrap_i64]; omega
        have t4 : IntKind.i64.wrap (4294967246 + (k : Int)) = 4294967246 + (k : Int) := by rw [IntKind.wrap_i64]; omega
        have t5 : IntKind.u32.wrap (4294967246 + (k : Int)) = stp k := by rw [IntKind.wrap_u32]; rfl
        have t6 : (0 : Int) ≤ (k : Int) := by omega
        have t7 : (k : Int) < (N : Int) := by omega
        have hcA1 := hcA k hkN
        obtain ⟨c', hc'⟩ : ∃ c', cfT z0x1 (a0x0 + 1) (k + 1) = c' := ⟨_, rfl⟩
        have CK := cfT_ok z0x1 hn (k + 1)
        rw [hc'] at hcA1 CK
        replace CK := Lib.hid CK
        have HD := Lib.hid hc'
        obtain ⟨c8, h8⟩ : ∃ c8, c'.cep % 8 = c8 := ⟨_, rfl⟩
        have H8 := Lib.hid h8
        have t8 : bits .and .i64 c'.cep 7 = c8 := by rw [and7i]; exact h8
        have t9 : IntKind.u8.wrap c8 = c8 := by rw [IntKind.wrap_u8]; omega
        have CX : Hid (∀ X, Below W.heap.size W X → X.cell? ⟨gA, k * 4, none⟩ = some (.int .i64 c'.cep) ∧ X.cell? ⟨gA, k * 4 + 1, none⟩ = some (.int .i64 c'.ceb) ∧ X.cell? ⟨gA, k * 4 + 2, none⟩ = some (.int .i64 c'.e0) ∧ X.cell? ⟨gA, k * 4 + 3, none⟩ = some (.int .i64 c'.e1)) := Lib.hid (fun X o => ⟨cell_kept o hcA1.1, cell_kept o hcA1.2.1, cell_kept o hcA1.2.2.1, cell_kept o hcA1.2.2.2⟩)
        have hcB1 := hcB k hkN
        generalize bs[k]?.getD false = y at *
        have YX : Hid (∀ X, Below W.heap.size W X → X.cell? ⟨gB, k, none⟩ = some (.bool y)) := Lib.hid (fun X o => cell_kept o hcB1)
        have x0 := (CX.out _ HD0.out.snd.low).1
        have D1 := Lib.hid (HD0.out.kept (new_alloc (new_refl wr) (.cells #[.int .i64 0, .int .u32 (stp k), .int .u8 c8, .int .i64 (-1), .int .i64 (-1), .int .i64 (-1)] 31)))
        have HAk : Hid (Blk (wr.alloc (.cells #[.int .i64 0, .int .u32 (stp k), .int .u8 c8, .int .i64 (-1), .int .i64 (-1), .int .i64 (-1)] 31)) wr.heap.size [.int .i64 0, .int .u32 (stp k), .int .u8 c8, .int .i64 (-1), .int .i64 (-1), .int .i64 (-1)] 31) := Lib.hid (Blk.new wr [.int .i64 0, .int .u32 (stp k), .int .u8 c8, .int .i64 (-1), .int .i64 (-1), .int .i64 (-1)] _)
        have hga0 : W.heap.size ≤ wr.heap.size := HD0.out.snd.low.size
        have hga1 : wr.heap.size ≠ b := by have := Blk.lt HD0.out.snd.snd; omega
        have hga2 : wr.heap.size ≠ gl := by have := HD0.out.last.lt; omega
        have hga3 : wr.heap.size ≠ gt := by have := HD0.out.told.lt; omega
        have hb1 := YX.out _ D1.out.snd.low
        clear s0 hs hcA1 hcB1 hc' h8 hMM HD0
        go_upto_region 12 with (fail)
        generalize wr.alloc (.cells #[.int .i64 0, .int .u32 (stp k), .int .u8 c8, .int .i64 (-1), .int .i64 (-1), .int .i64 (-1)] 31) = W1 at *
        generalize wr.heap.size = ga at *
        clear e0 p3 t1 t2 t4 t5 t8 t9 x0
        cases y
        · skip
          have T := Lib.hid (fun wr => SIn.takeN (ks := z0x1) (n := a0x0 + 1) (k := k) (b := b) (W := W) HOK.out hi9 wr)
          have OKN := Lib.hid (ok_more hi9 HOK.out (akN_ok z0x1 (a0x0 + 1) k))
          have PP := HPF.out.untold hn HOK.out hk9
          rw [HD.out] at T
          rw [H8.out] at T
          generalize erK s (akN z0x1 (a0x0 + 1) k) = er at *
          generalize tkK s (akN z0x1 (a0x0 + 1) k) = s2 at *
          have k0 := HAk.out.cell 0 rfl
          have k1 := HAk.out.cell 1 rfl
          have k2 := HAk.out.cell 2 rfl
          have k3 := HAk.out.cell 3 rfl
          have k4 := HAk.out.cell 4 rfl
          have k5 := HAk.out.cell 5 rfl
          rcases PP with ⟨rfl, P2⟩ | ⟨rfl, P2⟩
          · skip
            go_upto_region 15 with (first
              | (go_at_call 8; refine (T.out _ D1.out.snd).mono ?_; rintro e w3 ⟨rfl, O3, S3⟩
                 have D3 := Lib.hid (D1.out.took O3 S3)
                 clear O3 S3))
            clear T D1
            clear k0 k1 k2 k3 k4 k5
            go_wp2_with fail
            go_roundg (M - (i + 1))
            case measure => omega
            case rel => exact ⟨i + 1, l, t, ex, s2, by go_num, rfl, rfl, rfl, by omega, by omega, OKN.out, P2, D3.out⟩
          · skip
            go_upto_region 15 with (first
              | (go_at_call 8; refine (T.out _ D1.out.snd).mono ?_; rintro e w3 ⟨rfl, O3, S3⟩
                 have D3 := Lib.hid (D1.out.took O3 S3)
                 clear O3 S3))
            clear T D1
            clear k0 k1 k2 k3 k4 k5
            have t3 := YX.out _ D3.out.snd.low
            go_upto_region 20 with (fail)
            clear t3
            have HB6 : Hid (0 ≤ s2.m ∧ s2.m ≤ 1000000000000000 ∧ 0 ≤ c'.cep ∧ c'.cep ≤ 1000) := Lib.hid (by have h1 := OKN.out.m; have h2 := OKN.out.few; have h3 := CK.out.cep; omega)
            have HM6 : Hid (s2.m % 8 = c'.cep % 8) := Lib.hid (by have := P2.mod; rw [HD.out] at this; exact this)
            have r0 := cell_by (CX.out _ D3.out.snd.low).1
            have r1 := cell_by (D3.out.last.cell 0 rfl)
            have hv5 : IntKind.i64.wrap (c'.cep - (cfT z0x1 (a0x0 + 1) l).cep) = c'.cep - (cfT z0x1 (a0x0 + 1) l).cep := by have h3 := CK.out.cep; have h4 := (cfT_ok z0x1 hn l).cep; have h5 := HPF.out.lN; rw [IntKind.wrap_i64]; omega
            rw [HD.out] at P2
            have HLC : Hid (c'.cep - (cfT z0x1 (a0x0 + 1) l).cep = c'.cep - (cfT z0x1 (a0x0 + 1) l).cep) := Lib.hid rfl
            generalize (cfT z0x1 (a0x0 + 1) l) = cl at *
            cases ex
            · skip
              refine wp_region_quiet_below (by kernel_rfl) (by kernel_rfl) ?_
              repeat (go_big_quiet_step (fail))
              refine wpQuiet_nil ?_
              intro _ hw'
              obtain ⟨⟨wq, Bq⟩, hw''⟩ := hw'
              subst hw''
              have D4 := Lib.hid (D3.out.kept Bq)
              clear r0 r1 hv5 D3 Bq
              obtain ⟨x0, x1, x2, x3⟩ := CX.out _ D4.out.snd.low
              have y0 := D4.out.last.cell 0 rfl
              have y1 := D4.out.last.cell 1 rfl
              have y2 := D4.out.last.cell 2 rfl
              have y3 := D4.out.last.cell 3 rfl
              have z0 := D4.out.last.frozen 0
              have z1 := D4.out.last.frozen 1
              have z2 := D4.out.last.frozen 2
              have z3 := D4.out.last.frozen 3
              go_upto_region 22 with (fail)
              have DL := Lib.hid (D4.out.setLast c')
              clear x0 x1 x2 x3 y0 y1 y2 y3 z0 z1 z2 z3 D4
              generalize ((((_ : World).setCell ⟨gl, 0, none⟩ (.int .i64 c'.cep)).setCell ⟨gl, 1, none⟩ (.int .i64 c'.ceb)).setCell ⟨gl, 2, none⟩ (.int .i64 c'.e0)).setCell ⟨gl, 3, none⟩ (.int .i64 c'.e1) = W6 at *
              have p6 := cell_by (DL.out.last.cell 0 rfl)
              have MK := Lib.hid (fun w' (h : SnB w' b s2) => marked19_any b s2 w' h)
              have hv6 : IntKind.i64.wrap (s2.m - c'.cep) = s2.m - c'.cep := by have := HB6.out; rw [IntKind.wrap_i64]; omega
              have ha6 : bits .and .i64 (s2.m - c'.cep) 7 = 0 := by have := HM6.out; rw [and7i]; omega
              refine wp_region_quiet_below (by kernel_rfl) (by kernel_rfl) ?_
              repeat (go_big_quiet_step (first
                | (go_at_call 10; refine calls_by_same (MK.out _ (Blk.kept DL.out.snd.snd (BelowBy.low _))))))
              refine wpQuiet_nil ?_
              intro _ hw'
              obtain ⟨⟨wq, Bq⟩, hw''⟩ := hw'
              subst hw''
              clear p6 hv6 ha6 MK
              go_wp2_with fail
              go_roundg (M - (i + 1))
              case measure => omega
              case rel => exact ⟨i + 1, k + 1, t, false, s2, by go_num, rfl, rfl, rfl, by omega, by omega, OKN.out, by simpa using P2, by rw [HD.out]; exact DL.out.kept Bq⟩
            · by_cases h7 : c'.cep - cl.cep ≤ 7
              · skip
                have h8 : decide (c'.cep - cl.cep ≤ 7) = true := by simp; omega
                refine wp_region_quiet_below (by kernel_rfl) (by kernel_rfl) ?_
                repeat (go_big_quiet_step (fail))
                refine wpQuiet_nil ?_
                intro _ hw'
                obtain ⟨⟨wq, Bq⟩, hw''⟩ := hw'
                subst hw''
                have D4 := Lib.hid (D3.out.kept Bq)
                rw [h8] at P2
                clear r0 r1 hv5 D3 Bq h8 h7
                have HEX : Hid (s2.m = c'.cep) := Lib.hid (by have := P2.exact' rfl; rw [HD.out] at this; exact this)
                obtain ⟨x0, x1, x2, x3⟩ := CX.out _ D4.out.snd.low
                have y0 := D4.out.last.cell 0 rfl
                have y1 := D4.out.last.cell 1 rfl
                have y2 := D4.out.last.cell 2 rfl
                have y3 := D4.out.last.cell 3 rfl
                have z0 := D4.out.last.frozen 0
                have z1 := D4.out.last.frozen 1
                have z2 := D4.out.last.frozen 2
                have z3 := D4.out.last.frozen 3
                go_upto_region 22 with (fail)
                have DL := Lib.hid (D4.out.setLast c')
                clear x0 x1 x2 x3 y0 y1 y2 y3 z0 z1 z2 z3 D4
                generalize ((((_ : World).setCell ⟨gl, 0, none⟩ (.int .i64 c'.cep)).setCell ⟨gl, 1, none⟩ (.int .i64 c'.ceb)).setCell ⟨gl, 2, none⟩ (.int .i64 c'.e0)).setCell ⟨gl, 3, none⟩ (.int .i64 c'.e1) = W6 at *
                have p6 := cell_by (DL.out.last.cell 0 rfl)
                have hne : (s2.m != c'.cep) = false := by rw [HEX.out]; simp
                have MK := Lib.hid (fun w' (h : SnB w' b s2) => marked19_any b s2 w' h)
                have hv6 : IntKind.i64.wrap (s2.m - c'.cep) = s2.m - c'.cep := by have := HB6.out; rw [IntKind.wrap_i64]; omega
                have ha6 : bits .and .i64 (s2.m - c'.cep) 7 = 0 := by have := HM6.out; rw [and7i]; omega
                refine wp_region_quiet_below (by kernel_rfl) (by kernel_rfl) ?_
                repeat (go_big_quiet_step (first
                  | (go_at_call 10; refine calls_by_same (MK.out _ (Blk.kept DL.out.snd.snd (BelowBy.low _))))))
                refine wpQuiet_nil ?_
                intro _ hw'
                obtain ⟨⟨wq, Bq⟩, hw''⟩ := hw'
                subst hw''
                clear p6 hv6 ha6 hne MK
                go_wp2_with fail
                go_roundg (M - (i + 1))
                case measure => omega
                case rel => exact ⟨i + 1, k + 1, t, true, s2, by go_num, rfl, rfl, rfl, by omega, by omega, OKN.out, by simpa using P2, by rw [HD.out]; exact DL.out.kept Bq⟩
              · skip
                have h8 : decide (c'.cep - cl.cep ≤ 7) = false := by simp; omega
                refine wp_region_quiet_below (by kernel_rfl) (by kernel_rfl) ?_
                repeat (go_big_quiet_step (fail))
                refine wpQuiet_nil ?_
                intro _ hw'
                obtain ⟨⟨wq, Bq⟩, hw''⟩ := hw'
                subst hw''
                have D4 := Lib.hid (D3.out.kept Bq)
                rw [h8] at P2
                clear r0 r1 hv5 D3 Bq h8 h7
                obtain ⟨x0, x1, x2, x3⟩ := CX.out _ D4.out.snd.low
                have y0 := D4.out.last.cell 0 rfl
                have y1 := D4.out.last.cell 1 rfl
                have y2 := D4.out.last.cell 2 rfl
                have y3 := D4.out.last.cell 3 rfl
                have z0 := D4.out.last.frozen 0
                have z1 := D4.out.last.frozen 1
                have z2 := D4.out.last.frozen 2
                have z3 := D4.out.last.frozen 3
                go_upto_region 22 with (fail)
                have DL := Lib.hid (D4.out.setLast c')
                clear x0 x1 x2 x3 y0 y1 y2 y3 z0 z1 z2 z3 D4
                generalize ((((_ : World).setCell ⟨gl, 0, none⟩ (.int .i64 c'.cep)).setCell ⟨gl, 1, none⟩ (.int .i64 c'.ceb)).setCell ⟨gl, 2, none⟩ (.int .i64 c'.e0)).setCell ⟨gl, 3, none⟩ (.int .i64 c'.e1) = W6 at *
                have p6 := cell_by (DL.out.last.cell 0 rfl)
                have MK := Lib.hid (fun w' (h : SnB w' b s2) => marked19_any b s2 w' h)
                have hv6 : IntKind.i64.wrap (s2.m - c'.cep) = s2.m - c'.cep := by have := HB6.out; rw [IntKind.wrap_i64]; omega
                have ha6 : bits .and .i64 (s2.m - c'.cep) 7 = 0 := by have := HM6.out; rw [and7i]; omega
                refine wp_region_quiet_below (by kernel_rfl) (by kernel_rfl) ?_
                repeat (go_big_quiet_step (first
                  | (go_at_call 10; refine calls_by_same (MK.out _ (Blk.kept DL.out.snd.snd (BelowBy.low _))))))
                refine wpQuiet_nil ?_
                intro _ hw'
                obtain ⟨⟨wq, Bq⟩, hw''⟩ := hw'
                subst hw''
                clear p6 hv6 ha6 MK
                go_wp2_with fail
                go_roundg (M - (i + 1))
                case measure => omega
                case rel => exact ⟨i + 1, k + 1, t, false, s2, by go_num, rfl, rfl, rfl, by omega, by omega, OKN.out, by simpa using P2, by rw [HD.out]; exact DL.out.kept Bq⟩
        · skip
          have T := Lib.hid (fun wr => SIn.takeT (ks := z0x1) (n := a0x0 + 1) (k := k) (b := b) (W := W) HOK.out hi9 wr)
          have OKN := Lib.hid (ok_more hi9 HOK.out (akT_ok z0x1 (a0x0 + 1) k))
          have PP := HPF.out.told hn HOK.out hk9
          have BY := Lib.hid (fun w => refBytesT_any c' (k + 1) CK.out (by omega) w)
          unfold BytT at BY
          rw [HD.out] at T
          rw [H8.out] at T
          generalize c'.e0 % 16777216 = m0 at *
          generalize c'.ceb % 16777216 = m1 at *
          generalize c'.e1 % 16777216 = m2 at *
          generalize erK s (akT z0x1 (a0x0 + 1) k) = er at *
          generalize tkK s (akT z0x1 (a0x0 + 1) k) = s2 at *
          obtain ⟨x0, x1, x2, x3⟩ := CX.out _ D1.out.snd.low
          go_upto_region 14 with (first
            | (go_at_call 14; refine (BY.out _).mono ?_; rintro e w5 ⟨rfl, B5⟩
               have A5 := HAk.out.kept B5
               have k3 := A5.cell 3 rfl
               have k4 := A5.cell 4 rfl
               have k5 := A5.cell 5 rfl
               have f3 := A5.frozen 3
               have f4 := A5.frozen 4
               have f5 := A5.frozen 5
               have A6 := Lib.hid (((A5.set 3 (.int .i64 m0)).set 4 (.int .i64 m1)).set 5 (.int .i64 m2))
               have D6 := Lib.hid ((((D1.out.kept B5).else hga0 hga1 hga2 hga3 3 (.int .i64 m0)).else hga0 hga1 hga2 hga3 4 (.int .i64 m1)).else hga0 hga1 hga2 hga3 5 (.int .i64 m2))))
          clear x0 x1 x2 x3 D1 HAk k3 k4 k5 f3 f4 f5 A5 B5 BY
          generalize (((w5.setCell ⟨ga, 3, none⟩ (.int .i64 m0)).setCell ⟨ga, 4, none⟩ (.int .i64 m1)).setCell ⟨ga, 5, none⟩ (.int .i64 m2)) = W5 at *
          have D1 := D6
          clear D6
          have k0 := A6.out.cell 0 rfl
          have k1 := A6.out.cell 1 rfl
          have k2 := A6.out.cell 2 rfl
          have k3 := A6.out.cell 3 rfl
          have k4 := A6.out.cell 4 rfl
          have k5 := A6.out.cell 5 rfl
          rcases PP with ⟨rfl, P2⟩ | ⟨rfl, P2⟩
          · skip
            go_upto_region 15 with (first
              | (go_at_call 8; refine (T.out _ D1.out.snd).mono ?_; rintro e w3 ⟨rfl, O3, S3⟩
                 have D3 := Lib.hid (D1.out.took O3 S3)
                 clear O3 S3))
            clear T D1
            clear k0 k1 k2 k3 k4 k5
            go_wp2_with fail
            go_roundg (M - (i + 1))
            case measure => omega
            case rel => exact ⟨i + 1, l, t, ex, s2, by go_num, rfl, rfl, rfl, by omega, by omega, OKN.out, P2, D3.out⟩
          · skip
            go_upto_region 15 with (first
              | (go_at_call 8; refine (T.out _ D1.out.snd).mono ?_; rintro e w3 ⟨rfl, O3, S3⟩
                 have D3 := Lib.hid (D1.out.took O3 S3)
                 clear O3 S3))
            clear T D1
            clear k0 k1 k2 k3 k4 k5 A6
            have t3 := YX.out _ D3.out.snd.low
            go_upto_region 17 with (fail)
            clear t3
            have HB6 : Hid (0 ≤ s2.m ∧ s2.m ≤ 1000000000000000 ∧ 0 ≤ c'.cep ∧ c'.cep ≤ 1000) := Lib.hid (by have h1 := OKN.out.m; have h2 := OKN.out.few; have h3 := CK.out.cep; omega)
            have HM6 : Hid (s2.m % 8 = c'.cep % 8) := Lib.hid (by have := P2.mod; rw [HD.out] at this; exact this)
            have HEX : Hid (s2.m = c'.cep) := Lib.hid (by have := P2.exact' rfl; rw [HD.out] at this; exact this)
            obtain ⟨u0, u1, u2, u3⟩ := CX.out _ D3.out.snd.low
            have r0 := cell_by u0
            have r1 := cell_by u1
            have r2 := cell_by u2
            have r3 := cell_by u3
            have r4 := cell_by (D3.out.told.cell 0 rfl)
            have r5 := cell_by (D3.out.told.cell 1 rfl)
            have r6 := cell_by (D3.out.told.cell 2 rfl)
            have r7 := cell_by (D3.out.told.cell 3 rfl)
            have RO := Lib.hid (fun w => roseT_any (cfT z0x1 (a0x0 + 1) t) c' t (k + 1) (cfT_ok z0x1 hn t) CK.out (by have := HPF.out.tl; have := HPF.out.lN; omega) (by omega) w)
            clear u0 u1 u2 u3
            generalize (cfT z0x1 (a0x0 + 1) t) = ct at *
            refine wp_region_quiet_below (by kernel_rfl) (by kernel_rfl) ?_
            repeat (go_big_quiet_step (first
              | (go_at_call 15; refine calls_by (RO.out _))))
            refine wpQuiet_nil ?_
            intro _ hw'
            obtain ⟨⟨wq, Bq⟩, hw''⟩ := hw'
            subst hw''
            have D4 := Lib.hid (D3.out.kept Bq)
            clear r0 r1 r2 r3 r4 r5 r6 r7 D3 Bq RO
            obtain ⟨x0, x1, x2, x3⟩ := CX.out _ D4.out.snd.low
            have y0 := D4.out.told.cell 0 rfl
            have y1 := D4.out.told.cell 1 rfl
            have y2 := D4.out.told.cell 2 rfl
            have y3 := D4.out.told.cell 3 rfl
            have z0 := D4.out.told.frozen 0
            have z1 := D4.out.told.frozen 1
            have z2 := D4.out.told.frozen 2
            have z3 := D4.out.told.frozen 3
            go_upto_region 21 with (fail)
            have D5 := Lib.hid (D4.out.setTold c')
            clear x0 x1 x2 x3 y0 y1 y2 y3 z0 z1 z2 z3 D4
            generalize ((((_ : World).setCell ⟨gt, 0, none⟩ (.int .i64 c'.cep)).setCell ⟨gt, 1, none⟩ (.int .i64 c'.ceb)).setCell ⟨gt, 2, none⟩ (.int .i64 c'.e0)).setCell ⟨gt, 3, none⟩ (.int .i64 c'.e1) = W7 at *
            obtain ⟨x0, x1, x2, x3⟩ := CX.out _ D5.out.snd.low
            have y0 := D5.out.last.cell 0 rfl
            have y1 := D5.out.last.cell 1 rfl
            have y2 := D5.out.last.cell 2 rfl
            have y3 := D5.out.last.cell 3 rfl
            have z0 := D5.out.last.frozen 0
            have z1 := D5.out.last.frozen 1
            have z2 := D5.out.last.frozen 2
            have z3 := D5.out.last.frozen 3
            go_upto_region 22 with (fail)
            have DL := Lib.hid (D5.out.setLast c')
            clear x0 x1 x2 x3 y0 y1 y2 y3 z0 z1 z2 z3 D5
            generalize ((((_ : World).setCell ⟨gl, 0, none⟩ (.int .i64 c'.cep)).setCell ⟨gl, 1, none⟩ (.int .i64 c'.ceb)).setCell ⟨gl, 2, none⟩ (.int .i64 c'.e0)).setCell ⟨gl, 3, none⟩ (.int .i64 c'.e1) = W6 at *
            have p6 := cell_by (DL.out.last.cell 0 rfl)
            have hne : (s2.m != c'.cep) = false := by rw [HEX.out]; simp
            have MK := Lib.hid (fun w' (h : SnB w' b s2) => marked19_any b s2 w' h)
            have hv6 : IntKind.i64.wrap (s2.m - c'.cep) = s2.m - c'.cep := by have := HB6.out; rw [IntKind.wrap_i64]; omega
            have ha6 : bits .and .i64 (s2.m - c'.cep) 7 = 0 := by have := HM6.out; rw [and7i]; omega
            refine wp_region_quiet_below (by kernel_rfl) (by kernel_rfl) ?_
            repeat (go_big_quiet_step (first
              | (go_at_call 10; refine calls_by_same (MK.out _ (Blk.kept DL.out.snd.snd (BelowBy.low _))))))
            refine wpQuiet_nil ?_
            intro _ hw'
            obtain ⟨⟨wq, Bq⟩, hw''⟩ := hw'
            subst hw''
            clear p6 hv6 ha6 hne MK
            go_wp2_with fail
            go_roundg (M - (i + 1))
            case measure => omega
            case rel => exact ⟨i + 1, k + 1, k + 1, true, s2, by go_num, rfl, rfl, rfl, by omega, by omega, OKN.out, P2, by rw [HD.out]; exact DL.out.kept Bq⟩
      · obtain rfl : i = M := by omega
        have hend : ((i : Int) < (len0x3 : Int) ∧ ¬ (i : Int) < 100) ∨ ¬ (i : Int) < (len0x3 : Int) := by omega
        clear hMM
        rcases hend with ⟨h2, h3⟩ | h2
        · have h4 : (100 : Int) ≤ (i : Int) := by omega
          go_wp2_with (first
            | (go_at_call 12; refine (works19_any _).mono ?_; rintro e w7 ⟨rfl, B7⟩))
          go_ret
          exact ⟨rfl, new_then (new_then low0.out HD0.out.snd.low) B7⟩
        · have h4 : (len0x3 : Int) ≤ (i : Int) := by omega
          go_wp2_with (first
            | (go_at_call 12; refine (works19_any _).mono ?_; rintro e w7 ⟨rfl, B7⟩))
          go_ret
          exact ⟨rfl, new_then (new_then low0.out HD0.out.snd.low) B7⟩

set_option maxRecDepth 100000 in
theorem lifted (os : Os) (started : os.Started) (H : Type) (enc : TypeId × Value → H) :
    ReturnsInHanded {} Try.checked os 5 .any (Rows.feedbackCountsSpec.pre6 enc Try.prog Try.f5 Rows.feedbackCountsRow.domain false) (Rows.feedbackCountsSpec.post enc Try.prog Try.f5 false true false false) := by
  refine returnsInHanded_of_change (C := Try.checked) own started (by kernel_rfl) Try.func5
    (ChangeSpec.witness6 (enc := enc) (C := Try.checked) false ⟨#[], #[.agg #[.int .u16 0, .slice none 0 0, .slice none 0 0, .slice none 0 0]], []⟩ 8 (by kernel_rfl) (by kernel_rfl) (by kernel_rfl) (by kernel_rfl)) ?_
  intro W base args ds gs before hval0 hW hcnd _
  have hval : ∀ (j : Nat) t v, Try.f5.params[j]? = some t → args[j]? = some v → Value.okWide Try.prog W .any base t v := hval0
  have hW' := hW
  obtain ⟨p, q, hA0, hV, rfl, hfz, hnd⟩ := hW
  have hA : DataW.TrodAll enc Try.prog W 0 (fun _ => true) true Try.f5.params.toList args.toList ds p := hA0
  rw [Try.params5] at hA hval
  obtain ⟨v0, vs0, d0, ds0, p0, q0, hargs, rfl, rfl, h0, r0⟩ := trodAll_cons hA
  obtain ⟨rfl, rfl, rfl⟩ := trodAll_nil r0
  obtain rfl : args = #[v0] := by cases args; simp_all
  obtain ⟨rfl, rfl⟩ := trodVars_none hV
  have k0 := h0
  have lt0 : ∀ x ∈ p0, x.block < W.heap.size := by obtain ⟨m, hm⟩ := k0; exact DataW.trod_lt m _ _ _ hm
  obtain ⟨cs0, rfl, l0, L0⟩ := flatP_of (n := 4) (ls := [(0, .inl (.inl .u16)), (1, .inl (.inr (.inr .u8))), (2, .inr (1, [(0, .inr (.inl false))])), (3, .inl (.inr (.inr .u8)))]) (by kernel_rfl) (by kernel_rfl) (agg_of_struct Try.underlying46 (hval 0 46 v0 rfl rfl)) h0
  obtain ⟨a0x0, e0x0, w0x0⟩ := lg_int (L0 (0, .inl (.inl .u16)) (by simp))
  obtain ⟨a0x1, len0x1, cap0x1, z0x1, e0x1, w0x1⟩ := lg_ints (L0 (1, .inl (.inr (.inr .u8))) (by simp))
  obtain ⟨a0x2, len0x2, cap0x2, e0x2, w0x2⟩ := lg_rows (L0 (2, .inr (1, [(0, .inr (.inl false))])) (by simp))
  obtain ⟨a0x3, len0x3, cap0x3, z0x3, e0x3, w0x3⟩ := lg_ints (L0 (3, .inl (.inr (.inr .u8))) (by simp))
  obtain rfl : cs0 = [.int .u16 a0x0, .slice a0x1 len0x1 cap0x1, .slice a0x2 len0x2 cap0x2, .slice a0x3 len0x3 cap0x3] := list_is l0 rfl (by intro i hi; match i, hi with | 0, _ => exact e0x0 | 1, _ => exact e0x1 | 2, _ => exact e0x2 | 3, _ => exact e0x3)
  clear hA0 hval0
  refine (walk a0x0 a0x1 len0x1 cap0x1 z0x1 a0x2 len0x2 cap0x2 a0x3 len0x3 cap0x3 z0x3 W w0x0 w0x1 w0x2 w0x3).mono fun e W' ⟨he, bel⟩ => ?_
  subst he
  exact ⟨_, rfl, _, _, _, [], _, [], hW', trodAll_mk1 (shut_bool Try.underlying4 _), (trodAll_cons_mk (Below.trod laidOut (by kernel_rfl) (of_decide_eq_true (by kernel_rfl)) k0 bel lt0) trodAll_mk0), rfl, bel.frame _, fun h => by cases h⟩

theorem over : Rows.feedbackCountsRow.holds Try.pinned (OpenSpec.ofChange Rows.feedbackCountsSpec) :=
  OpenClaim.holds_of_wide 5 Try.f5 rfl rfl rfl rfl rfl rfl rfl ⟨rfl, rfl, rfl, rfl, rfl⟩ rfl rfl rfl rfl rfl (by kernel_rfl) Try.func5 (by kernel_rfl)
    (of_decide_eq_true (by kernel_rfl)) (by unfold Func.isWrapper; first | (rw [if_pos (by decide +kernel)]; kernel_rfl) | (rw [if_neg (by decide +kernel)]; exact ⟨rfl, rfl⟩))
    (fun os started H enc _ => lifted os started H enc)
end feedbackCounts
theorem feedbackCounts_holds : Rows.FeedbackCountsSaid := feedbackCounts.over
end Go.Proofs.Ytfoonfmhamaclaa
