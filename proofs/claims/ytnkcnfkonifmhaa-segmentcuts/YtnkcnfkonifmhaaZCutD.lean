/- SegmentCuts walked. -/
import Derived.Test.YtnkcnfkonifmhaaZCutC
namespace Go.Proofs.Ytnkcnfkonifmhaa
open Go.RowKit
set_option linter.unusedVariables false

/-- A row of so many segments of its own. -/
def CutN (w : World) (M : Nat) (L : List SgC) (e : Ending) (w' : World) : Prop :=
  ∃ g c, e = .returned (.slice (some ⟨g, 0, none⟩) M c) ∧ OwnSg w' w.heap.size (.slice (some ⟨g, 0, none⟩) M c) L ∧ Below w.heap.size w w'
theorem CutTo.few {w w' : World} {L : List SgC} {M : Nat} {e : Ending} (h : CutTo w L e w') (hl : L.length = M) : CutN w M L e w' := by
  subst hl
  exact h
theorem row_kept {w w' : World} {base g n c i : Nat} {L : List SgC} {y : SgC} (O : OwnSg w base (.slice (some ⟨g, 0, none⟩) n c) L) (hi : i < L.length) (hy : L[i] = y) (B : Below w.heap.size w w') : w'.cell? ⟨g, i * 12, none⟩ = some (.int .u16 y.h.src) ∧ w'.cell? ⟨g, i * 12 + 1, none⟩ = some (.int .u16 y.h.dst) ∧ w'.cell? ⟨g, i * 12 + 2, none⟩ = some (.int .u32 y.h.seq) ∧ w'.cell? ⟨g, i * 12 + 3, none⟩ = some (.int .u32 y.h.ack) ∧ w'.cell? ⟨g, i * 12 + 4, none⟩ = some (.int .u8 y.h.off) ∧ w'.cell? ⟨g, i * 12 + 5, none⟩ = some (.int .u8 y.h.ace) ∧ w'.cell? ⟨g, i * 12 + 6, none⟩ = some (.int .u8 y.h.fl) ∧ w'.cell? ⟨g, i * 12 + 7, none⟩ = some (.int .u16 y.h.win) ∧ w'.cell? ⟨g, i * 12 + 8, none⟩ = some (.int .u16 y.h.sum) ∧ w'.cell? ⟨g, i * 12 + 9, none⟩ = some (.int .u16 y.h.urg) ∧ w'.cell? ⟨g, i * 12 + 10, none⟩ = some (.slice none 0 0) ∧ w'.cell? ⟨g, i * 12 + 11, none⟩ = some (.string y.d) := by
  have O' := O.kept B
  subst hy
  exact ⟨O'.cells encSg_is hi (j := 0) rfl, O'.cells encSg_is hi (j := 1) rfl, O'.cells encSg_is hi (j := 2) rfl, O'.cells encSg_is hi (j := 3) rfl, O'.cells encSg_is hi (j := 4) rfl, O'.cells encSg_is hi (j := 5) rfl, O'.cells encSg_is hi (j := 6) rfl, O'.cells encSg_is hi (j := 7) rfl, O'.cells encSg_is hi (j := 8) rfl, O'.cells encSg_is hi (j := 9) rfl, O'.cells encSg_is hi (j := 10) rfl, O'.cells encSg_is hi (j := 11) rfl⟩
theorem and_tw {P0 P1 P2 P3 P4 P5 P6 P7 P8 P9 P10 P11 Q : Prop} (h : P0 ∧ P1 ∧ P2 ∧ P3 ∧ P4 ∧ P5 ∧ P6 ∧ P7 ∧ P8 ∧ P9 ∧ P10 ∧ P11) (q : Q) : P0 ∧ P1 ∧ P2 ∧ P3 ∧ P4 ∧ P5 ∧ P6 ∧ P7 ∧ P8 ∧ P9 ∧ P10 ∧ P11 ∧ Q := by
  obtain ⟨h0, h1, h2, h3, h4, h5, h6, h7, h8, h9, h10, h11⟩ := h
  exact ⟨h0, h1, h2, h3, h4, h5, h6, h7, h8, h9, h10, h11, q⟩
def LawI (W : World) (M gh : Nat) (vi : Value) (wr : World) : Prop := ∃ i : Nat, vi = .int .i64 (i : Int) ∧ M - i = gh ∧ i ≤ M ∧ Below W.heap.size W wr
set_option maxRecDepth 100000 in
set_option maxHeartbeats 8000000 in
theorem segCuts_any (h : Hd) (ok : HdOk h) (d : ByteArray) (mss : Int) (w : World) (hd : d.size ≤ maxLen) (hm : -9223372036854775808 ≤ mss ∧ mss ≤ 9223372036854775807) :
    Calls Try.prog 7 #[.agg #[.int .u16 h.src, .int .u16 h.dst, .int .u32 h.seq, .int .u32 h.ack, .int .u8 h.off, .int .u8 h.ace, .int .u8 h.fl, .int .u16 h.win, .int .u16 h.sum, .int .u16 h.urg], .string d, .int .i64 mss] w fun e w' => e = .returned (.bool true) ∧ Below w.heap.size w w' := by
  have BH := Blk.new w (hdV h) 27
  have L0 := new_alloc (new_refl w) (.cells #[.int .u16 h.src, .int .u16 h.dst, .int .u32 h.seq, .int .u32 h.ack, .int .u8 h.off, .int .u8 h.ace, .int .u8 h.fl, .int .u16 h.win, .int .u16 h.sum, .int .u16 h.urg] 27)
  have OK := Lib.hid ok
  unfold maxLen at hd
  obtain ⟨m0, m1⟩ := hm
  clear ok
  go_enter Try.func7, Try.ntmps7
  go_upto_region 1 with (fail)
  generalize w.alloc (.cells #[.int .u16 h.src, .int .u16 h.dst, .int .u32 h.seq, .int .u32 h.ack, .int .u8 h.off, .int .u8 h.ace, .int .u8 h.fl, .int .u16 h.win, .int .u16 h.sum, .int .u16 h.urg] 27) = W at BH L0 ⊢
  go_cut [1] (fun v wx => ∃ dd : ByteArray, v = .string dd ∧ dd.size ≤ 300 ∧ W = wx)
  case first =>
    by_cases h3 : d.size ≤ 300
    · have s1 : (d.size : Int) ≤ 300 := by omega
      have s2 : (0 : Int) ≤ (d.size : Int) := by omega
      go_wp2_with fail
      go_meet
      case rel => exact ⟨d, rfl, h3, rfl⟩
    · have s1 : (300 : Int) < (d.size : Int) := by omega
      have s2 : (300 : Int) ≤ (d.size : Int) := by omega
      go_wp2_with fail
      go_meet
      case rel => exact ⟨d.extract 0 300, rfl, by rw [ByteArray.size_extract]; omega, rfl⟩
  case rest =>
    obtain ⟨dd, rfl, hdd, rfl⟩ := hcut
    clear hd
    obtain ⟨S, hS⟩ : ∃ S : Nat, (mss < 1 ∧ S = 1) ∨ (1 ≤ mss ∧ mss ≤ 65000 ∧ mss = (S : Int)) ∨ (65000 < mss ∧ S = 65000) := by
      by_cases h1 : mss < 1
      · exact ⟨1, .inl ⟨h1, rfl⟩⟩
      · by_cases h2 : mss ≤ 65000
        · exact ⟨mss.toNat, .inr (.inl ⟨by omega, h2, by omega⟩)⟩
        · exact ⟨65000, .inr (.inr ⟨by omega, rfl⟩)⟩
    obtain ⟨M, hM⟩ : ∃ M, M = max ((dd.size + S - 1) / S) 1 := ⟨_, rfl⟩
    have hS1 : 1 ≤ S := by omega
    obtain ⟨hM1, hM2⟩ := cut_few hS1 hdd hM
    obtain ⟨L, hL⟩ : ∃ L, cutC h dd S M M = L := ⟨_, rfl⟩
    have hLl : L.length = M := by rw [← hL, cutC_len]
    have C1 : Hid (∀ w', Calls Try.prog 16 #[.agg #[.int .u16 h.src, .int .u16 h.dst, .int .u32 h.seq, .int .u32 h.ack, .int .u8 h.off, .int .u8 h.ace, .int .u8 h.fl, .int .u16 h.win, .int .u16 h.sum, .int .u16 h.urg], .string dd, .int .i64 mss] w' (CutN w' M L)) := Lib.hid (fun w' => (cutS_any h OK.out dd mss S M w' hdd hS hM).mono fun e w'' k => by rw [hL] at k; exact k.few hLl)
    have C2 : Hid (∀ w', Calls Try.prog 17 #[.agg #[.int .u16 h.src, .int .u16 h.dst, .int .u32 h.seq, .int .u32 h.ack, .int .u8 h.off, .int .u8 h.ace, .int .u8 h.fl, .int .u16 h.win, .int .u16 h.sum, .int .u16 h.urg], .string dd, .int .i64 mss] w' (CutN w' M L)) := Lib.hid (fun w' => (refCutS_any h OK.out dd mss S M w' hdd hS hM).mono fun e w'' k => by rw [hL] at k; exact k.few hLl)
    have HLl := Lib.hid hLl
    clear hS hM hL hLl hS1 hdd
    go_upto_region 2 with (fail)
    go_cut [7, 8] (fun v u wx => ∃ g1 c1 g2 c2 : Nat, v = .slice (some ⟨g1, 0, none⟩) M c1 ∧ u = .slice (some ⟨g2, 0, none⟩) M c2 ∧ OwnSg wx 0 (.slice (some ⟨g1, 0, none⟩) M c1) L ∧ OwnSg wx 0 (.slice (some ⟨g2, 0, none⟩) M c2) L ∧ Below W.heap.size W wx)
    case first =>
      have HB := Lib.hid BH
      have c0 := BH.cell 0 rfl; have c1 := BH.cell 1 rfl; have c2 := BH.cell 2 rfl; have c3 := BH.cell 3 rfl; have c4 := BH.cell 4 rfl; have c5 := BH.cell 5 rfl; have c6 := BH.cell 6 rfl; have c7 := BH.cell 7 rfl; have c8 := BH.cell 8 rfl; have c9 := BH.cell 9 rfl
      go_region_held3 (fun w' => w'.cell? ⟨w.heap.size, 0, none⟩ = some (.int .u16 h.src) ∧ w'.cell? ⟨w.heap.size, 1, none⟩ = some (.int .u16 h.dst) ∧ w'.cell? ⟨w.heap.size, 2, none⟩ = some (.int .u32 h.seq) ∧ w'.cell? ⟨w.heap.size, 3, none⟩ = some (.int .u32 h.ack) ∧ w'.cell? ⟨w.heap.size, 4, none⟩ = some (.int .u8 h.off) ∧ w'.cell? ⟨w.heap.size, 5, none⟩ = some (.int .u8 h.ace) ∧ w'.cell? ⟨w.heap.size, 6, none⟩ = some (.int .u8 h.fl) ∧ w'.cell? ⟨w.heap.size, 7, none⟩ = some (.int .u16 h.win) ∧ w'.cell? ⟨w.heap.size, 8, none⟩ = some (.int .u16 h.sum) ∧ w'.cell? ⟨w.heap.size, 9, none⟩ = some (.int .u16 h.urg))
        (first | go_keep | exact ten_kept B2 (ten_kept B1 ⟨c0, c1, c2, c3, c4, c5, c6, c7, c8, c9⟩) | exact ten_kept B1 ⟨c0, c1, c2, c3, c4, c5, c6, c7, c8, c9⟩)
        (first
          | (go_at_call 17; refine (C2.out _).mono ?_; rintro e w2 ⟨g2, k2, rfl, O2, B2⟩)
          | (go_at_call 16; refine (C1.out _).mono ?_; rintro e w1 ⟨g1, k1, rfl, O1, B1⟩; replace B1 := new_undrew B1))
      all_goals
        clear c0 c1 c2 c3 c4 c5 c6 c7 c8 c9
        go_wp2_with fail
        go_meet
        case rel => exact ⟨g1, k1, g2, k2, rfl, rfl, (O1.kept B2).mono (Nat.zero_le _), O2.mono (Nat.zero_le _), new_then B1 B2⟩
    case rest =>
      obtain ⟨g1, k1, g2, k2, rfl, rfl, O1, O2, BW⟩ := hcut
      have LL := new_then L0 BW
      clear BH L0 BW C1 C2
      go_wp2_with fail
      go_loopg [30] M (fun gh vi wr => LawI wc M gh vi wr)
      case atStart => exact ⟨0, rfl, rfl, by omega, new_refl wc⟩
      case round =>
        obtain ⟨i, rfl, rfl, hi, BI⟩ := hrel
        by_cases hlt : i < M
        · have k0 : (0 : Int) ≤ (i : Int) := by omega
          have k1' : (i : Int) < (M : Int) := by omega
          have hiL : i < L.length := by rw [HLl.out]; exact hlt
          obtain ⟨y, hy⟩ : ∃ y, L[i] = y := ⟨_, rfl⟩
          have HS1 := Lib.hid (fun w' (B : Below wc.heap.size wc w') => row_kept O1 hiL hy B)
          have HS2 := Lib.hid (fun w' (B : Below wc.heap.size wc w') => row_kept O2 hiL hy B)
          have CS := Lib.hid (fun w' => same13_any y.h none none 0 0 0 [] [] y.d w' (opts_none _ _) (opts_none _ _) rfl (by decide))
          obtain ⟨p0, p1, p2, p3, p4, p5, p6, p7, p8, p9, p10, p11⟩ := HS1.out _ BI
          obtain ⟨r0, r1, r2, r3, r4, r5, r6, r7, r8, r9, r10, r11⟩ := HS2.out _ BI
          clear hy
          go_upto_region 8 with (fail)
          have BJ := Lib.hid BI
          go_region_held3 (fun w' => w'.cell? ⟨g1, i * 12, none⟩ = some (.int .u16 y.h.src) ∧ w'.cell? ⟨g1, i * 12 + 1, none⟩ = some (.int .u16 y.h.dst) ∧ w'.cell? ⟨g1, i * 12 + 2, none⟩ = some (.int .u32 y.h.seq) ∧ w'.cell? ⟨g1, i * 12 + 3, none⟩ = some (.int .u32 y.h.ack) ∧ w'.cell? ⟨g1, i * 12 + 4, none⟩ = some (.int .u8 y.h.off) ∧ w'.cell? ⟨g1, i * 12 + 5, none⟩ = some (.int .u8 y.h.ace) ∧ w'.cell? ⟨g1, i * 12 + 6, none⟩ = some (.int .u8 y.h.fl) ∧ w'.cell? ⟨g1, i * 12 + 7, none⟩ = some (.int .u16 y.h.win) ∧ w'.cell? ⟨g1, i * 12 + 8, none⟩ = some (.int .u16 y.h.sum) ∧ w'.cell? ⟨g1, i * 12 + 9, none⟩ = some (.int .u16 y.h.urg) ∧ w'.cell? ⟨g1, i * 12 + 10, none⟩ = some (.slice none 0 0) ∧ w'.cell? ⟨g1, i * 12 + 11, none⟩ = some (.string y.d) ∧ w'.cell? ⟨g2, i * 12, none⟩ = some (.int .u16 y.h.src) ∧ w'.cell? ⟨g2, i * 12 + 1, none⟩ = some (.int .u16 y.h.dst) ∧ w'.cell? ⟨g2, i * 12 + 2, none⟩ = some (.int .u32 y.h.seq) ∧ w'.cell? ⟨g2, i * 12 + 3, none⟩ = some (.int .u32 y.h.ack) ∧ w'.cell? ⟨g2, i * 12 + 4, none⟩ = some (.int .u8 y.h.off) ∧ w'.cell? ⟨g2, i * 12 + 5, none⟩ = some (.int .u8 y.h.ace) ∧ w'.cell? ⟨g2, i * 12 + 6, none⟩ = some (.int .u8 y.h.fl) ∧ w'.cell? ⟨g2, i * 12 + 7, none⟩ = some (.int .u16 y.h.win) ∧ w'.cell? ⟨g2, i * 12 + 8, none⟩ = some (.int .u16 y.h.sum) ∧ w'.cell? ⟨g2, i * 12 + 9, none⟩ = some (.int .u16 y.h.urg) ∧ w'.cell? ⟨g2, i * 12 + 10, none⟩ = some (.slice none 0 0) ∧ w'.cell? ⟨g2, i * 12 + 11, none⟩ = some (.string y.d))
            (first | exact and_tw (HS1.out _ (new_then (new_drew BJ.out) B5)) (HS2.out _ (new_then (new_drew BJ.out) B5)) | exact and_tw (HS1.out _ (new_then BJ.out B5)) (HS2.out _ (new_then BJ.out B5)) | go_keep)
            (first
              | (go_at_call 15; refine (CS.out _).mono ?_; rintro e w5 ⟨rfl, B5⟩; replace B5 := new_undrew B5))
          all_goals
            clear p0 p1 p2 p3 p4 p5 p6 p7 p8 p9 p10 p11 r0 r1 r2 r3 r4 r5 r6 r7 r8 r9 r10 r11
            go_wp2_with fail
            go_roundg (M - (i + 1))
            case measure => omega
            case rel => exact ⟨i + 1, by go_num, rfl, by omega, new_then BJ.out B5⟩
        · obtain rfl : i = M := by omega
          have k9 : ¬ (i : Int) < (i : Int) := by omega
          go_wp2_with (first
            | (go_at_call 12; refine (works13_any _).mono ?_; rintro e w9 ⟨rfl, B9⟩))
          go_ret
          exact ⟨rfl, new_then (new_then LL BI) B9⟩
end Go.Proofs.Ytnkcnfkonifmhaa
