/- The document's Cut of layer 13, where there is more than nothing to cut. -/
import Derived.Test.YtnkcnfkonifmhaaZCutA
import Derived.Test.YtnkcnfkonifmhaaZCutB
import Derived.Deep.LoopGhost
namespace Go.Proofs.Ytnkcnfkonifmhaa
open Go.RowKit
set_option linter.unusedVariables false

def RCutI (w : World) (h : Hd) (d : ByteArray) (S M hb gh : Nat) (vo vq vi : Value) (wr : World) : Prop :=
  ∃ (i : Nat) (sq : Int), vi = .int .i64 (i : Int) ∧ M - i = gh ∧ i ≤ M ∧ vq = .int .u32 sq ∧ (0 ≤ sq ∧ sq ≤ 4294967295) ∧ (i < M → sq = sqC h S i) ∧ Blk wr hb (hdV h) 27 ∧
    OwnSg wr (hb + 1) vo (cutC h d S M i) ∧ Below w.heap.size w wr
set_option maxRecDepth 100000 in
set_option maxHeartbeats 8000000 in
theorem refCutN_any (h : Hd) (ok : HdOk h) (d : ByteArray) (mss : Int) (S M : Nat) (w : World) (hd : d.size ≤ 300)
    (hS : (mss < 1 ∧ S = 1) ∨ (1 ≤ mss ∧ mss ≤ 65000 ∧ mss = (S : Int)) ∨ (65000 < mss ∧ S = 65000)) (hM : M = max ((d.size + S - 1) / S) 1) (hz : ¬ (d.size + S - 1) / S = 0) :
    Calls Try.prog 17 #[.agg #[.int .u16 h.src, .int .u16 h.dst, .int .u32 h.seq, .int .u32 h.ack, .int .u8 h.off, .int .u8 h.ace, .int .u8 h.fl, .int .u16 h.win, .int .u16 h.sum, .int .u16 h.urg], .string d, .int .i64 mss] w (CutTo w (cutC h d S M M)) := by
  have hS1 : 1 ≤ S ∧ S ≤ 65000 := by omega
  have hMf := cut_few hS1.1 hd hM
  have HM := Lib.hid hM
  have HS := Lib.hid hS
  have OK := Lib.hid ok
  have HZ := Lib.hid hz
  have BH := Blk.new w (hdV h) 27
  have L0 := new_alloc (new_refl w) (.cells #[.int .u16 h.src, .int .u16 h.dst, .int .u32 h.seq, .int .u32 h.ack, .int .u8 h.off, .int .u8 h.ace, .int .u8 h.fl, .int .u16 h.win, .int .u16 h.sum, .int .u16 h.urg] 27)
  have s1 : ¬ (1048576 : Int) < (d.size : Int) := by omega
  clear hM hS ok hz
  go_enter Try.func17, Try.ntmps17
  go_upto_region 1 with (fail)
  generalize hW : w.alloc (.cells #[.int .u16 h.src, .int .u16 h.dst, .int .u32 h.seq, .int .u32 h.ack, .int .u8 h.off, .int .u8 h.ace, .int .u8 h.fl, .int .u16 h.win, .int .u16 h.sum, .int .u16 h.urg] 27) = W at BH L0 ⊢
  have hws : W.heap.size = w.heap.size + 1 := by rw [← hW, alloc_size]
  have HWS := Lib.hid hws
  clear hW hws
  go_cut [2] (fun v wx => v = .int .i64 (S : Int) ∧ W = wx)
  case first =>
    rcases HS.out with ⟨h1, rfl⟩ | ⟨h1, h2, rfl⟩ | ⟨h1, rfl⟩
    · go_wp2_with fail
      go_meet
      case rel => exact ⟨rfl, rfl⟩
    · have h3 : ¬ (S : Int) < 1 := by omega
      go_wp2_with fail
      go_meet
      case rel => exact ⟨rfl, rfl⟩
    · have h3 : ¬ mss < 1 := by omega
      go_wp2_with fail
      go_meet
      case rel => exact ⟨rfl, rfl⟩
  case rest =>
    obtain ⟨rfl, rfl⟩ := hcut
    obtain ⟨hSa, hSb⟩ := hS1
    obtain ⟨q, hq⟩ : ∃ q, (d.size + S - 1) / S = q := ⟨_, rfl⟩
    have hq0 := HZ.out
    rw [hq] at hq0
    have HQ : Hid (M = max q 1) := Lib.hid (by rw [← hq]; exact HM.out)
    have z1 : ¬ (S : Int) = 0 := by omega
    have z2 : ¬ S = 0 := by omega
    have z3 : (0 : Int) < (S : Int) := by omega
    have e1 : ((d.size : Int) + (S : Int) - 1).tdiv (S : Int) = (q : Int) := by
      rw [Int.tdiv_eq_ediv_of_nonneg (by omega), ← hq, Int.natCast_ediv]
      congr 1
      omega
    have e2 : ((d.size : Int) + (S : Int) - 1) / (S : Int) = (q : Int) := by
      rw [← e1, Int.tdiv_eq_ediv_of_nonneg (by omega)]
    clear hq
    have c2 := BH.cell 2 rfl
    have hq1 : ¬ (q : Int) = 0 := by omega
    have hq2 : ((q : Int) == 0) = false := by simp [hq0]
    have hM1 : q = M := by have := HQ.out; omega
    go_upto_region 9 with (fail)
    clear e1 e2 HQ z1 z2 z3 c2 hq1 hq2 hM1 hq0
    obtain ⟨hM1, hM2⟩ := hMf
    have HB1 := Lib.hid (show w.heap.size + 1 ≤ W.heap.size by rw [HWS.out]; exact Nat.le_refl _)
    go_wp2_with fail
    go_loopg [8, 9, 10] M (fun gh vo vq vi wr => RCutI w h d S M w.heap.size gh vo vq vi wr)
    case atStart => exact ⟨0, h.seq, rfl, rfl, by omega, rfl, OK.out.seq, fun _ => (sq_zero OK.out S).symm, BH, OwnE.nil _ _ _ _ _, L0⟩
    case round =>
      clear BH L0
      obtain ⟨i, sq, rfl, rfl, hi, rfl, hsq, hsi, BH, OM, LL⟩ := hrel
      by_cases hlt : i < M
      · have HSQ := Lib.hid (hsi hlt)
        clear hsi
        obtain ⟨ib1, ib2, ib3⟩ := cut_bounds hSa HM.out hlt
        have k0 : (0 : Int) ≤ (i : Int) := by omega
        have k1 : (i : Int) < (M : Int) := by omega
        obtain ⟨lo, hlo⟩ : ∃ lo, i * S = lo := ⟨_, rfl⟩
        obtain ⟨hi2, hhi⟩ : ∃ hi2, min (lo + S) d.size = hi2 := ⟨_, rfl⟩
        rw [hlo] at ib1 ib2 ib3
        have k2 : (i : Int) * (S : Int) = (lo : Int) := by rw [← hlo, Int.natCast_mul]
        have k3 : (if (d.size : Int) < (lo : Int) + (S : Int) then (d.size : Int) else (lo : Int) + (S : Int)) = (hi2 : Int) := by split <;> omega
        have k4 : lo ≤ hi2 := by omega
        have k5 : hi2 ≤ d.size := by omega
        have k6 : (lo : Int) ≤ (hi2 : Int) := by omega
        have k7 : (hi2 : Int) ≤ (d.size : Int) := by omega
        have k8 : (0 : Int) ≤ (lo : Int) := by omega
        have c0 := BH.cell 0 rfl; have c1 := BH.cell 1 rfl; have c2 := BH.cell 2 rfl; have c3 := BH.cell 3 rfl; have c4 := BH.cell 4 rfl; have c5 := BH.cell 5 rfl; have c6 := BH.cell 6 rfl; have c7 := BH.cell 7 rfl; have c8 := BH.cell 8 rfl; have c9 := BH.cell 9 rfl
        go_upto_region 14 with (fail)
        clear c0 c1 c2 c3 c4 c5 c6 c7 c8 c9
        have BX := Blk.new wr (hdQ h sq) 27
        have BH2 := BH.alloc (.cells #[.int .u16 h.src, .int .u16 h.dst, .int .u32 sq, .int .u32 h.ack, .int .u8 h.off, .int .u8 h.ace, .int .u8 h.fl, .int .u16 h.win, .int .u16 h.sum, .int .u16 h.urg] 27)
        have OM2 := OM.alloc (.cells #[.int .u16 h.src, .int .u16 h.dst, .int .u32 sq, .int .u32 h.ack, .int .u8 h.off, .int .u8 h.ace, .int .u8 h.fl, .int .u16 h.win, .int .u16 h.sum, .int .u16 h.urg] 27)
        have LL2 := new_alloc LL (.cells #[.int .u16 h.src, .int .u16 h.dst, .int .u32 sq, .int .u32 h.ack, .int .u8 h.off, .int .u8 h.ace, .int .u8 h.fl, .int .u16 h.win, .int .u16 h.sum, .int .u16 h.urg] 27)
        have hgx := BH.lt
        obtain ⟨gx, hx⟩ : ∃ gx, wr.heap.size = gx := ⟨_, rfl⟩
        have hbs := LL.size
        have hws : w.heap.size + 1 ≤ wr.heap.size := by omega
        have hvo : ∀ g, u8.ownBlock = some g → w.heap.size + 1 ≤ g ∧ g < wr.heap.size := fun g e => World.ownsRow.lt OM _ e
        rw [hx] at BX hgx hws hvo ⊢
        generalize wr.alloc (.cells #[.int .u16 h.src, .int .u16 h.dst, .int .u32 sq, .int .u32 h.ack, .int .u8 h.off, .int .u8 h.ace, .int .u8 h.fl, .int .u16 h.win, .int .u16 h.sum, .int .u16 h.urg] 27) = W2 at BX BH2 OM2 LL2 ⊢
        clear BH OM LL hx hbs
        obtain ⟨T, hT⟩ : ∃ T, d.extract lo hi2 = T := ⟨_, rfl⟩
        have hTs : (T.size : Int) = (hi2 : Int) - (lo : Int) := by rw [← hT, ByteArray.size_extract]; omega
        go_upto_region 16 with (fail)
        obtain ⟨fl0, fl1⟩ := OK.out.fl
        obtain ⟨fi, hfi⟩ : ∃ fi, h.fl % 2 = fi := ⟨_, rfl⟩
        obtain ⟨l2, hl2⟩ : ∃ l2, h.fl / 2 = l2 := ⟨_, rfl⟩
        obtain ⟨l8, hl8⟩ : ∃ l8, h.fl / 8 = l8 := ⟨_, rfl⟩
        obtain ⟨sy, hsy⟩ : ∃ sy, l2 % 2 = sy := ⟨_, rfl⟩
        obtain ⟨ps, hps⟩ : ∃ ps, l8 % 2 = ps := ⟨_, rfl⟩
        have v1 : h.fl.tmod 2 = fi := by rw [Int.tmod_eq_emod_of_nonneg fl0]; exact hfi
        have v2 : h.fl.tdiv 2 = l2 := by rw [Int.tdiv_eq_ediv_of_nonneg fl0]; exact hl2
        have v3 : h.fl.tdiv 8 = l8 := by rw [Int.tdiv_eq_ediv_of_nonneg fl0]; exact hl8
        have v4 : l2.tmod 2 = sy := by rw [Int.tmod_eq_emod_of_nonneg (by omega)]; exact hsy
        have v5 : l8.tmod 2 = ps := by rw [Int.tmod_eq_emod_of_nonneg (by omega)]; exact hps
        have w1 : IntKind.u8.wrap l2 = l2 := by rw [IntKind.wrap_u8]; omega
        have w2 : IntKind.u8.wrap l8 = l8 := by rw [IntKind.wrap_u8]; omega
        have w3 : IntKind.u8.wrap fi = fi := by rw [IntKind.wrap_u8]; omega
        have w4 : IntKind.u8.wrap sy = sy := by rw [IntKind.wrap_u8]; omega
        have w5 : IntKind.u8.wrap ps = ps := by rw [IntKind.wrap_u8]; omega
        have c6 := BX.cell 6 rfl
        go_cut [13, 14, 15] (fun va vb vc wx => va = .int .u8 fi ∧ vb = .int .u8 sy ∧ vc = .int .u8 ps ∧ ∃ n, wx = W2.drewN n)
        case first =>
          go_quiet (fail)
          go_wp2_with fail
          go_meet
          case rel => exact ⟨rfl, rfl, rfl, _, rfl⟩
        case rest =>
          obtain ⟨rfl, rfl, rfl, nq, rfl⟩ := hcut
          have HF : Hid (fi = h.fl % 2 ∧ sy = h.fl / 2 % 2 ∧ ps = h.fl / 8 % 2) := Lib.hid ⟨hfi.symm, by rw [hl2, hsy], by rw [hl8, hps]⟩
          have BX3 := BX.draw nq
          have BH3 := BH2.draw nq
          have OM3 := OM2.draw nq
          have LL3 := new_draw LL2 nq
          generalize W2.drewN nq = W3 at BX3 BH3 OM3 LL3 ⊢
          clear v1 v2 v3 v4 v5 w1 w2 w3 w4 w5 c6 hfi hl2 hl8 hsy hps BX BH2 OM2 LL2
          have hfi01 : fi = 0 ∨ fi = 1 := by have := HF.out; omega
          have hsy01 : sy = 0 ∨ sy = 1 := by have := HF.out; omega
          have hps01 : ps = 0 ∨ ps = 1 := by have := HF.out; omega
          have c0 := BX3.cell 0 rfl; have c1 := BX3.cell 1 rfl; have c2 := BX3.cell 2 rfl; have c3 := BX3.cell 3 rfl; have c4 := BX3.cell 4 rfl; have c5 := BX3.cell 5 rfl; have c6 := BX3.cell 6 rfl; have c7 := BX3.cell 7 rfl; have c8 := BX3.cell 8 rfl; have c9 := BX3.cell 9 rfl
          have cf := fun i => BX3.frozen i
          have hi01 : 0 < i ∨ ¬ 0 < i := by omega
          have hM01 : i + 1 < M ∨ ¬ i + 1 < M := by omega
          have hln : (cutC h d S M i).length + 1 = i + 1 := by rw [cutC_len]
          have hlen : i + 1 ≤ 1000000000 := by omega
          have HFE : Hid (i + 1 < M → (hi2 : Int) - (lo : Int) = (S : Int)) := Lib.hid (fun hl => by have := ib2 hl; omega)
          rcases hi01 with h1 | h1
          · rcases hsy01 with rfl | rfl
            · rcases hM01 with h2 | h2
              · rcases hfi01 with rfl | rfl
                · rcases hps01 with rfl | rfl
                  · have j1 : (0 : Int) < (i : Int) := by omega
                    have jz : ((i : Int) == 0) = false := by simp; omega
                    have j2 : (i : Int) < (M : Int) - 1 := by omega
                    go_upto_region 25 with (fail)
                    have HG : Hid (h.fl = flC h.fl (decide (0 < i)) (decide (i + 1 < M))) := Lib.hid (by have := HF.out; simp [flC, h1, h2] <;> omega)
                    have BX4 : Blk W3 gx (hdV { h with seq := sq, fl := h.fl }) 27 := BX3
                    have O4 : Out (fun k => k = gx) W3 W3 := (Out.refl (fun k => k = gx) W3)
                    clear c0 c1 c2 c3 c4 c5 c6 c7 c8 c9 cf
                    generalize W3 = W4 at BX3 BX4 BH3 OM3 LL3 O4 ⊢
                    obtain ⟨G, hG⟩ : ∃ G, h.fl = G := ⟨_, rfl⟩
                    replace HG : Hid (G = flC h.fl (decide (0 < i)) (decide (i + 1 < M))) := Lib.hid (by rw [← hG]; exact HG.out)
                    replace BX4 : Blk W4 gx (hdV { h with seq := sq, fl := G }) 27 := by rw [← hG]; exact BX4
                    clear hG
                    have BH4 := BH3.out O4 (show ¬ w.heap.size = gx by omega)
                    have OM4 : OwnSg W4 (w.heap.size + 1) u8 (cutC h d S M i) := OM3.out O4 (fun g e => by have := hvo g e; omega)
                    have LL4 := LL3.trans (O4.below LL3.size (fun k e => by omega))
                    have hb4 : w.heap.size + 1 ≤ W4.heap.size := by have := BX4.lt; omega
                    clear BX3 BH3 OM3 LL3 O4
                    have c0 := BX4.cell 0 rfl; have c1 := BX4.cell 1 rfl; have c2 := BX4.cell 2 rfl; have c3 := BX4.cell 3 rfl; have c4 := BX4.cell 4 rfl; have c5 := BX4.cell 5 rfl; have c6 := BX4.cell 6 rfl; have c7 := BX4.cell 7 rfl; have c8 := BX4.cell 8 rfl; have c9 := BX4.cell 9 rfl
                    go_wp2_with (first
                      | (at_builtin; refine wp_pushE encSg_is strSg (by rfl) _ _ (by rfl) (w.heap.size + 1) _ (cutC h d S M i) ⟨{ h with seq := sq, fl := G }, T⟩ _ 1 (by rfl) (by rfl) (At.new W4 (encSg ⟨{ h with seq := sq, fl := G }, T⟩) _) (OM4.alloc _) (i + 1) hln hlen (alloc_le hb4 _) _ rfl ?_; intro g6 k6 w6 O6 G6 hat6 hlt6))
                    have hy : (⟨{ h with seq := sq, fl := G }, T⟩ : SgC) = segC h d S M i := by rw [segC, ← HSQ.out, ← HG.out, hlo, hhi, hT]
                    rw [hy, ← cutC_succ] at O6
                    have BH6 := (BH4.alloc _).out (out_pushE G6) (fun e => by have := hvo _ e; omega)
                    have LL6 := (new_alloc LL4 _).trans ((below_pushE (OM4.alloc _) G6 (alloc_le hb4 _)).mono (Nat.le_succ _))
                    go_roundg (M - (i + 1))
                    case measure => omega
                    case rel => exact ⟨i + 1, _, by go_num, rfl, by omega, rfl, by omega, fun hl => by have := HF.out; have := HFE.out; rw [← sq_succ, ← HSQ.out]; split <;> omega, BH6, O6, LL6⟩
                  · have j1 : (0 : Int) < (i : Int) := by omega
                    have jz : ((i : Int) == 0) = false := by simp; omega
                    have j2 : (i : Int) < (M : Int) - 1 := by omega
                    obtain ⟨g3, eg3⟩ : ∃ g3, h.fl - 8 = g3 := ⟨_, rfl⟩
                    have bg3 : 0 ≤ g3 ∧ g3 ≤ 255 := by have := HF.out; omega
                    obtain ⟨bg30, bg31⟩ := bg3
                    go_upto_region 25 with (fail)
                    have HG : Hid (g3 = flC h.fl (decide (0 < i)) (decide (i + 1 < M))) := Lib.hid (by have := HF.out; simp [flC, h1, h2] <;> omega)
                    have BX4 : Blk (W3.setCell ⟨gx, 6, none⟩ (.int .u8 g3)) gx (hdV { h with seq := sq, fl := g3 }) 27 := (BX3.set 6 (.int .u8 g3))
                    have O4 : Out (fun k => k = gx) W3 (W3.setCell ⟨gx, 6, none⟩ (.int .u8 g3)) := ((Out.refl (fun k => k = gx) W3).set (p := ⟨gx, 6, none⟩) (.inl rfl) (.int .u8 g3))
                    clear c0 c1 c2 c3 c4 c5 c6 c7 c8 c9 cf
                    generalize (W3.setCell ⟨gx, 6, none⟩ (.int .u8 g3)) = W4 at BX4 O4 ⊢
                    generalize g3 = G at HG BX4 ⊢
                    have BH4 := BH3.out O4 (show ¬ w.heap.size = gx by omega)
                    have OM4 : OwnSg W4 (w.heap.size + 1) u8 (cutC h d S M i) := OM3.out O4 (fun g e => by have := hvo g e; omega)
                    have LL4 := LL3.trans (O4.below LL3.size (fun k e => by omega))
                    have hb4 : w.heap.size + 1 ≤ W4.heap.size := by have := BX4.lt; omega
                    clear BX3 BH3 OM3 LL3 O4
                    have c0 := BX4.cell 0 rfl; have c1 := BX4.cell 1 rfl; have c2 := BX4.cell 2 rfl; have c3 := BX4.cell 3 rfl; have c4 := BX4.cell 4 rfl; have c5 := BX4.cell 5 rfl; have c6 := BX4.cell 6 rfl; have c7 := BX4.cell 7 rfl; have c8 := BX4.cell 8 rfl; have c9 := BX4.cell 9 rfl
                    go_wp2_with (first
                      | (at_builtin; refine wp_pushE encSg_is strSg (by rfl) _ _ (by rfl) (w.heap.size + 1) _ (cutC h d S M i) ⟨{ h with seq := sq, fl := G }, T⟩ _ 1 (by rfl) (by rfl) (At.new W4 (encSg ⟨{ h with seq := sq, fl := G }, T⟩) _) (OM4.alloc _) (i + 1) hln hlen (alloc_le hb4 _) _ rfl ?_; intro g6 k6 w6 O6 G6 hat6 hlt6))
                    have hy : (⟨{ h with seq := sq, fl := G }, T⟩ : SgC) = segC h d S M i := by rw [segC, ← HSQ.out, ← HG.out, hlo, hhi, hT]
                    rw [hy, ← cutC_succ] at O6
                    have BH6 := (BH4.alloc _).out (out_pushE G6) (fun e => by have := hvo _ e; omega)
                    have LL6 := (new_alloc LL4 _).trans ((below_pushE (OM4.alloc _) G6 (alloc_le hb4 _)).mono (Nat.le_succ _))
                    go_roundg (M - (i + 1))
                    case measure => omega
                    case rel => exact ⟨i + 1, _, by go_num, rfl, by omega, rfl, by omega, fun hl => by have := HF.out; have := HFE.out; rw [← sq_succ, ← HSQ.out]; split <;> omega, BH6, O6, LL6⟩
                · rcases hps01 with rfl | rfl
                  · have j1 : (0 : Int) < (i : Int) := by omega
                    have jz : ((i : Int) == 0) = false := by simp; omega
                    have j2 : (i : Int) < (M : Int) - 1 := by omega
                    obtain ⟨g2, eg2⟩ : ∃ g2, h.fl - 1 = g2 := ⟨_, rfl⟩
                    have bg2 : 0 ≤ g2 ∧ g2 ≤ 255 := by have := HF.out; omega
                    obtain ⟨bg20, bg21⟩ := bg2
                    go_upto_region 25 with (fail)
                    have HG : Hid (g2 = flC h.fl (decide (0 < i)) (decide (i + 1 < M))) := Lib.hid (by have := HF.out; simp [flC, h1, h2] <;> omega)
                    have BX4 : Blk (W3.setCell ⟨gx, 6, none⟩ (.int .u8 g2)) gx (hdV { h with seq := sq, fl := g2 }) 27 := (BX3.set 6 (.int .u8 g2))
                    have O4 : Out (fun k => k = gx) W3 (W3.setCell ⟨gx, 6, none⟩ (.int .u8 g2)) := ((Out.refl (fun k => k = gx) W3).set (p := ⟨gx, 6, none⟩) (.inl rfl) (.int .u8 g2))
                    clear c0 c1 c2 c3 c4 c5 c6 c7 c8 c9 cf
                    generalize (W3.setCell ⟨gx, 6, none⟩ (.int .u8 g2)) = W4 at BX4 O4 ⊢
                    generalize g2 = G at HG BX4 ⊢
                    have BH4 := BH3.out O4 (show ¬ w.heap.size = gx by omega)
                    have OM4 : OwnSg W4 (w.heap.size + 1) u8 (cutC h d S M i) := OM3.out O4 (fun g e => by have := hvo g e; omega)
                    have LL4 := LL3.trans (O4.below LL3.size (fun k e => by omega))
                    have hb4 : w.heap.size + 1 ≤ W4.heap.size := by have := BX4.lt; omega
                    clear BX3 BH3 OM3 LL3 O4
                    have c0 := BX4.cell 0 rfl; have c1 := BX4.cell 1 rfl; have c2 := BX4.cell 2 rfl; have c3 := BX4.cell 3 rfl; have c4 := BX4.cell 4 rfl; have c5 := BX4.cell 5 rfl; have c6 := BX4.cell 6 rfl; have c7 := BX4.cell 7 rfl; have c8 := BX4.cell 8 rfl; have c9 := BX4.cell 9 rfl
                    go_wp2_with (first
                      | (at_builtin; refine wp_pushE encSg_is strSg (by rfl) _ _ (by rfl) (w.heap.size + 1) _ (cutC h d S M i) ⟨{ h with seq := sq, fl := G }, T⟩ _ 1 (by rfl) (by rfl) (At.new W4 (encSg ⟨{ h with seq := sq, fl := G }, T⟩) _) (OM4.alloc _) (i + 1) hln hlen (alloc_le hb4 _) _ rfl ?_; intro g6 k6 w6 O6 G6 hat6 hlt6))
                    have hy : (⟨{ h with seq := sq, fl := G }, T⟩ : SgC) = segC h d S M i := by rw [segC, ← HSQ.out, ← HG.out, hlo, hhi, hT]
                    rw [hy, ← cutC_succ] at O6
                    have BH6 := (BH4.alloc _).out (out_pushE G6) (fun e => by have := hvo _ e; omega)
                    have LL6 := (new_alloc LL4 _).trans ((below_pushE (OM4.alloc _) G6 (alloc_le hb4 _)).mono (Nat.le_succ _))
                    go_roundg (M - (i + 1))
                    case measure => omega
                    case rel => exact ⟨i + 1, _, by go_num, rfl, by omega, rfl, by omega, fun hl => by have := HF.out; have := HFE.out; rw [← sq_succ, ← HSQ.out]; split <;> omega, BH6, O6, LL6⟩
                  · have j1 : (0 : Int) < (i : Int) := by omega
                    have jz : ((i : Int) == 0) = false := by simp; omega
                    have j2 : (i : Int) < (M : Int) - 1 := by omega
                    obtain ⟨g2, eg2⟩ : ∃ g2, h.fl - 1 = g2 := ⟨_, rfl⟩
                    have bg2 : 0 ≤ g2 ∧ g2 ≤ 255 := by have := HF.out; omega
                    obtain ⟨bg20, bg21⟩ := bg2
                    obtain ⟨g3, eg3⟩ : ∃ g3, g2 - 8 = g3 := ⟨_, rfl⟩
                    have bg3 : 0 ≤ g3 ∧ g3 ≤ 255 := by have := HF.out; omega
                    obtain ⟨bg30, bg31⟩ := bg3
                    go_upto_region 25 with (fail)
                    have HG : Hid (g3 = flC h.fl (decide (0 < i)) (decide (i + 1 < M))) := Lib.hid (by have := HF.out; simp [flC, h1, h2] <;> omega)
                    have BX4 : Blk ((W3.setCell ⟨gx, 6, none⟩ (.int .u8 g2)).setCell ⟨gx, 6, none⟩ (.int .u8 g3)) gx (hdV { h with seq := sq, fl := g3 }) 27 := ((BX3.set 6 (.int .u8 g2)).set 6 (.int .u8 g3))
                    have O4 : Out (fun k => k = gx) W3 ((W3.setCell ⟨gx, 6, none⟩ (.int .u8 g2)).setCell ⟨gx, 6, none⟩ (.int .u8 g3)) := (((Out.refl (fun k => k = gx) W3).set (p := ⟨gx, 6, none⟩) (.inl rfl) (.int .u8 g2)).set (p := ⟨gx, 6, none⟩) (.inl rfl) (.int .u8 g3))
                    clear c0 c1 c2 c3 c4 c5 c6 c7 c8 c9 cf
                    generalize ((W3.setCell ⟨gx, 6, none⟩ (.int .u8 g2)).setCell ⟨gx, 6, none⟩ (.int .u8 g3)) = W4 at BX4 O4 ⊢
                    generalize g3 = G at HG BX4 ⊢
                    have BH4 := BH3.out O4 (show ¬ w.heap.size = gx by omega)
                    have OM4 : OwnSg W4 (w.heap.size + 1) u8 (cutC h d S M i) := OM3.out O4 (fun g e => by have := hvo g e; omega)
                    have LL4 := LL3.trans (O4.below LL3.size (fun k e => by omega))
                    have hb4 : w.heap.size + 1 ≤ W4.heap.size := by have := BX4.lt; omega
                    clear BX3 BH3 OM3 LL3 O4
                    have c0 := BX4.cell 0 rfl; have c1 := BX4.cell 1 rfl; have c2 := BX4.cell 2 rfl; have c3 := BX4.cell 3 rfl; have c4 := BX4.cell 4 rfl; have c5 := BX4.cell 5 rfl; have c6 := BX4.cell 6 rfl; have c7 := BX4.cell 7 rfl; have c8 := BX4.cell 8 rfl; have c9 := BX4.cell 9 rfl
                    go_wp2_with (first
                      | (at_builtin; refine wp_pushE encSg_is strSg (by rfl) _ _ (by rfl) (w.heap.size + 1) _ (cutC h d S M i) ⟨{ h with seq := sq, fl := G }, T⟩ _ 1 (by rfl) (by rfl) (At.new W4 (encSg ⟨{ h with seq := sq, fl := G }, T⟩) _) (OM4.alloc _) (i + 1) hln hlen (alloc_le hb4 _) _ rfl ?_; intro g6 k6 w6 O6 G6 hat6 hlt6))
                    have hy : (⟨{ h with seq := sq, fl := G }, T⟩ : SgC) = segC h d S M i := by rw [segC, ← HSQ.out, ← HG.out, hlo, hhi, hT]
                    rw [hy, ← cutC_succ] at O6
                    have BH6 := (BH4.alloc _).out (out_pushE G6) (fun e => by have := hvo _ e; omega)
                    have LL6 := (new_alloc LL4 _).trans ((below_pushE (OM4.alloc _) G6 (alloc_le hb4 _)).mono (Nat.le_succ _))
                    go_roundg (M - (i + 1))
                    case measure => omega
                    case rel => exact ⟨i + 1, _, by go_num, rfl, by omega, rfl, by omega, fun hl => by have := HF.out; have := HFE.out; rw [← sq_succ, ← HSQ.out]; split <;> omega, BH6, O6, LL6⟩
              · have j1 : (0 : Int) < (i : Int) := by omega
                have jz : ((i : Int) == 0) = false := by simp; omega
                have j2 : ¬ (i : Int) < (M : Int) - 1 := by omega
                go_upto_region 25 with (fail)
                have HG : Hid (h.fl = flC h.fl (decide (0 < i)) (decide (i + 1 < M))) := Lib.hid (by have := HF.out; simp [flC, h1, h2] <;> omega)
                have BX4 : Blk W3 gx (hdV { h with seq := sq, fl := h.fl }) 27 := BX3
                have O4 : Out (fun k => k = gx) W3 W3 := (Out.refl (fun k => k = gx) W3)
                clear c0 c1 c2 c3 c4 c5 c6 c7 c8 c9 cf
                generalize W3 = W4 at BX3 BX4 BH3 OM3 LL3 O4 ⊢
                obtain ⟨G, hG⟩ : ∃ G, h.fl = G := ⟨_, rfl⟩
                replace HG : Hid (G = flC h.fl (decide (0 < i)) (decide (i + 1 < M))) := Lib.hid (by rw [← hG]; exact HG.out)
                replace BX4 : Blk W4 gx (hdV { h with seq := sq, fl := G }) 27 := by rw [← hG]; exact BX4
                clear hG
                have BH4 := BH3.out O4 (show ¬ w.heap.size = gx by omega)
                have OM4 : OwnSg W4 (w.heap.size + 1) u8 (cutC h d S M i) := OM3.out O4 (fun g e => by have := hvo g e; omega)
                have LL4 := LL3.trans (O4.below LL3.size (fun k e => by omega))
                have hb4 : w.heap.size + 1 ≤ W4.heap.size := by have := BX4.lt; omega
                clear BX3 BH3 OM3 LL3 O4
                have c0 := BX4.cell 0 rfl; have c1 := BX4.cell 1 rfl; have c2 := BX4.cell 2 rfl; have c3 := BX4.cell 3 rfl; have c4 := BX4.cell 4 rfl; have c5 := BX4.cell 5 rfl; have c6 := BX4.cell 6 rfl; have c7 := BX4.cell 7 rfl; have c8 := BX4.cell 8 rfl; have c9 := BX4.cell 9 rfl
                go_wp2_with (first
                  | (at_builtin; refine wp_pushE encSg_is strSg (by rfl) _ _ (by rfl) (w.heap.size + 1) _ (cutC h d S M i) ⟨{ h with seq := sq, fl := G }, T⟩ _ 1 (by rfl) (by rfl) (At.new W4 (encSg ⟨{ h with seq := sq, fl := G }, T⟩) _) (OM4.alloc _) (i + 1) hln hlen (alloc_le hb4 _) _ rfl ?_; intro g6 k6 w6 O6 G6 hat6 hlt6))
                have hy : (⟨{ h with seq := sq, fl := G }, T⟩ : SgC) = segC h d S M i := by rw [segC, ← HSQ.out, ← HG.out, hlo, hhi, hT]
                rw [hy, ← cutC_succ] at O6
                have BH6 := (BH4.alloc _).out (out_pushE G6) (fun e => by have := hvo _ e; omega)
                have LL6 := (new_alloc LL4 _).trans ((below_pushE (OM4.alloc _) G6 (alloc_le hb4 _)).mono (Nat.le_succ _))
                go_roundg (M - (i + 1))
                case measure => omega
                case rel => exact ⟨i + 1, _, by go_num, rfl, by omega, rfl, by omega, fun hl => by have := HF.out; have := HFE.out; rw [← sq_succ, ← HSQ.out]; split <;> omega, BH6, O6, LL6⟩
            · rcases hM01 with h2 | h2
              · rcases hfi01 with rfl | rfl
                · rcases hps01 with rfl | rfl
                  · have j1 : (0 : Int) < (i : Int) := by omega
                    have jz : ((i : Int) == 0) = false := by simp; omega
                    have j2 : (i : Int) < (M : Int) - 1 := by omega
                    obtain ⟨g1, eg1⟩ : ∃ g1, h.fl - 2 = g1 := ⟨_, rfl⟩
                    have bg1 : 0 ≤ g1 ∧ g1 ≤ 255 := by have := HF.out; omega
                    obtain ⟨bg10, bg11⟩ := bg1
                    go_upto_region 25 with (fail)
                    have HG : Hid (g1 = flC h.fl (decide (0 < i)) (decide (i + 1 < M))) := Lib.hid (by have := HF.out; simp [flC, h1, h2] <;> omega)
                    have BX4 : Blk (W3.setCell ⟨gx, 6, none⟩ (.int .u8 g1)) gx (hdV { h with seq := sq, fl := g1 }) 27 := (BX3.set 6 (.int .u8 g1))
                    have O4 : Out (fun k => k = gx) W3 (W3.setCell ⟨gx, 6, none⟩ (.int .u8 g1)) := ((Out.refl (fun k => k = gx) W3).set (p := ⟨gx, 6, none⟩) (.inl rfl) (.int .u8 g1))
                    clear c0 c1 c2 c3 c4 c5 c6 c7 c8 c9 cf
                    generalize (W3.setCell ⟨gx, 6, none⟩ (.int .u8 g1)) = W4 at BX4 O4 ⊢
                    generalize g1 = G at HG BX4 ⊢
                    have BH4 := BH3.out O4 (show ¬ w.heap.size = gx by omega)
                    have OM4 : OwnSg W4 (w.heap.size + 1) u8 (cutC h d S M i) := OM3.out O4 (fun g e => by have := hvo g e; omega)
                    have LL4 := LL3.trans (O4.below LL3.size (fun k e => by omega))
                    have hb4 : w.heap.size + 1 ≤ W4.heap.size := by have := BX4.lt; omega
                    clear BX3 BH3 OM3 LL3 O4
                    have c0 := BX4.cell 0 rfl; have c1 := BX4.cell 1 rfl; have c2 := BX4.cell 2 rfl; have c3 := BX4.cell 3 rfl; have c4 := BX4.cell 4 rfl; have c5 := BX4.cell 5 rfl; have c6 := BX4.cell 6 rfl; have c7 := BX4.cell 7 rfl; have c8 := BX4.cell 8 rfl; have c9 := BX4.cell 9 rfl
                    go_wp2_with (first
                      | (at_builtin; refine wp_pushE encSg_is strSg (by rfl) _ _ (by rfl) (w.heap.size + 1) _ (cutC h d S M i) ⟨{ h with seq := sq, fl := G }, T⟩ _ 1 (by rfl) (by rfl) (At.new W4 (encSg ⟨{ h with seq := sq, fl := G }, T⟩) _) (OM4.alloc _) (i + 1) hln hlen (alloc_le hb4 _) _ rfl ?_; intro g6 k6 w6 O6 G6 hat6 hlt6))
                    have hy : (⟨{ h with seq := sq, fl := G }, T⟩ : SgC) = segC h d S M i := by rw [segC, ← HSQ.out, ← HG.out, hlo, hhi, hT]
                    rw [hy, ← cutC_succ] at O6
                    have BH6 := (BH4.alloc _).out (out_pushE G6) (fun e => by have := hvo _ e; omega)
                    have LL6 := (new_alloc LL4 _).trans ((below_pushE (OM4.alloc _) G6 (alloc_le hb4 _)).mono (Nat.le_succ _))
                    go_roundg (M - (i + 1))
                    case measure => omega
                    case rel => exact ⟨i + 1, _, by go_num, rfl, by omega, rfl, by omega, fun hl => by have := HF.out; have := HFE.out; rw [← sq_succ, ← HSQ.out]; split <;> omega, BH6, O6, LL6⟩
                  · have j1 : (0 : Int) < (i : Int) := by omega
                    have jz : ((i : Int) == 0) = false := by simp; omega
                    have j2 : (i : Int) < (M : Int) - 1 := by omega
                    obtain ⟨g1, eg1⟩ : ∃ g1, h.fl - 2 = g1 := ⟨_, rfl⟩
                    have bg1 : 0 ≤ g1 ∧ g1 ≤ 255 := by have := HF.out; omega
                    obtain ⟨bg10, bg11⟩ := bg1
                    obtain ⟨g3, eg3⟩ : ∃ g3, g1 - 8 = g3 := ⟨_, rfl⟩
                    have bg3 : 0 ≤ g3 ∧ g3 ≤ 255 := by have := HF.out; omega
                    obtain ⟨bg30, bg31⟩ := bg3
                    go_upto_region 25 with (fail)
                    have HG : Hid (g3 = flC h.fl (decide (0 < i)) (decide (i + 1 < M))) := Lib.hid (by have := HF.out; simp [flC, h1, h2] <;> omega)
                    have BX4 : Blk ((W3.setCell ⟨gx, 6, none⟩ (.int .u8 g1)).setCell ⟨gx, 6, none⟩ (.int .u8 g3)) gx (hdV { h with seq := sq, fl := g3 }) 27 := ((BX3.set 6 (.int .u8 g1)).set 6 (.int .u8 g3))
                    have O4 : Out (fun k => k = gx) W3 ((W3.setCell ⟨gx, 6, none⟩ (.int .u8 g1)).setCell ⟨gx, 6, none⟩ (.int .u8 g3)) := (((Out.refl (fun k => k = gx) W3).set (p := ⟨gx, 6, none⟩) (.inl rfl) (.int .u8 g1)).set (p := ⟨gx, 6, none⟩) (.inl rfl) (.int .u8 g3))
                    clear c0 c1 c2 c3 c4 c5 c6 c7 c8 c9 cf
                    generalize ((W3.setCell ⟨gx, 6, none⟩ (.int .u8 g1)).setCell ⟨gx, 6, none⟩ (.int .u8 g3)) = W4 at BX4 O4 ⊢
                    generalize g3 = G at HG BX4 ⊢
                    have BH4 := BH3.out O4 (show ¬ w.heap.size = gx by omega)
                    have OM4 : OwnSg W4 (w.heap.size + 1) u8 (cutC h d S M i) := OM3.out O4 (fun g e => by have := hvo g e; omega)
                    have LL4 := LL3.trans (O4.below LL3.size (fun k e => by omega))
                    have hb4 : w.heap.size + 1 ≤ W4.heap.size := by have := BX4.lt; omega
                    clear BX3 BH3 OM3 LL3 O4
                    have c0 := BX4.cell 0 rfl; have c1 := BX4.cell 1 rfl; have c2 := BX4.cell 2 rfl; have c3 := BX4.cell 3 rfl; have c4 := BX4.cell 4 rfl; have c5 := BX4.cell 5 rfl; have c6 := BX4.cell 6 rfl; have c7 := BX4.cell 7 rfl; have c8 := BX4.cell 8 rfl; have c9 := BX4.cell 9 rfl
                    go_wp2_with (first
                      | (at_builtin; refine wp_pushE encSg_is strSg (by rfl) _ _ (by rfl) (w.heap.size + 1) _ (cutC h d S M i) ⟨{ h with seq := sq, fl := G }, T⟩ _ 1 (by rfl) (by rfl) (At.new W4 (encSg ⟨{ h with seq := sq, fl := G }, T⟩) _) (OM4.alloc _) (i + 1) hln hlen (alloc_le hb4 _) _ rfl ?_; intro g6 k6 w6 O6 G6 hat6 hlt6))
                    have hy : (⟨{ h with seq := sq, fl := G }, T⟩ : SgC) = segC h d S M i := by rw [segC, ← HSQ.out, ← HG.out, hlo, hhi, hT]
                    rw [hy, ← cutC_succ] at O6
                    have BH6 := (BH4.alloc _).out (out_pushE G6) (fun e => by have := hvo _ e; omega)
                    have LL6 := (new_alloc LL4 _).trans ((below_pushE (OM4.alloc _) G6 (alloc_le hb4 _)).mono (Nat.le_succ _))
                    go_roundg (M - (i + 1))
                    case measure => omega
                    case rel => exact ⟨i + 1, _, by go_num, rfl, by omega, rfl, by omega, fun hl => by have := HF.out; have := HFE.out; rw [← sq_succ, ← HSQ.out]; split <;> omega, BH6, O6, LL6⟩
                · rcases hps01 with rfl | rfl
                  · have j1 : (0 : Int) < (i : Int) := by omega
                    have jz : ((i : Int) == 0) = false := by simp; omega
                    have j2 : (i : Int) < (M : Int) - 1 := by omega
                    obtain ⟨g1, eg1⟩ : ∃ g1, h.fl - 2 = g1 := ⟨_, rfl⟩
                    have bg1 : 0 ≤ g1 ∧ g1 ≤ 255 := by have := HF.out; omega
                    obtain ⟨bg10, bg11⟩ := bg1
                    obtain ⟨g2, eg2⟩ : ∃ g2, g1 - 1 = g2 := ⟨_, rfl⟩
                    have bg2 : 0 ≤ g2 ∧ g2 ≤ 255 := by have := HF.out; omega
                    obtain ⟨bg20, bg21⟩ := bg2
                    go_upto_region 25 with (fail)
                    have HG : Hid (g2 = flC h.fl (decide (0 < i)) (decide (i + 1 < M))) := Lib.hid (by have := HF.out; simp [flC, h1, h2] <;> omega)
                    have BX4 : Blk ((W3.setCell ⟨gx, 6, none⟩ (.int .u8 g1)).setCell ⟨gx, 6, none⟩ (.int .u8 g2)) gx (hdV { h with seq := sq, fl := g2 }) 27 := ((BX3.set 6 (.int .u8 g1)).set 6 (.int .u8 g2))
                    have O4 : Out (fun k => k = gx) W3 ((W3.setCell ⟨gx, 6, none⟩ (.int .u8 g1)).setCell ⟨gx, 6, none⟩ (.int .u8 g2)) := (((Out.refl (fun k => k = gx) W3).set (p := ⟨gx, 6, none⟩) (.inl rfl) (.int .u8 g1)).set (p := ⟨gx, 6, none⟩) (.inl rfl) (.int .u8 g2))
                    clear c0 c1 c2 c3 c4 c5 c6 c7 c8 c9 cf
                    generalize ((W3.setCell ⟨gx, 6, none⟩ (.int .u8 g1)).setCell ⟨gx, 6, none⟩ (.int .u8 g2)) = W4 at BX4 O4 ⊢
                    generalize g2 = G at HG BX4 ⊢
                    have BH4 := BH3.out O4 (show ¬ w.heap.size = gx by omega)
                    have OM4 : OwnSg W4 (w.heap.size + 1) u8 (cutC h d S M i) := OM3.out O4 (fun g e => by have := hvo g e; omega)
                    have LL4 := LL3.trans (O4.below LL3.size (fun k e => by omega))
                    have hb4 : w.heap.size + 1 ≤ W4.heap.size := by have := BX4.lt; omega
                    clear BX3 BH3 OM3 LL3 O4
                    have c0 := BX4.cell 0 rfl; have c1 := BX4.cell 1 rfl; have c2 := BX4.cell 2 rfl; have c3 := BX4.cell 3 rfl; have c4 := BX4.cell 4 rfl; have c5 := BX4.cell 5 rfl; have c6 := BX4.cell 6 rfl; have c7 := BX4.cell 7 rfl; have c8 := BX4.cell 8 rfl; have c9 := BX4.cell 9 rfl
                    go_wp2_with (first
                      | (at_builtin; refine wp_pushE encSg_is strSg (by rfl) _ _ (by rfl) (w.heap.size + 1) _ (cutC h d S M i) ⟨{ h with seq := sq, fl := G }, T⟩ _ 1 (by rfl) (by rfl) (At.new W4 (encSg ⟨{ h with seq := sq, fl := G }, T⟩) _) (OM4.alloc _) (i + 1) hln hlen (alloc_le hb4 _) _ rfl ?_; intro g6 k6 w6 O6 G6 hat6 hlt6))
                    have hy : (⟨{ h with seq := sq, fl := G }, T⟩ : SgC) = segC h d S M i := by rw [segC, ← HSQ.out, ← HG.out, hlo, hhi, hT]
                    rw [hy, ← cutC_succ] at O6
                    have BH6 := (BH4.alloc _).out (out_pushE G6) (fun e => by have := hvo _ e; omega)
                    have LL6 := (new_alloc LL4 _).trans ((below_pushE (OM4.alloc _) G6 (alloc_le hb4 _)).mono (Nat.le_succ _))
                    go_roundg (M - (i + 1))
                    case measure => omega
                    case rel => exact ⟨i + 1, _, by go_num, rfl, by omega, rfl, by omega, fun hl => by have := HF.out; have := HFE.out; rw [← sq_succ, ← HSQ.out]; split <;> omega, BH6, O6, LL6⟩
                  · have j1 : (0 : Int) < (i : Int) := by omega
                    have jz : ((i : Int) == 0) = false := by simp; omega
                    have j2 : (i : Int) < (M : Int) - 1 := by omega
                    obtain ⟨g1, eg1⟩ : ∃ g1, h.fl - 2 = g1 := ⟨_, rfl⟩
                    have bg1 : 0 ≤ g1 ∧ g1 ≤ 255 := by have := HF.out; omega
                    obtain ⟨bg10, bg11⟩ := bg1
                    obtain ⟨g2, eg2⟩ : ∃ g2, g1 - 1 = g2 := ⟨_, rfl⟩
                    have bg2 : 0 ≤ g2 ∧ g2 ≤ 255 := by have := HF.out; omega
                    obtain ⟨bg20, bg21⟩ := bg2
                    obtain ⟨g3, eg3⟩ : ∃ g3, g2 - 8 = g3 := ⟨_, rfl⟩
                    have bg3 : 0 ≤ g3 ∧ g3 ≤ 255 := by have := HF.out; omega
                    obtain ⟨bg30, bg31⟩ := bg3
                    go_upto_region 25 with (fail)
                    have HG : Hid (g3 = flC h.fl (decide (0 < i)) (decide (i + 1 < M))) := Lib.hid (by have := HF.out; simp [flC, h1, h2] <;> omega)
                    have BX4 : Blk (((W3.setCell ⟨gx, 6, none⟩ (.int .u8 g1)).setCell ⟨gx, 6, none⟩ (.int .u8 g2)).setCell ⟨gx, 6, none⟩ (.int .u8 g3)) gx (hdV { h with seq := sq, fl := g3 }) 27 := (((BX3.set 6 (.int .u8 g1)).set 6 (.int .u8 g2)).set 6 (.int .u8 g3))
                    have O4 : Out (fun k => k = gx) W3 (((W3.setCell ⟨gx, 6, none⟩ (.int .u8 g1)).setCell ⟨gx, 6, none⟩ (.int .u8 g2)).setCell ⟨gx, 6, none⟩ (.int .u8 g3)) := ((((Out.refl (fun k => k = gx) W3).set (p := ⟨gx, 6, none⟩) (.inl rfl) (.int .u8 g1)).set (p := ⟨gx, 6, none⟩) (.inl rfl) (.int .u8 g2)).set (p := ⟨gx, 6, none⟩) (.inl rfl) (.int .u8 g3))
                    clear c0 c1 c2 c3 c4 c5 c6 c7 c8 c9 cf
                    generalize (((W3.setCell ⟨gx, 6, none⟩ (.int .u8 g1)).setCell ⟨gx, 6, none⟩ (.int .u8 g2)).setCell ⟨gx, 6, none⟩ (.int .u8 g3)) = W4 at BX4 O4 ⊢
                    generalize g3 = G at HG BX4 ⊢
                    have BH4 := BH3.out O4 (show ¬ w.heap.size = gx by omega)
                    have OM4 : OwnSg W4 (w.heap.size + 1) u8 (cutC h d S M i) := OM3.out O4 (fun g e => by have := hvo g e; omega)
                    have LL4 := LL3.trans (O4.below LL3.size (fun k e => by omega))
                    have hb4 : w.heap.size + 1 ≤ W4.heap.size := by have := BX4.lt; omega
                    clear BX3 BH3 OM3 LL3 O4
                    have c0 := BX4.cell 0 rfl; have c1 := BX4.cell 1 rfl; have c2 := BX4.cell 2 rfl; have c3 := BX4.cell 3 rfl; have c4 := BX4.cell 4 rfl; have c5 := BX4.cell 5 rfl; have c6 := BX4.cell 6 rfl; have c7 := BX4.cell 7 rfl; have c8 := BX4.cell 8 rfl; have c9 := BX4.cell 9 rfl
                    go_wp2_with (first
                      | (at_builtin; refine wp_pushE encSg_is strSg (by rfl) _ _ (by rfl) (w.heap.size + 1) _ (cutC h d S M i) ⟨{ h with seq := sq, fl := G }, T⟩ _ 1 (by rfl) (by rfl) (At.new W4 (encSg ⟨{ h with seq := sq, fl := G }, T⟩) _) (OM4.alloc _) (i + 1) hln hlen (alloc_le hb4 _) _ rfl ?_; intro g6 k6 w6 O6 G6 hat6 hlt6))
                    have hy : (⟨{ h with seq := sq, fl := G }, T⟩ : SgC) = segC h d S M i := by rw [segC, ← HSQ.out, ← HG.out, hlo, hhi, hT]
                    rw [hy, ← cutC_succ] at O6
                    have BH6 := (BH4.alloc _).out (out_pushE G6) (fun e => by have := hvo _ e; omega)
                    have LL6 := (new_alloc LL4 _).trans ((below_pushE (OM4.alloc _) G6 (alloc_le hb4 _)).mono (Nat.le_succ _))
                    go_roundg (M - (i + 1))
                    case measure => omega
                    case rel => exact ⟨i + 1, _, by go_num, rfl, by omega, rfl, by omega, fun hl => by have := HF.out; have := HFE.out; rw [← sq_succ, ← HSQ.out]; split <;> omega, BH6, O6, LL6⟩
              · have j1 : (0 : Int) < (i : Int) := by omega
                have jz : ((i : Int) == 0) = false := by simp; omega
                have j2 : ¬ (i : Int) < (M : Int) - 1 := by omega
                obtain ⟨g1, eg1⟩ : ∃ g1, h.fl - 2 = g1 := ⟨_, rfl⟩
                have bg1 : 0 ≤ g1 ∧ g1 ≤ 255 := by have := HF.out; omega
                obtain ⟨bg10, bg11⟩ := bg1
                go_upto_region 25 with (fail)
                have HG : Hid (g1 = flC h.fl (decide (0 < i)) (decide (i + 1 < M))) := Lib.hid (by have := HF.out; simp [flC, h1, h2] <;> omega)
                have BX4 : Blk (W3.setCell ⟨gx, 6, none⟩ (.int .u8 g1)) gx (hdV { h with seq := sq, fl := g1 }) 27 := (BX3.set 6 (.int .u8 g1))
                have O4 : Out (fun k => k = gx) W3 (W3.setCell ⟨gx, 6, none⟩ (.int .u8 g1)) := ((Out.refl (fun k => k = gx) W3).set (p := ⟨gx, 6, none⟩) (.inl rfl) (.int .u8 g1))
                clear c0 c1 c2 c3 c4 c5 c6 c7 c8 c9 cf
                generalize (W3.setCell ⟨gx, 6, none⟩ (.int .u8 g1)) = W4 at BX4 O4 ⊢
                generalize g1 = G at HG BX4 ⊢
                have BH4 := BH3.out O4 (show ¬ w.heap.size = gx by omega)
                have OM4 : OwnSg W4 (w.heap.size + 1) u8 (cutC h d S M i) := OM3.out O4 (fun g e => by have := hvo g e; omega)
                have LL4 := LL3.trans (O4.below LL3.size (fun k e => by omega))
                have hb4 : w.heap.size + 1 ≤ W4.heap.size := by have := BX4.lt; omega
                clear BX3 BH3 OM3 LL3 O4
                have c0 := BX4.cell 0 rfl; have c1 := BX4.cell 1 rfl; have c2 := BX4.cell 2 rfl; have c3 := BX4.cell 3 rfl; have c4 := BX4.cell 4 rfl; have c5 := BX4.cell 5 rfl; have c6 := BX4.cell 6 rfl; have c7 := BX4.cell 7 rfl; have c8 := BX4.cell 8 rfl; have c9 := BX4.cell 9 rfl
                go_wp2_with (first
                  | (at_builtin; refine wp_pushE encSg_is strSg (by rfl) _ _ (by rfl) (w.heap.size + 1) _ (cutC h d S M i) ⟨{ h with seq := sq, fl := G }, T⟩ _ 1 (by rfl) (by rfl) (At.new W4 (encSg ⟨{ h with seq := sq, fl := G }, T⟩) _) (OM4.alloc _) (i + 1) hln hlen (alloc_le hb4 _) _ rfl ?_; intro g6 k6 w6 O6 G6 hat6 hlt6))
                have hy : (⟨{ h with seq := sq, fl := G }, T⟩ : SgC) = segC h d S M i := by rw [segC, ← HSQ.out, ← HG.out, hlo, hhi, hT]
                rw [hy, ← cutC_succ] at O6
                have BH6 := (BH4.alloc _).out (out_pushE G6) (fun e => by have := hvo _ e; omega)
                have LL6 := (new_alloc LL4 _).trans ((below_pushE (OM4.alloc _) G6 (alloc_le hb4 _)).mono (Nat.le_succ _))
                go_roundg (M - (i + 1))
                case measure => omega
                case rel => exact ⟨i + 1, _, by go_num, rfl, by omega, rfl, by omega, fun hl => by have := HF.out; have := HFE.out; rw [← sq_succ, ← HSQ.out]; split <;> omega, BH6, O6, LL6⟩
          · rcases hsy01 with rfl | rfl
            · rcases hM01 with h2 | h2
              · rcases hfi01 with rfl | rfl
                · rcases hps01 with rfl | rfl
                  · have j1 : ¬ (0 : Int) < (i : Int) := by omega
                    have jz : ((i : Int) == 0) = true := by simp; omega
                    have j2 : (i : Int) < (M : Int) - 1 := by omega
                    go_upto_region 25 with (fail)
                    have HG : Hid (h.fl = flC h.fl (decide (0 < i)) (decide (i + 1 < M))) := Lib.hid (by have := HF.out; simp [flC, h1, h2] <;> omega)
                    have BX4 : Blk W3 gx (hdV { h with seq := sq, fl := h.fl }) 27 := BX3
                    have O4 : Out (fun k => k = gx) W3 W3 := (Out.refl (fun k => k = gx) W3)
                    clear c0 c1 c2 c3 c4 c5 c6 c7 c8 c9 cf
                    generalize W3 = W4 at BX3 BX4 BH3 OM3 LL3 O4 ⊢
                    obtain ⟨G, hG⟩ : ∃ G, h.fl = G := ⟨_, rfl⟩
                    replace HG : Hid (G = flC h.fl (decide (0 < i)) (decide (i + 1 < M))) := Lib.hid (by rw [← hG]; exact HG.out)
                    replace BX4 : Blk W4 gx (hdV { h with seq := sq, fl := G }) 27 := by rw [← hG]; exact BX4
                    clear hG
                    have BH4 := BH3.out O4 (show ¬ w.heap.size = gx by omega)
                    have OM4 : OwnSg W4 (w.heap.size + 1) u8 (cutC h d S M i) := OM3.out O4 (fun g e => by have := hvo g e; omega)
                    have LL4 := LL3.trans (O4.below LL3.size (fun k e => by omega))
                    have hb4 : w.heap.size + 1 ≤ W4.heap.size := by have := BX4.lt; omega
                    clear BX3 BH3 OM3 LL3 O4
                    have c0 := BX4.cell 0 rfl; have c1 := BX4.cell 1 rfl; have c2 := BX4.cell 2 rfl; have c3 := BX4.cell 3 rfl; have c4 := BX4.cell 4 rfl; have c5 := BX4.cell 5 rfl; have c6 := BX4.cell 6 rfl; have c7 := BX4.cell 7 rfl; have c8 := BX4.cell 8 rfl; have c9 := BX4.cell 9 rfl
                    go_wp2_with (first
                      | (at_builtin; refine wp_pushE encSg_is strSg (by rfl) _ _ (by rfl) (w.heap.size + 1) _ (cutC h d S M i) ⟨{ h with seq := sq, fl := G }, T⟩ _ 1 (by rfl) (by rfl) (At.new W4 (encSg ⟨{ h with seq := sq, fl := G }, T⟩) _) (OM4.alloc _) (i + 1) hln hlen (alloc_le hb4 _) _ rfl ?_; intro g6 k6 w6 O6 G6 hat6 hlt6))
                    have hy : (⟨{ h with seq := sq, fl := G }, T⟩ : SgC) = segC h d S M i := by rw [segC, ← HSQ.out, ← HG.out, hlo, hhi, hT]
                    rw [hy, ← cutC_succ] at O6
                    have BH6 := (BH4.alloc _).out (out_pushE G6) (fun e => by have := hvo _ e; omega)
                    have LL6 := (new_alloc LL4 _).trans ((below_pushE (OM4.alloc _) G6 (alloc_le hb4 _)).mono (Nat.le_succ _))
                    go_roundg (M - (i + 1))
                    case measure => omega
                    case rel => exact ⟨i + 1, _, by go_num, rfl, by omega, rfl, by omega, fun hl => by have := HF.out; have := HFE.out; rw [← sq_succ, ← HSQ.out]; split <;> omega, BH6, O6, LL6⟩
                  · have j1 : ¬ (0 : Int) < (i : Int) := by omega
                    have jz : ((i : Int) == 0) = true := by simp; omega
                    have j2 : (i : Int) < (M : Int) - 1 := by omega
                    obtain ⟨g3, eg3⟩ : ∃ g3, h.fl - 8 = g3 := ⟨_, rfl⟩
                    have bg3 : 0 ≤ g3 ∧ g3 ≤ 255 := by have := HF.out; omega
                    obtain ⟨bg30, bg31⟩ := bg3
                    go_upto_region 25 with (fail)
                    have HG : Hid (g3 = flC h.fl (decide (0 < i)) (decide (i + 1 < M))) := Lib.hid (by have := HF.out; simp [flC, h1, h2] <;> omega)
                    have BX4 : Blk (W3.setCell ⟨gx, 6, none⟩ (.int .u8 g3)) gx (hdV { h with seq := sq, fl := g3 }) 27 := (BX3.set 6 (.int .u8 g3))
                    have O4 : Out (fun k => k = gx) W3 (W3.setCell ⟨gx, 6, none⟩ (.int .u8 g3)) := ((Out.refl (fun k => k = gx) W3).set (p := ⟨gx, 6, none⟩) (.inl rfl) (.int .u8 g3))
                    clear c0 c1 c2 c3 c4 c5 c6 c7 c8 c9 cf
                    generalize (W3.setCell ⟨gx, 6, none⟩ (.int .u8 g3)) = W4 at BX4 O4 ⊢
                    generalize g3 = G at HG BX4 ⊢
                    have BH4 := BH3.out O4 (show ¬ w.heap.size = gx by omega)
                    have OM4 : OwnSg W4 (w.heap.size + 1) u8 (cutC h d S M i) := OM3.out O4 (fun g e => by have := hvo g e; omega)
                    have LL4 := LL3.trans (O4.below LL3.size (fun k e => by omega))
                    have hb4 : w.heap.size + 1 ≤ W4.heap.size := by have := BX4.lt; omega
                    clear BX3 BH3 OM3 LL3 O4
                    have c0 := BX4.cell 0 rfl; have c1 := BX4.cell 1 rfl; have c2 := BX4.cell 2 rfl; have c3 := BX4.cell 3 rfl; have c4 := BX4.cell 4 rfl; have c5 := BX4.cell 5 rfl; have c6 := BX4.cell 6 rfl; have c7 := BX4.cell 7 rfl; have c8 := BX4.cell 8 rfl; have c9 := BX4.cell 9 rfl
                    go_wp2_with (first
                      | (at_builtin; refine wp_pushE encSg_is strSg (by rfl) _ _ (by rfl) (w.heap.size + 1) _ (cutC h d S M i) ⟨{ h with seq := sq, fl := G }, T⟩ _ 1 (by rfl) (by rfl) (At.new W4 (encSg ⟨{ h with seq := sq, fl := G }, T⟩) _) (OM4.alloc _) (i + 1) hln hlen (alloc_le hb4 _) _ rfl ?_; intro g6 k6 w6 O6 G6 hat6 hlt6))
                    have hy : (⟨{ h with seq := sq, fl := G }, T⟩ : SgC) = segC h d S M i := by rw [segC, ← HSQ.out, ← HG.out, hlo, hhi, hT]
                    rw [hy, ← cutC_succ] at O6
                    have BH6 := (BH4.alloc _).out (out_pushE G6) (fun e => by have := hvo _ e; omega)
                    have LL6 := (new_alloc LL4 _).trans ((below_pushE (OM4.alloc _) G6 (alloc_le hb4 _)).mono (Nat.le_succ _))
                    go_roundg (M - (i + 1))
                    case measure => omega
                    case rel => exact ⟨i + 1, _, by go_num, rfl, by omega, rfl, by omega, fun hl => by have := HF.out; have := HFE.out; rw [← sq_succ, ← HSQ.out]; split <;> omega, BH6, O6, LL6⟩
                · rcases hps01 with rfl | rfl
                  · have j1 : ¬ (0 : Int) < (i : Int) := by omega
                    have jz : ((i : Int) == 0) = true := by simp; omega
                    have j2 : (i : Int) < (M : Int) - 1 := by omega
                    obtain ⟨g2, eg2⟩ : ∃ g2, h.fl - 1 = g2 := ⟨_, rfl⟩
                    have bg2 : 0 ≤ g2 ∧ g2 ≤ 255 := by have := HF.out; omega
                    obtain ⟨bg20, bg21⟩ := bg2
                    go_upto_region 25 with (fail)
                    have HG : Hid (g2 = flC h.fl (decide (0 < i)) (decide (i + 1 < M))) := Lib.hid (by have := HF.out; simp [flC, h1, h2] <;> omega)
                    have BX4 : Blk (W3.setCell ⟨gx, 6, none⟩ (.int .u8 g2)) gx (hdV { h with seq := sq, fl := g2 }) 27 := (BX3.set 6 (.int .u8 g2))
                    have O4 : Out (fun k => k = gx) W3 (W3.setCell ⟨gx, 6, none⟩ (.int .u8 g2)) := ((Out.refl (fun k => k = gx) W3).set (p := ⟨gx, 6, none⟩) (.inl rfl) (.int .u8 g2))
                    clear c0 c1 c2 c3 c4 c5 c6 c7 c8 c9 cf
                    generalize (W3.setCell ⟨gx, 6, none⟩ (.int .u8 g2)) = W4 at BX4 O4 ⊢
                    generalize g2 = G at HG BX4 ⊢
                    have BH4 := BH3.out O4 (show ¬ w.heap.size = gx by omega)
                    have OM4 : OwnSg W4 (w.heap.size + 1) u8 (cutC h d S M i) := OM3.out O4 (fun g e => by have := hvo g e; omega)
                    have LL4 := LL3.trans (O4.below LL3.size (fun k e => by omega))
                    have hb4 : w.heap.size + 1 ≤ W4.heap.size := by have := BX4.lt; omega
                    clear BX3 BH3 OM3 LL3 O4
                    have c0 := BX4.cell 0 rfl; have c1 := BX4.cell 1 rfl; have c2 := BX4.cell 2 rfl; have c3 := BX4.cell 3 rfl; have c4 := BX4.cell 4 rfl; have c5 := BX4.cell 5 rfl; have c6 := BX4.cell 6 rfl; have c7 := BX4.cell 7 rfl; have c8 := BX4.cell 8 rfl; have c9 := BX4.cell 9 rfl
                    go_wp2_with (first
                      | (at_builtin; refine wp_pushE encSg_is strSg (by rfl) _ _ (by rfl) (w.heap.size + 1) _ (cutC h d S M i) ⟨{ h with seq := sq, fl := G }, T⟩ _ 1 (by rfl) (by rfl) (At.new W4 (encSg ⟨{ h with seq := sq, fl := G }, T⟩) _) (OM4.alloc _) (i + 1) hln hlen (alloc_le hb4 _) _ rfl ?_; intro g6 k6 w6 O6 G6 hat6 hlt6))
                    have hy : (⟨{ h with seq := sq, fl := G }, T⟩ : SgC) = segC h d S M i := by rw [segC, ← HSQ.out, ← HG.out, hlo, hhi, hT]
                    rw [hy, ← cutC_succ] at O6
                    have BH6 := (BH4.alloc _).out (out_pushE G6) (fun e => by have := hvo _ e; omega)
                    have LL6 := (new_alloc LL4 _).trans ((below_pushE (OM4.alloc _) G6 (alloc_le hb4 _)).mono (Nat.le_succ _))
                    go_roundg (M - (i + 1))
                    case measure => omega
                    case rel => exact ⟨i + 1, _, by go_num, rfl, by omega, rfl, by omega, fun hl => by have := HF.out; have := HFE.out; rw [← sq_succ, ← HSQ.out]; split <;> omega, BH6, O6, LL6⟩
                  · have j1 : ¬ (0 : Int) < (i : Int) := by omega
                    have jz : ((i : Int) == 0) = true := by simp; omega
                    have j2 : (i : Int) < (M : Int) - 1 := by omega
                    obtain ⟨g2, eg2⟩ : ∃ g2, h.fl - 1 = g2 := ⟨_, rfl⟩
                    have bg2 : 0 ≤ g2 ∧ g2 ≤ 255 := by have := HF.out; omega
                    obtain ⟨bg20, bg21⟩ := bg2
                    obtain ⟨g3, eg3⟩ : ∃ g3, g2 - 8 = g3 := ⟨_, rfl⟩
                    have bg3 : 0 ≤ g3 ∧ g3 ≤ 255 := by have := HF.out; omega
                    obtain ⟨bg30, bg31⟩ := bg3
                    go_upto_region 25 with (fail)
                    have HG : Hid (g3 = flC h.fl (decide (0 < i)) (decide (i + 1 < M))) := Lib.hid (by have := HF.out; simp [flC, h1, h2] <;> omega)
                    have BX4 : Blk ((W3.setCell ⟨gx, 6, none⟩ (.int .u8 g2)).setCell ⟨gx, 6, none⟩ (.int .u8 g3)) gx (hdV { h with seq := sq, fl := g3 }) 27 := ((BX3.set 6 (.int .u8 g2)).set 6 (.int .u8 g3))
                    have O4 : Out (fun k => k = gx) W3 ((W3.setCell ⟨gx, 6, none⟩ (.int .u8 g2)).setCell ⟨gx, 6, none⟩ (.int .u8 g3)) := (((Out.refl (fun k => k = gx) W3).set (p := ⟨gx, 6, none⟩) (.inl rfl) (.int .u8 g2)).set (p := ⟨gx, 6, none⟩) (.inl rfl) (.int .u8 g3))
                    clear c0 c1 c2 c3 c4 c5 c6 c7 c8 c9 cf
                    generalize ((W3.setCell ⟨gx, 6, none⟩ (.int .u8 g2)).setCell ⟨gx, 6, none⟩ (.int .u8 g3)) = W4 at BX4 O4 ⊢
                    generalize g3 = G at HG BX4 ⊢
                    have BH4 := BH3.out O4 (show ¬ w.heap.size = gx by omega)
                    have OM4 : OwnSg W4 (w.heap.size + 1) u8 (cutC h d S M i) := OM3.out O4 (fun g e => by have := hvo g e; omega)
                    have LL4 := LL3.trans (O4.below LL3.size (fun k e => by omega))
                    have hb4 : w.heap.size + 1 ≤ W4.heap.size := by have := BX4.lt; omega
                    clear BX3 BH3 OM3 LL3 O4
                    have c0 := BX4.cell 0 rfl; have c1 := BX4.cell 1 rfl; have c2 := BX4.cell 2 rfl; have c3 := BX4.cell 3 rfl; have c4 := BX4.cell 4 rfl; have c5 := BX4.cell 5 rfl; have c6 := BX4.cell 6 rfl; have c7 := BX4.cell 7 rfl; have c8 := BX4.cell 8 rfl; have c9 := BX4.cell 9 rfl
                    go_wp2_with (first
                      | (at_builtin; refine wp_pushE encSg_is strSg (by rfl) _ _ (by rfl) (w.heap.size + 1) _ (cutC h d S M i) ⟨{ h with seq := sq, fl := G }, T⟩ _ 1 (by rfl) (by rfl) (At.new W4 (encSg ⟨{ h with seq := sq, fl := G }, T⟩) _) (OM4.alloc _) (i + 1) hln hlen (alloc_le hb4 _) _ rfl ?_; intro g6 k6 w6 O6 G6 hat6 hlt6))
                    have hy : (⟨{ h with seq := sq, fl := G }, T⟩ : SgC) = segC h d S M i := by rw [segC, ← HSQ.out, ← HG.out, hlo, hhi, hT]
                    rw [hy, ← cutC_succ] at O6
                    have BH6 := (BH4.alloc _).out (out_pushE G6) (fun e => by have := hvo _ e; omega)
                    have LL6 := (new_alloc LL4 _).trans ((below_pushE (OM4.alloc _) G6 (alloc_le hb4 _)).mono (Nat.le_succ _))
                    go_roundg (M - (i + 1))
                    case measure => omega
                    case rel => exact ⟨i + 1, _, by go_num, rfl, by omega, rfl, by omega, fun hl => by have := HF.out; have := HFE.out; rw [← sq_succ, ← HSQ.out]; split <;> omega, BH6, O6, LL6⟩
              · have j1 : ¬ (0 : Int) < (i : Int) := by omega
                have jz : ((i : Int) == 0) = true := by simp; omega
                have j2 : ¬ (i : Int) < (M : Int) - 1 := by omega
                go_upto_region 25 with (fail)
                have HG : Hid (h.fl = flC h.fl (decide (0 < i)) (decide (i + 1 < M))) := Lib.hid (by have := HF.out; simp [flC, h1, h2] <;> omega)
                have BX4 : Blk W3 gx (hdV { h with seq := sq, fl := h.fl }) 27 := BX3
                have O4 : Out (fun k => k = gx) W3 W3 := (Out.refl (fun k => k = gx) W3)
                clear c0 c1 c2 c3 c4 c5 c6 c7 c8 c9 cf
                generalize W3 = W4 at BX3 BX4 BH3 OM3 LL3 O4 ⊢
                obtain ⟨G, hG⟩ : ∃ G, h.fl = G := ⟨_, rfl⟩
                replace HG : Hid (G = flC h.fl (decide (0 < i)) (decide (i + 1 < M))) := Lib.hid (by rw [← hG]; exact HG.out)
                replace BX4 : Blk W4 gx (hdV { h with seq := sq, fl := G }) 27 := by rw [← hG]; exact BX4
                clear hG
                have BH4 := BH3.out O4 (show ¬ w.heap.size = gx by omega)
                have OM4 : OwnSg W4 (w.heap.size + 1) u8 (cutC h d S M i) := OM3.out O4 (fun g e => by have := hvo g e; omega)
                have LL4 := LL3.trans (O4.below LL3.size (fun k e => by omega))
                have hb4 : w.heap.size + 1 ≤ W4.heap.size := by have := BX4.lt; omega
                clear BX3 BH3 OM3 LL3 O4
                have c0 := BX4.cell 0 rfl; have c1 := BX4.cell 1 rfl; have c2 := BX4.cell 2 rfl; have c3 := BX4.cell 3 rfl; have c4 := BX4.cell 4 rfl; have c5 := BX4.cell 5 rfl; have c6 := BX4.cell 6 rfl; have c7 := BX4.cell 7 rfl; have c8 := BX4.cell 8 rfl; have c9 := BX4.cell 9 rfl
                go_wp2_with (first
                  | (at_builtin; refine wp_pushE encSg_is strSg (by rfl) _ _ (by rfl) (w.heap.size + 1) _ (cutC h d S M i) ⟨{ h with seq := sq, fl := G }, T⟩ _ 1 (by rfl) (by rfl) (At.new W4 (encSg ⟨{ h with seq := sq, fl := G }, T⟩) _) (OM4.alloc _) (i + 1) hln hlen (alloc_le hb4 _) _ rfl ?_; intro g6 k6 w6 O6 G6 hat6 hlt6))
                have hy : (⟨{ h with seq := sq, fl := G }, T⟩ : SgC) = segC h d S M i := by rw [segC, ← HSQ.out, ← HG.out, hlo, hhi, hT]
                rw [hy, ← cutC_succ] at O6
                have BH6 := (BH4.alloc _).out (out_pushE G6) (fun e => by have := hvo _ e; omega)
                have LL6 := (new_alloc LL4 _).trans ((below_pushE (OM4.alloc _) G6 (alloc_le hb4 _)).mono (Nat.le_succ _))
                go_roundg (M - (i + 1))
                case measure => omega
                case rel => exact ⟨i + 1, _, by go_num, rfl, by omega, rfl, by omega, fun hl => by have := HF.out; have := HFE.out; rw [← sq_succ, ← HSQ.out]; split <;> omega, BH6, O6, LL6⟩
            · rcases hM01 with h2 | h2
              · rcases hfi01 with rfl | rfl
                · rcases hps01 with rfl | rfl
                  · have j1 : ¬ (0 : Int) < (i : Int) := by omega
                    have jz : ((i : Int) == 0) = true := by simp; omega
                    have j2 : (i : Int) < (M : Int) - 1 := by omega
                    go_upto_region 25 with (fail)
                    have HG : Hid (h.fl = flC h.fl (decide (0 < i)) (decide (i + 1 < M))) := Lib.hid (by have := HF.out; simp [flC, h1, h2] <;> omega)
                    have BX4 : Blk W3 gx (hdV { h with seq := sq, fl := h.fl }) 27 := BX3
                    have O4 : Out (fun k => k = gx) W3 W3 := (Out.refl (fun k => k = gx) W3)
                    clear c0 c1 c2 c3 c4 c5 c6 c7 c8 c9 cf
                    generalize W3 = W4 at BX3 BX4 BH3 OM3 LL3 O4 ⊢
                    obtain ⟨G, hG⟩ : ∃ G, h.fl = G := ⟨_, rfl⟩
                    replace HG : Hid (G = flC h.fl (decide (0 < i)) (decide (i + 1 < M))) := Lib.hid (by rw [← hG]; exact HG.out)
                    replace BX4 : Blk W4 gx (hdV { h with seq := sq, fl := G }) 27 := by rw [← hG]; exact BX4
                    clear hG
                    have BH4 := BH3.out O4 (show ¬ w.heap.size = gx by omega)
                    have OM4 : OwnSg W4 (w.heap.size + 1) u8 (cutC h d S M i) := OM3.out O4 (fun g e => by have := hvo g e; omega)
                    have LL4 := LL3.trans (O4.below LL3.size (fun k e => by omega))
                    have hb4 : w.heap.size + 1 ≤ W4.heap.size := by have := BX4.lt; omega
                    clear BX3 BH3 OM3 LL3 O4
                    have c0 := BX4.cell 0 rfl; have c1 := BX4.cell 1 rfl; have c2 := BX4.cell 2 rfl; have c3 := BX4.cell 3 rfl; have c4 := BX4.cell 4 rfl; have c5 := BX4.cell 5 rfl; have c6 := BX4.cell 6 rfl; have c7 := BX4.cell 7 rfl; have c8 := BX4.cell 8 rfl; have c9 := BX4.cell 9 rfl
                    go_wp2_with (first
                      | (at_builtin; refine wp_pushE encSg_is strSg (by rfl) _ _ (by rfl) (w.heap.size + 1) _ (cutC h d S M i) ⟨{ h with seq := sq, fl := G }, T⟩ _ 1 (by rfl) (by rfl) (At.new W4 (encSg ⟨{ h with seq := sq, fl := G }, T⟩) _) (OM4.alloc _) (i + 1) hln hlen (alloc_le hb4 _) _ rfl ?_; intro g6 k6 w6 O6 G6 hat6 hlt6))
                    have hy : (⟨{ h with seq := sq, fl := G }, T⟩ : SgC) = segC h d S M i := by rw [segC, ← HSQ.out, ← HG.out, hlo, hhi, hT]
                    rw [hy, ← cutC_succ] at O6
                    have BH6 := (BH4.alloc _).out (out_pushE G6) (fun e => by have := hvo _ e; omega)
                    have LL6 := (new_alloc LL4 _).trans ((below_pushE (OM4.alloc _) G6 (alloc_le hb4 _)).mono (Nat.le_succ _))
                    go_roundg (M - (i + 1))
                    case measure => omega
                    case rel => exact ⟨i + 1, _, by go_num, rfl, by omega, rfl, by omega, fun hl => by have := HF.out; have := HFE.out; rw [← sq_succ, ← HSQ.out]; split <;> omega, BH6, O6, LL6⟩
                  · have j1 : ¬ (0 : Int) < (i : Int) := by omega
                    have jz : ((i : Int) == 0) = true := by simp; omega
                    have j2 : (i : Int) < (M : Int) - 1 := by omega
                    obtain ⟨g3, eg3⟩ : ∃ g3, h.fl - 8 = g3 := ⟨_, rfl⟩
                    have bg3 : 0 ≤ g3 ∧ g3 ≤ 255 := by have := HF.out; omega
                    obtain ⟨bg30, bg31⟩ := bg3
                    go_upto_region 25 with (fail)
                    have HG : Hid (g3 = flC h.fl (decide (0 < i)) (decide (i + 1 < M))) := Lib.hid (by have := HF.out; simp [flC, h1, h2] <;> omega)
                    have BX4 : Blk (W3.setCell ⟨gx, 6, none⟩ (.int .u8 g3)) gx (hdV { h with seq := sq, fl := g3 }) 27 := (BX3.set 6 (.int .u8 g3))
                    have O4 : Out (fun k => k = gx) W3 (W3.setCell ⟨gx, 6, none⟩ (.int .u8 g3)) := ((Out.refl (fun k => k = gx) W3).set (p := ⟨gx, 6, none⟩) (.inl rfl) (.int .u8 g3))
                    clear c0 c1 c2 c3 c4 c5 c6 c7 c8 c9 cf
                    generalize (W3.setCell ⟨gx, 6, none⟩ (.int .u8 g3)) = W4 at BX4 O4 ⊢
                    generalize g3 = G at HG BX4 ⊢
                    have BH4 := BH3.out O4 (show ¬ w.heap.size = gx by omega)
                    have OM4 : OwnSg W4 (w.heap.size + 1) u8 (cutC h d S M i) := OM3.out O4 (fun g e => by have := hvo g e; omega)
                    have LL4 := LL3.trans (O4.below LL3.size (fun k e => by omega))
                    have hb4 : w.heap.size + 1 ≤ W4.heap.size := by have := BX4.lt; omega
                    clear BX3 BH3 OM3 LL3 O4
                    have c0 := BX4.cell 0 rfl; have c1 := BX4.cell 1 rfl; have c2 := BX4.cell 2 rfl; have c3 := BX4.cell 3 rfl; have c4 := BX4.cell 4 rfl; have c5 := BX4.cell 5 rfl; have c6 := BX4.cell 6 rfl; have c7 := BX4.cell 7 rfl; have c8 := BX4.cell 8 rfl; have c9 := BX4.cell 9 rfl
                    go_wp2_with (first
                      | (at_builtin; refine wp_pushE encSg_is strSg (by rfl) _ _ (by rfl) (w.heap.size + 1) _ (cutC h d S M i) ⟨{ h with seq := sq, fl := G }, T⟩ _ 1 (by rfl) (by rfl) (At.new W4 (encSg ⟨{ h with seq := sq, fl := G }, T⟩) _) (OM4.alloc _) (i + 1) hln hlen (alloc_le hb4 _) _ rfl ?_; intro g6 k6 w6 O6 G6 hat6 hlt6))
                    have hy : (⟨{ h with seq := sq, fl := G }, T⟩ : SgC) = segC h d S M i := by rw [segC, ← HSQ.out, ← HG.out, hlo, hhi, hT]
                    rw [hy, ← cutC_succ] at O6
                    have BH6 := (BH4.alloc _).out (out_pushE G6) (fun e => by have := hvo _ e; omega)
                    have LL6 := (new_alloc LL4 _).trans ((below_pushE (OM4.alloc _) G6 (alloc_le hb4 _)).mono (Nat.le_succ _))
                    go_roundg (M - (i + 1))
                    case measure => omega
                    case rel => exact ⟨i + 1, _, by go_num, rfl, by omega, rfl, by omega, fun hl => by have := HF.out; have := HFE.out; rw [← sq_succ, ← HSQ.out]; split <;> omega, BH6, O6, LL6⟩
                · rcases hps01 with rfl | rfl
                  · have j1 : ¬ (0 : Int) < (i : Int) := by omega
                    have jz : ((i : Int) == 0) = true := by simp; omega
                    have j2 : (i : Int) < (M : Int) - 1 := by omega
                    obtain ⟨g2, eg2⟩ : ∃ g2, h.fl - 1 = g2 := ⟨_, rfl⟩
                    have bg2 : 0 ≤ g2 ∧ g2 ≤ 255 := by have := HF.out; omega
                    obtain ⟨bg20, bg21⟩ := bg2
                    go_upto_region 25 with (fail)
                    have HG : Hid (g2 = flC h.fl (decide (0 < i)) (decide (i + 1 < M))) := Lib.hid (by have := HF.out; simp [flC, h1, h2] <;> omega)
                    have BX4 : Blk (W3.setCell ⟨gx, 6, none⟩ (.int .u8 g2)) gx (hdV { h with seq := sq, fl := g2 }) 27 := (BX3.set 6 (.int .u8 g2))
                    have O4 : Out (fun k => k = gx) W3 (W3.setCell ⟨gx, 6, none⟩ (.int .u8 g2)) := ((Out.refl (fun k => k = gx) W3).set (p := ⟨gx, 6, none⟩) (.inl rfl) (.int .u8 g2))
                    clear c0 c1 c2 c3 c4 c5 c6 c7 c8 c9 cf
                    generalize (W3.setCell ⟨gx, 6, none⟩ (.int .u8 g2)) = W4 at BX4 O4 ⊢
                    generalize g2 = G at HG BX4 ⊢
                    have BH4 := BH3.out O4 (show ¬ w.heap.size = gx by omega)
                    have OM4 : OwnSg W4 (w.heap.size + 1) u8 (cutC h d S M i) := OM3.out O4 (fun g e => by have := hvo g e; omega)
                    have LL4 := LL3.trans (O4.below LL3.size (fun k e => by omega))
                    have hb4 : w.heap.size + 1 ≤ W4.heap.size := by have := BX4.lt; omega
                    clear BX3 BH3 OM3 LL3 O4
                    have c0 := BX4.cell 0 rfl; have c1 := BX4.cell 1 rfl; have c2 := BX4.cell 2 rfl; have c3 := BX4.cell 3 rfl; have c4 := BX4.cell 4 rfl; have c5 := BX4.cell 5 rfl; have c6 := BX4.cell 6 rfl; have c7 := BX4.cell 7 rfl; have c8 := BX4.cell 8 rfl; have c9 := BX4.cell 9 rfl
                    go_wp2_with (first
                      | (at_builtin; refine wp_pushE encSg_is strSg (by rfl) _ _ (by rfl) (w.heap.size + 1) _ (cutC h d S M i) ⟨{ h with seq := sq, fl := G }, T⟩ _ 1 (by rfl) (by rfl) (At.new W4 (encSg ⟨{ h with seq := sq, fl := G }, T⟩) _) (OM4.alloc _) (i + 1) hln hlen (alloc_le hb4 _) _ rfl ?_; intro g6 k6 w6 O6 G6 hat6 hlt6))
                    have hy : (⟨{ h with seq := sq, fl := G }, T⟩ : SgC) = segC h d S M i := by rw [segC, ← HSQ.out, ← HG.out, hlo, hhi, hT]
                    rw [hy, ← cutC_succ] at O6
                    have BH6 := (BH4.alloc _).out (out_pushE G6) (fun e => by have := hvo _ e; omega)
                    have LL6 := (new_alloc LL4 _).trans ((below_pushE (OM4.alloc _) G6 (alloc_le hb4 _)).mono (Nat.le_succ _))
                    go_roundg (M - (i + 1))
                    case measure => omega
                    case rel => exact ⟨i + 1, _, by go_num, rfl, by omega, rfl, by omega, fun hl => by have := HF.out; have := HFE.out; rw [← sq_succ, ← HSQ.out]; split <;> omega, BH6, O6, LL6⟩
                  · have j1 : ¬ (0 : Int) < (i : Int) := by omega
                    have jz : ((i : Int) == 0) = true := by simp; omega
                    have j2 : (i : Int) < (M : Int) - 1 := by omega
                    obtain ⟨g2, eg2⟩ : ∃ g2, h.fl - 1 = g2 := ⟨_, rfl⟩
                    have bg2 : 0 ≤ g2 ∧ g2 ≤ 255 := by have := HF.out; omega
                    obtain ⟨bg20, bg21⟩ := bg2
                    obtain ⟨g3, eg3⟩ : ∃ g3, g2 - 8 = g3 := ⟨_, rfl⟩
                    have bg3 : 0 ≤ g3 ∧ g3 ≤ 255 := by have := HF.out; omega
                    obtain ⟨bg30, bg31⟩ := bg3
                    go_upto_region 25 with (fail)
                    have HG : Hid (g3 = flC h.fl (decide (0 < i)) (decide (i + 1 < M))) := Lib.hid (by have := HF.out; simp [flC, h1, h2] <;> omega)
                    have BX4 : Blk ((W3.setCell ⟨gx, 6, none⟩ (.int .u8 g2)).setCell ⟨gx, 6, none⟩ (.int .u8 g3)) gx (hdV { h with seq := sq, fl := g3 }) 27 := ((BX3.set 6 (.int .u8 g2)).set 6 (.int .u8 g3))
                    have O4 : Out (fun k => k = gx) W3 ((W3.setCell ⟨gx, 6, none⟩ (.int .u8 g2)).setCell ⟨gx, 6, none⟩ (.int .u8 g3)) := (((Out.refl (fun k => k = gx) W3).set (p := ⟨gx, 6, none⟩) (.inl rfl) (.int .u8 g2)).set (p := ⟨gx, 6, none⟩) (.inl rfl) (.int .u8 g3))
                    clear c0 c1 c2 c3 c4 c5 c6 c7 c8 c9 cf
                    generalize ((W3.setCell ⟨gx, 6, none⟩ (.int .u8 g2)).setCell ⟨gx, 6, none⟩ (.int .u8 g3)) = W4 at BX4 O4 ⊢
                    generalize g3 = G at HG BX4 ⊢
                    have BH4 := BH3.out O4 (show ¬ w.heap.size = gx by omega)
                    have OM4 : OwnSg W4 (w.heap.size + 1) u8 (cutC h d S M i) := OM3.out O4 (fun g e => by have := hvo g e; omega)
                    have LL4 := LL3.trans (O4.below LL3.size (fun k e => by omega))
                    have hb4 : w.heap.size + 1 ≤ W4.heap.size := by have := BX4.lt; omega
                    clear BX3 BH3 OM3 LL3 O4
                    have c0 := BX4.cell 0 rfl; have c1 := BX4.cell 1 rfl; have c2 := BX4.cell 2 rfl; have c3 := BX4.cell 3 rfl; have c4 := BX4.cell 4 rfl; have c5 := BX4.cell 5 rfl; have c6 := BX4.cell 6 rfl; have c7 := BX4.cell 7 rfl; have c8 := BX4.cell 8 rfl; have c9 := BX4.cell 9 rfl
                    go_wp2_with (first
                      | (at_builtin; refine wp_pushE encSg_is strSg (by rfl) _ _ (by rfl) (w.heap.size + 1) _ (cutC h d S M i) ⟨{ h with seq := sq, fl := G }, T⟩ _ 1 (by rfl) (by rfl) (At.new W4 (encSg ⟨{ h with seq := sq, fl := G }, T⟩) _) (OM4.alloc _) (i + 1) hln hlen (alloc_le hb4 _) _ rfl ?_; intro g6 k6 w6 O6 G6 hat6 hlt6))
                    have hy : (⟨{ h with seq := sq, fl := G }, T⟩ : SgC) = segC h d S M i := by rw [segC, ← HSQ.out, ← HG.out, hlo, hhi, hT]
                    rw [hy, ← cutC_succ] at O6
                    have BH6 := (BH4.alloc _).out (out_pushE G6) (fun e => by have := hvo _ e; omega)
                    have LL6 := (new_alloc LL4 _).trans ((below_pushE (OM4.alloc _) G6 (alloc_le hb4 _)).mono (Nat.le_succ _))
                    go_roundg (M - (i + 1))
                    case measure => omega
                    case rel => exact ⟨i + 1, _, by go_num, rfl, by omega, rfl, by omega, fun hl => by have := HF.out; have := HFE.out; rw [← sq_succ, ← HSQ.out]; split <;> omega, BH6, O6, LL6⟩
              · have j1 : ¬ (0 : Int) < (i : Int) := by omega
                have jz : ((i : Int) == 0) = true := by simp; omega
                have j2 : ¬ (i : Int) < (M : Int) - 1 := by omega
                go_upto_region 25 with (fail)
                have HG : Hid (h.fl = flC h.fl (decide (0 < i)) (decide (i + 1 < M))) := Lib.hid (by have := HF.out; simp [flC, h1, h2] <;> omega)
                have BX4 : Blk W3 gx (hdV { h with seq := sq, fl := h.fl }) 27 := BX3
                have O4 : Out (fun k => k = gx) W3 W3 := (Out.refl (fun k => k = gx) W3)
                clear c0 c1 c2 c3 c4 c5 c6 c7 c8 c9 cf
                generalize W3 = W4 at BX3 BX4 BH3 OM3 LL3 O4 ⊢
                obtain ⟨G, hG⟩ : ∃ G, h.fl = G := ⟨_, rfl⟩
                replace HG : Hid (G = flC h.fl (decide (0 < i)) (decide (i + 1 < M))) := Lib.hid (by rw [← hG]; exact HG.out)
                replace BX4 : Blk W4 gx (hdV { h with seq := sq, fl := G }) 27 := by rw [← hG]; exact BX4
                clear hG
                have BH4 := BH3.out O4 (show ¬ w.heap.size = gx by omega)
                have OM4 : OwnSg W4 (w.heap.size + 1) u8 (cutC h d S M i) := OM3.out O4 (fun g e => by have := hvo g e; omega)
                have LL4 := LL3.trans (O4.below LL3.size (fun k e => by omega))
                have hb4 : w.heap.size + 1 ≤ W4.heap.size := by have := BX4.lt; omega
                clear BX3 BH3 OM3 LL3 O4
                have c0 := BX4.cell 0 rfl; have c1 := BX4.cell 1 rfl; have c2 := BX4.cell 2 rfl; have c3 := BX4.cell 3 rfl; have c4 := BX4.cell 4 rfl; have c5 := BX4.cell 5 rfl; have c6 := BX4.cell 6 rfl; have c7 := BX4.cell 7 rfl; have c8 := BX4.cell 8 rfl; have c9 := BX4.cell 9 rfl
                go_wp2_with (first
                  | (at_builtin; refine wp_pushE encSg_is strSg (by rfl) _ _ (by rfl) (w.heap.size + 1) _ (cutC h d S M i) ⟨{ h with seq := sq, fl := G }, T⟩ _ 1 (by rfl) (by rfl) (At.new W4 (encSg ⟨{ h with seq := sq, fl := G }, T⟩) _) (OM4.alloc _) (i + 1) hln hlen (alloc_le hb4 _) _ rfl ?_; intro g6 k6 w6 O6 G6 hat6 hlt6))
                have hy : (⟨{ h with seq := sq, fl := G }, T⟩ : SgC) = segC h d S M i := by rw [segC, ← HSQ.out, ← HG.out, hlo, hhi, hT]
                rw [hy, ← cutC_succ] at O6
                have BH6 := (BH4.alloc _).out (out_pushE G6) (fun e => by have := hvo _ e; omega)
                have LL6 := (new_alloc LL4 _).trans ((below_pushE (OM4.alloc _) G6 (alloc_le hb4 _)).mono (Nat.le_succ _))
                go_roundg (M - (i + 1))
                case measure => omega
                case rel => exact ⟨i + 1, _, by go_num, rfl, by omega, rfl, by omega, fun hl => by have := HF.out; have := HFE.out; rw [← sq_succ, ← HSQ.out]; split <;> omega, BH6, O6, LL6⟩
      · obtain rfl : i = M := by omega
        have k1 : ¬ (i : Int) < (i : Int) := by omega
        have hl := cutC_len h d S i i
        go_wp2_with fail
        go_ret
        rcases OM.form with ⟨_, e⟩ | ⟨g, c, rfl⟩
        · rw [e] at hl; simp at hl; omega
        · have hlo := (OM.lt encSg_is).1
          exact ⟨g, c, rfl, OM.mono (by omega), LL⟩
end Go.Proofs.Ytnkcnfkonifmhaa
