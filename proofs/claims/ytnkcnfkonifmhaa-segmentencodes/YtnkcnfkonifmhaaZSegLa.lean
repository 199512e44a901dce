/- SegmentEncodes walked. -/
import Derived.Test.YtnkcnfkonifmhaaZSegH
import Derived.Test.YtnkcnfkonifmhaaZOptR
namespace Go.Proofs.Ytnkcnfkonifmhaa
open Go.RowKit
set_option linter.unusedVariables false

set_option maxRecDepth 100000 in
set_option maxHeartbeats 8000000 in
theorem segEncodes_any (x : Ad) (hx : x.ok) (h : Hd) (ok : HdOk h) (a : Option Addr) (len cap : Nat) (d : ByteArray) (w : World) (hs : SrcO w a len) (hlen : len ≤ maxLen) (hd : d.size ≤ maxLen) :
    Calls Try.prog 3 #[.agg #[.int .u8 x.a, .int .u8 x.b, .int .u8 x.c, .int .u8 x.d, .int .u8 x.e, .int .u8 x.f, .int .u8 x.g, .int .u8 x.h], .agg #[.int .u16 h.src, .int .u16 h.dst, .int .u32 h.seq, .int .u32 h.ack, .int .u8 h.off, .int .u8 h.ace, .int .u8 h.fl, .int .u16 h.win, .int .u16 h.sum, .int .u16 h.urg, .slice a len cap, .string d]] w fun e w' => e = .returned (.bool true) ∧ Below w.heap.size w w' := by
  have HF := Lib.hid (few13_any h a len cap d w (w := (w.alloc (.cells #[.int .u8 x.a, .int .u8 x.b, .int .u8 x.c, .int .u8 x.d, .int .u8 x.e, .int .u8 x.f, .int .u8 x.g, .int .u8 x.h] 23)).alloc (.cells #[.int .u16 h.src, .int .u16 h.dst, .int .u32 h.seq, .int .u32 h.ack, .int .u8 h.off, .int .u8 h.ace, .int .u8 h.fl, .int .u16 h.win, .int .u16 h.sum, .int .u16 h.urg, .slice a len cap, .string d] 30)) (new_alloc (new_alloc (new_refl w) _) _) hs hlen hd)
  have BA := (Blk.new w [.int .u8 x.a, .int .u8 x.b, .int .u8 x.c, .int .u8 x.d, .int .u8 x.e, .int .u8 x.f, .int .u8 x.g, .int .u8 x.h] 23).alloc (.cells #[.int .u16 h.src, .int .u16 h.dst, .int .u32 h.seq, .int .u32 h.ack, .int .u8 h.off, .int .u8 h.ace, .int .u8 h.fl, .int .u16 h.win, .int .u16 h.sum, .int .u16 h.urg, .slice a len cap, .string d] 30)
  have BS := Blk.newAt (alloc_size w (.cells #[.int .u8 x.a, .int .u8 x.b, .int .u8 x.c, .int .u8 x.d, .int .u8 x.e, .int .u8 x.f, .int .u8 x.g, .int .u8 x.h] 23)) [.int .u16 h.src, .int .u16 h.dst, .int .u32 h.seq, .int .u32 h.ack, .int .u8 h.off, .int .u8 h.ace, .int .u8 h.fl, .int .u16 h.win, .int .u16 h.sum, .int .u16 h.urg, .slice a len cap, .string d] 30
  have L0 := new_alloc (new_alloc (new_refl w) (.cells #[.int .u8 x.a, .int .u8 x.b, .int .u8 x.c, .int .u8 x.d, .int .u8 x.e, .int .u8 x.f, .int .u8 x.g, .int .u8 x.h] 23)) (.cells #[.int .u16 h.src, .int .u16 h.dst, .int .u32 h.seq, .int .u32 h.ack, .int .u8 h.off, .int .u8 h.ace, .int .u8 h.fl, .int .u16 h.win, .int .u16 h.sum, .int .u16 h.urg, .slice a len cap, .string d] 30)
  have HX := Lib.hid hx
  have OK := Lib.hid ok
  have hfl := ok.fl
  clear hs hlen hd hx ok
  go_enter Try.func3, Try.ntmps3
  go_upto_region 1 with (fail)
  generalize (w.alloc (.cells #[.int .u8 x.a, .int .u8 x.b, .int .u8 x.c, .int .u8 x.d, .int .u8 x.e, .int .u8 x.f, .int .u8 x.g, .int .u8 x.h] 23)).alloc (.cells #[.int .u16 h.src, .int .u16 h.dst, .int .u32 h.seq, .int .u32 h.ack, .int .u8 h.off, .int .u8 h.ace, .int .u8 h.fl, .int .u16 h.win, .int .u16 h.sum, .int .u16 h.urg, .slice a len cap, .string d] 30) = W at HF BA BS L0 ⊢
  have c0 := BS.cell 0 rfl; have c1 := BS.cell 1 rfl; have c2 := BS.cell 2 rfl; have c3 := BS.cell 3 rfl; have c4 := BS.cell 4 rfl; have c5 := BS.cell 5 rfl; have c6 := BS.cell 6 rfl; have c7 := BS.cell 7 rfl; have c8 := BS.cell 8 rfl; have c9 := BS.cell 9 rfl; have c10 := BS.cell 10 rfl; have c11 := BS.cell 11 rfl
  go_upto_region 2 with (first
    | (go_at_call 8; refine HF.out.mono ?_; rintro e w2 ⟨A2, n2, k2, xs, dd, rfl, X2, n12, hc2, hdd, B2, rw2, f2⟩
       have BS2 := BS.kept B2
       have r0 := BS2.cell 0 rfl; have r1 := BS2.cell 1 rfl; have r2 := BS2.cell 2 rfl; have r3 := BS2.cell 3 rfl; have r4 := BS2.cell 4 rfl; have r5 := BS2.cell 5 rfl; have r6 := BS2.cell 6 rfl; have r7 := BS2.cell 7 rfl; have r8 := BS2.cell 8 rfl; have r9 := BS2.cell 9 rfl; have r10 := BS2.cell 10 rfl; have r11 := BS2.cell 11 rfl
       have rf := fun i => BS2.frozen i))
  clear c0 c1 c2 c3 c4 c5 c6 c7 c8 c9 c10 c11 r0 r1 r2 r3 r4 r5 r6 r7 r8 r9 r10 r11 rf
  have R2 := new_then L0 B2
  have BZ := blk12 BS2 (.int .u16 h.src) (.int .u16 h.dst) (.int .u32 h.seq) (.int .u32 h.ack) (.int .u8 h.off) (.int .u8 h.ace) (.int .u8 h.fl) (.int .u16 h.win) (.int .u16 h.sum) (.int .u16 h.urg) (.slice A2 n2 k2) (.string dd)
  have LZ := low12 R2 (show w.heap.size ≤ w.heap.size + 1 by omega) (.int .u16 h.src) (.int .u16 h.dst) (.int .u32 h.seq) (.int .u32 h.ack) (.int .u8 h.off) (.int .u8 h.ace) (.int .u8 h.fl) (.int .u16 h.win) (.int .u16 h.sum) (.int .u16 h.urg) (.slice A2 n2 k2) (.string dd)
  have OZ := out12 (w := w2) (g := w.heap.size + 1) (.int .u16 h.src) (.int .u16 h.dst) (.int .u32 h.seq) (.int .u32 h.ack) (.int .u8 h.off) (.int .u8 h.ace) (.int .u8 h.fl) (.int .u16 h.win) (.int .u16 h.sum) (.int .u16 h.urg) (.slice A2 n2 k2) (.string dd)
  obtain ⟨XZ, _⟩ := X2.keep rw2 f2 OZ (fun j t => ty_far t BS2 (by decide)) LZ
  have BA3 := (BA.kept B2).out OZ (show ¬ w.heap.size = w.heap.size + 1 by omega)
  generalize ((((((((((((w2.setCell ⟨w.heap.size + 1, 0, none⟩ (.int .u16 h.src)).setCell ⟨w.heap.size + 1, 1, none⟩ (.int .u16 h.dst)).setCell ⟨w.heap.size + 1, 2, none⟩ (.int .u32 h.seq)).setCell ⟨w.heap.size + 1, 3, none⟩ (.int .u32 h.ack)).setCell ⟨w.heap.size + 1, 4, none⟩ (.int .u8 h.off)).setCell ⟨w.heap.size + 1, 5, none⟩ (.int .u8 h.ace)).setCell ⟨w.heap.size + 1, 6, none⟩ (.int .u8 h.fl)).setCell ⟨w.heap.size + 1, 7, none⟩ (.int .u16 h.win)).setCell ⟨w.heap.size + 1, 8, none⟩ (.int .u16 h.sum)).setCell ⟨w.heap.size + 1, 9, none⟩ (.int .u16 h.urg)).setCell ⟨w.heap.size + 1, 10, none⟩ (.slice A2 n2 k2)).setCell ⟨w.heap.size + 1, 11, none⟩ (.string dd)) = W3 at BZ LZ XZ BA3 ⊢
  clear OZ BS2 BS BA B2 R2 X2 rw2 f2 HF L0
  obtain ⟨T, hT⟩ : ∃ T, encG x h (xs.map OC.o) (sb dd) = T := ⟨_, rfl⟩
  have E1 := encS_any x h OK.out A2 n2 k2 xs dd W3 HX.out XZ (by omega) (by omega)
  have E2 : ∀ w', Below W3.heap.size W3 w' → Calls Try.prog 10 #[.agg #[.int .u8 x.a, .int .u8 x.b, .int .u8 x.c, .int .u8 x.d], .agg #[.int .u8 x.e, .int .u8 x.f, .int .u8 x.g, .int .u8 x.h], .agg #[.int .u16 h.src, .int .u16 h.dst, .int .u32 h.seq, .int .u32 h.ack, .int .u8 h.off, .int .u8 h.ace, .int .u8 h.fl, .int .u16 h.win, .int .u16 h.sum, .int .u16 h.urg, .slice A2 n2 k2, .string dd]] w' (EncS w' T) := fun w' B => by
    rw [← hT]
    exact refEncS_any x h OK.out A2 n2 k2 xs dd w' HX.out (XZ.kept B) (by omega) hc2 (by omega)
  rw [hT] at E1
  have H1 := Lib.hid E1
  have H2 := Lib.hid E2
  obtain ⟨z, hz⟩ : ∃ z : Int, (dd.size : Int) + h.fl / 2 % 2 + h.fl % 2 = z := ⟨_, rfl⟩
  have H3 : Hid (∀ w', Calls Try.prog 11 #[.agg #[.int .u16 h.src, .int .u16 h.dst, .int .u32 h.seq, .int .u32 h.ack, .int .u8 h.off, .int .u8 h.ace, .int .u8 h.fl, .int .u16 h.win, .int .u16 h.sum, .int .u16 h.urg, .slice A2 n2 k2, .string dd]] w' fun e w'' => e = .returned (.int .i64 z) ∧ Below w'.heap.size w' w'') := Lib.hid (fun w' => length13_any h hfl A2 n2 k2 dd z w' (by omega) hz)
  obtain ⟨bs, q⟩ := T
  have f0 := hfl.1
  have f1 : h.fl.tdiv 2 = h.fl / 2 := Int.tdiv_eq_ediv_of_nonneg f0
  have f2 : h.fl.tmod 2 = h.fl % 2 := Int.tmod_eq_emod_of_nonneg f0
  have f3 : (h.fl / 2).tmod 2 = h.fl / 2 % 2 := Int.tmod_eq_emod_of_nonneg (by omega)
  have y1 : (dd.size : Int) + h.fl % 2 + h.fl / 2 % 2 = z := by omega
  clear hT E1 E2 hz
  have c0 := BZ.cell 0 rfl; have c1 := BZ.cell 1 rfl; have c2 := BZ.cell 2 rfl; have c3 := BZ.cell 3 rfl; have c4 := BZ.cell 4 rfl; have c5 := BZ.cell 5 rfl; have c6 := BZ.cell 6 rfl; have c7 := BZ.cell 7 rfl; have c8 := BZ.cell 8 rfl; have c9 := BZ.cell 9 rfl; have c10 := BZ.cell 10 rfl; have c11 := BZ.cell 11 rfl
  have p0 := BA3.cell 0 rfl; have p1 := BA3.cell 1 rfl; have p2 := BA3.cell 2 rfl; have p3 := BA3.cell 3 rfl; have p4 := BA3.cell 4 rfl; have p5 := BA3.cell 5 rfl; have p6 := BA3.cell 6 rfl; have p7 := BA3.cell 7 rfl
  go_upto_region 3 with (first
    | (go_at_call 9; refine H1.out.mono ?_; rintro e w4 ⟨A4, n4, k4, rfl, O4, B4⟩))
  clear c0 c1 c2 c3 c4 c5 c6 c7 c8 c9 c10 c11 p0 p1 p2 p3 p4 p5 p6 p7
  have BZ4 := BZ.kept B4
  have BA4 := BA3.kept B4
  have c0 := BZ4.cell 0 rfl; have c1 := BZ4.cell 1 rfl; have c2 := BZ4.cell 2 rfl; have c3 := BZ4.cell 3 rfl; have c4 := BZ4.cell 4 rfl; have c5 := BZ4.cell 5 rfl; have c6 := BZ4.cell 6 rfl; have c7 := BZ4.cell 7 rfl; have c8 := BZ4.cell 8 rfl; have c9 := BZ4.cell 9 rfl; have c10 := BZ4.cell 10 rfl; have c11 := BZ4.cell 11 rfl
  have p0 := BA4.cell 0 rfl; have p1 := BA4.cell 1 rfl; have p2 := BA4.cell 2 rfl; have p3 := BA4.cell 3 rfl; have p4 := BA4.cell 4 rfl; have p5 := BA4.cell 5 rfl; have p6 := BA4.cell 6 rfl; have p7 := BA4.cell 7 rfl
  go_upto_region 4 with (first
    | (go_at_call 10; refine (H2.out _ B4).mono ?_; rintro e w5 ⟨A5, n5, k5, rfl, O5, B5⟩))
  clear c0 c1 c2 c3 c4 c5 c6 c7 c8 c9 c10 c11 p0 p1 p2 p3 p4 p5 p6 p7
  have BZ5 := BZ4.kept B5
  have c0 := BZ5.cell 0 rfl; have c1 := BZ5.cell 1 rfl; have c2 := BZ5.cell 2 rfl; have c3 := BZ5.cell 3 rfl; have c4 := BZ5.cell 4 rfl; have c5 := BZ5.cell 5 rfl; have c6 := BZ5.cell 6 rfl; have c7 := BZ5.cell 7 rfl; have c8 := BZ5.cell 8 rfl; have c9 := BZ5.cell 9 rfl; have c10 := BZ5.cell 10 rfl; have c11 := BZ5.cell 11 rfl
  have R5 := new_then (new_then LZ B4) B5
  have T4 := own_text O4 B5
  have T5 := own_text O5 (new_refl w5)
  go_wp2_with (first
    | (go_at_call 11; refine (H3.out _).mono ?_; rintro e w6 ⟨rfl, B6⟩)
    | (go_at_call 12; refine (works13_any _).mono ?_; rintro e w7 ⟨rfl, B7⟩))
  go_ret
  exact ⟨rfl, new_then (new_then R5 B6) B7⟩
end Go.Proofs.Ytnkcnfkonifmhaa
