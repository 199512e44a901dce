/- SegmentDecodes walked. -/
import Derived.Test.YtnkcnfkonifmhaaZSegH
namespace Go.Proofs.Ytnkcnfkonifmhaa
open Go.RowKit
set_option linter.unusedVariables false

/-- What Decode tells, by letters. -/
def DecL (w : World) (hd : Hd) (ms : List Opt) (dd : ByteArray) (q : Int) (e : Ending) (w' : World) : Prop :=
  ∃ (A : Option Addr) (n c : Nat) (xs : List OC), e = .returned (.tuple #[.agg #[.int .u16 hd.src, .int .u16 hd.dst, .int .u32 hd.seq, .int .u32 hd.ack, .int .u8 hd.off, .int .u8 hd.ace, .int .u8 hd.fl, .int .u16 hd.win, .int .u16 hd.sum, .int .u16 hd.urg, .slice A n c, .string dd], .int .i64 q]) ∧ OptsAt w' A n xs ∧ xs.map OC.o = ms ∧ n ≤ 40 ∧ n ≤ c ∧ Below w.heap.size w w'
theorem DecS.letters {w w' : World} {hd : Hd} {ms : List Opt} {ds : List Int} {q : Int} {e : Ending} (h : DecS w ((hd, ms, ds), q) e w') {dd : ByteArray} (hd' : strOfNums ds = dd) : DecL w hd ms dd q e w' := by
  subst hd'
  exact h
theorem same_lenG {w w' : World} {A B : Option Addr} {n m : Nat} {xs ys : List OC} {T : List Opt} (h : OptsAt w A n xs) (k : OptsAt w' B m ys) (hx : xs.map OC.o = T) (hy : ys.map OC.o = T) : n = m := by
  rw [← h.len, ← k.len]
  have := congrArg List.length (hx.trans hy.symm)
  simpa using this
set_option maxRecDepth 100000 in
set_option maxHeartbeats 8000000 in
theorem segDecodes_any (x : Ad) (hx : x.ok) (a : Option Addr) (len cap : Nat) (z : List Int) (w : World) (hr : IsRow .u8 w a len cap z) :
    Calls Try.prog 4 #[.agg #[.int .u8 x.a, .int .u8 x.b, .int .u8 x.c, .int .u8 x.d, .int .u8 x.e, .int .u8 x.f, .int .u8 x.g, .int .u8 x.h], .slice a len cap] w fun e w' => e = .returned (.bool true) ∧ Below w.heap.size w w' := by
  have hc2 := (row_low hr).2
  have hcl := (row_low hr).1
  unfold maxLen at hc2
  obtain ⟨L, hn⟩ : ∃ n, n = min len 200 := ⟨_, rfl⟩
  have hn1 : L ≤ len := by omega
  have hn2 : L ≤ 200 := by omega
  have hn3 : L ≤ cap := by omega
  obtain ⟨gl, hls⟩ := row_ls hr L hn1
  have hU := byt_row (k := L) hr
  have hl := row_take hr L hn1
  generalize z.take L = ds at hls hU hl
  obtain ⟨T, hT⟩ : ∃ T, decG x ds = T := ⟨_, rfl⟩
  obtain ⟨⟨hd, ms, dz⟩, q⟩ := T
  obtain ⟨dd, hdd⟩ : ∃ dd, strOfNums dz = dd := ⟨_, rfl⟩
  have C1 : Hid (∀ w', Below w.heap.size w w' → Calls Try.prog 13 #[.agg #[.int .u8 x.a, .int .u8 x.b, .int .u8 x.c, .int .u8 x.d], .agg #[.int .u8 x.e, .int .u8 x.f, .int .u8 x.g, .int .u8 x.h], .slice a L cap] w' (DecL w' hd ms dd q)) := Lib.hid (fun w' B => (decS_any x hx a gl L cap ds w' (hls.kept B) hl hU (by omega) hn3 (by omega)).mono fun e w'' h => by rw [hT] at h; exact h.letters hdd)
  have C2 : Hid (∀ w', Below w.heap.size w w' → Calls Try.prog 14 #[.agg #[.int .u8 x.a, .int .u8 x.b, .int .u8 x.c, .int .u8 x.d], .agg #[.int .u8 x.e, .int .u8 x.f, .int .u8 x.g, .int .u8 x.h], .slice a L cap] w' (DecL w' hd ms dd q)) := Lib.hid (fun w' B => (refDecS_any x hx a gl L cap ds w' (hls.kept B) hl hU (by omega) hn3 (by omega)).mono fun e w'' h => by rw [hT] at h; exact h.letters hdd)
  have BA := Blk.new w [.int .u8 x.a, .int .u8 x.b, .int .u8 x.c, .int .u8 x.d, .int .u8 x.e, .int .u8 x.f, .int .u8 x.g, .int .u8 x.h] 23
  have L0 := new_alloc (new_refl w) (.cells #[.int .u8 x.a, .int .u8 x.b, .int .u8 x.c, .int .u8 x.d, .int .u8 x.e, .int .u8 x.f, .int .u8 x.g, .int .u8 x.h] 23)
  have HN := Lib.hid hn
  clear hls hU hl hT hdd hr hn hx
  go_enter Try.func4, Try.ntmps4
  go_upto_region 1 with (fail)
  generalize w.alloc (.cells #[.int .u8 x.a, .int .u8 x.b, .int .u8 x.c, .int .u8 x.d, .int .u8 x.e, .int .u8 x.f, .int .u8 x.g, .int .u8 x.h] 23) = W at BA L0 ⊢
  go_cut [1] (fun v wx => v = .slice a L cap ∧ W = wx)
  case first =>
    by_cases h40 : len ≤ 200
    · obtain rfl : len = L := by have := HN.out; omega
      have k1 : (len : Int) ≤ 200 := by omega
      have k2 : (0 : Int) ≤ (len : Int) := by omega
      have k3 : (len : Int) ≤ (cap : Int) := by omega
      go_wp2_with fail
      go_meet
      case rel => exact ⟨rfl, rfl⟩
    · obtain rfl : L = 200 := by have := HN.out; omega
      have k1 : (200 : Int) < (len : Int) := by omega
      have k3 : (200 : Int) ≤ (cap : Int) := by omega
      go_wp2_with fail
      go_meet
      case rel => exact ⟨rfl, rfl⟩
  case rest =>
    obtain ⟨rfl, rfl⟩ := hcut
    have p0 := BA.cell 0 rfl; have p1 := BA.cell 1 rfl; have p2 := BA.cell 2 rfl; have p3 := BA.cell 3 rfl; have p4 := BA.cell 4 rfl; have p5 := BA.cell 5 rfl; have p6 := BA.cell 6 rfl; have p7 := BA.cell 7 rfl
    go_upto_region 3 with (first
      | (go_at_call 13; refine (C1.out _ L0).mono ?_; rintro e w1 ⟨A1, n1, c1, xs, rfl, X1, m1, l1, d1, B1⟩))
    clear p0 p1 p2 p3 p4 p5 p6 p7
    have BS := Blk.new w1 [.int .u16 hd.src, .int .u16 hd.dst, .int .u32 hd.seq, .int .u32 hd.ack, .int .u8 hd.off, .int .u8 hd.ace, .int .u8 hd.fl, .int .u16 hd.win, .int .u16 hd.sum, .int .u16 hd.urg, .slice A1 n1 c1, .string dd] 30
    have L1 := new_alloc (new_then L0 B1) (.cells #[.int .u16 hd.src, .int .u16 hd.dst, .int .u32 hd.seq, .int .u32 hd.ack, .int .u8 hd.off, .int .u8 hd.ace, .int .u8 hd.fl, .int .u16 hd.win, .int .u16 hd.sum, .int .u16 hd.urg, .slice A1 n1 c1, .string dd] 30)
    replace X1 := X1.kept (new_alloc (new_refl w1) (.cells #[.int .u16 hd.src, .int .u16 hd.dst, .int .u32 hd.seq, .int .u32 hd.ack, .int .u8 hd.off, .int .u8 hd.ace, .int .u8 hd.fl, .int .u16 hd.win, .int .u16 hd.sum, .int .u16 hd.urg, .slice A1 n1 c1, .string dd] 30))
    replace BA := (BA.kept B1).alloc (.cells #[.int .u16 hd.src, .int .u16 hd.dst, .int .u32 hd.seq, .int .u32 hd.ack, .int .u8 hd.off, .int .u8 hd.ace, .int .u8 hd.fl, .int .u16 hd.win, .int .u16 hd.sum, .int .u16 hd.urg, .slice A1 n1 c1, .string dd] 30)
    generalize w1.alloc (.cells #[.int .u16 hd.src, .int .u16 hd.dst, .int .u32 hd.seq, .int .u32 hd.ack, .int .u8 hd.off, .int .u8 hd.ace, .int .u8 hd.fl, .int .u16 hd.win, .int .u16 hd.sum, .int .u16 hd.urg, .slice A1 n1 c1, .string dd] 30) = W2 at BS L1 X1 BA ⊢
    have p0 := BA.cell 0 rfl; have p1 := BA.cell 1 rfl; have p2 := BA.cell 2 rfl; have p3 := BA.cell 3 rfl; have p4 := BA.cell 4 rfl; have p5 := BA.cell 5 rfl; have p6 := BA.cell 6 rfl; have p7 := BA.cell 7 rfl
    go_upto_region 4 with (first
      | (go_at_call 14; refine (C2.out _ L1).mono ?_; rintro e w3 ⟨A3, n3, c3, ys, rfl, X3, m3, l3, d3, B3⟩))
    clear p0 p1 p2 p3 p4 p5 p6 p7
    have BT := Blk.new w3 [.int .u16 hd.src, .int .u16 hd.dst, .int .u32 hd.seq, .int .u32 hd.ack, .int .u8 hd.off, .int .u8 hd.ace, .int .u8 hd.fl, .int .u16 hd.win, .int .u16 hd.sum, .int .u16 hd.urg, .slice A3 n3 c3, .string dd] 30
    have L3 := new_alloc (new_then L1 B3) (.cells #[.int .u16 hd.src, .int .u16 hd.dst, .int .u32 hd.seq, .int .u32 hd.ack, .int .u8 hd.off, .int .u8 hd.ace, .int .u8 hd.fl, .int .u16 hd.win, .int .u16 hd.sum, .int .u16 hd.urg, .slice A3 n3 c3, .string dd] 30)
    replace X1 := (X1.kept B3).kept (new_alloc (new_refl w3) (.cells #[.int .u16 hd.src, .int .u16 hd.dst, .int .u32 hd.seq, .int .u32 hd.ack, .int .u8 hd.off, .int .u8 hd.ace, .int .u8 hd.fl, .int .u16 hd.win, .int .u16 hd.sum, .int .u16 hd.urg, .slice A3 n3 c3, .string dd] 30))
    replace X3 := X3.kept (new_alloc (new_refl w3) (.cells #[.int .u16 hd.src, .int .u16 hd.dst, .int .u32 hd.seq, .int .u32 hd.ack, .int .u8 hd.off, .int .u8 hd.ace, .int .u8 hd.fl, .int .u16 hd.win, .int .u16 hd.sum, .int .u16 hd.urg, .slice A3 n3 c3, .string dd] 30))
    replace BS := (BS.kept B3).alloc (.cells #[.int .u16 hd.src, .int .u16 hd.dst, .int .u32 hd.seq, .int .u32 hd.ack, .int .u8 hd.off, .int .u8 hd.ace, .int .u8 hd.fl, .int .u16 hd.win, .int .u16 hd.sum, .int .u16 hd.urg, .slice A3 n3 c3, .string dd] 30)
    generalize w3.alloc (.cells #[.int .u16 hd.src, .int .u16 hd.dst, .int .u32 hd.seq, .int .u32 hd.ack, .int .u8 hd.off, .int .u8 hd.ace, .int .u8 hd.fl, .int .u16 hd.win, .int .u16 hd.sum, .int .u16 hd.urg, .slice A3 n3 c3, .string dd] 30) = W4 at BT L3 X1 X3 BS ⊢
    obtain rfl : n1 = n3 := same_lenG X1 X3 m1 m3
    have CS := Lib.hid (same13_any hd A1 A3 n1 c1 c3 xs ys dd W4 X1 X3 (m1.trans m3.symm) (by omega))
    have p0 := BS.cell 0 rfl; have p1 := BS.cell 1 rfl; have p2 := BS.cell 2 rfl; have p3 := BS.cell 3 rfl; have p4 := BS.cell 4 rfl; have p5 := BS.cell 5 rfl; have p6 := BS.cell 6 rfl; have p7 := BS.cell 7 rfl; have p8 := BS.cell 8 rfl; have p9 := BS.cell 9 rfl; have p10 := BS.cell 10 rfl; have p11 := BS.cell 11 rfl
    have r0 := BT.cell 0 rfl; have r1 := BT.cell 1 rfl; have r2 := BT.cell 2 rfl; have r3 := BT.cell 3 rfl; have r4 := BT.cell 4 rfl; have r5 := BT.cell 5 rfl; have r6 := BT.cell 6 rfl; have r7 := BT.cell 7 rfl; have r8 := BT.cell 8 rfl; have r9 := BT.cell 9 rfl; have r10 := BT.cell 10 rfl; have r11 := BT.cell 11 rfl
    clear X1 X3 m1 m3 C1 C2
    go_wp2_with (first
      | (go_at_call 15; refine CS.out.mono ?_; rintro e w5 ⟨rfl, B5⟩)
      | (go_at_call 12; refine (works13_any _).mono ?_; rintro e w6 ⟨rfl, B6⟩))
    go_ret
    exact ⟨rfl, new_then (new_then L3 B5) B6⟩
end Go.Proofs.Ytnkcnfkonifmhaa
