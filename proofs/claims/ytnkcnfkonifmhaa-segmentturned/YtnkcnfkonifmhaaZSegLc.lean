/- SegmentBack walked. -/
import Derived.Test.YtnkcnfkonifmhaaZSegLb
import Derived.Test.YtnkcnfkonifmhaaZOptR
namespace Go.Proofs.Ytnkcnfkonifmhaa
open Go.RowKit
set_option linter.unusedVariables false

theorem enc_no {x : Ad} {h : Hd} {os : List Opt} {d bs : List Int} {q : Int} (he : encG x h os d = (bs, q)) (hq : q ≠ 0) : bs = [] := by
  unfold encG at he
  split at he
  · exact (Prod.mk.inj he).1.symm
  · split at he
    · exact (Prod.mk.inj he).1.symm
    · split at he
      · exact (Prod.mk.inj he).1.symm
      · exact absurd (Prod.mk.inj he).2.symm hq
theorem pos_hasG {w : World} {xs : List OC} (h : ∀ x ∈ xs, HasO w x) : ∀ o ∈ xs.map OC.o, posO o := by
  intro o ho
  obtain ⟨x, hx, rfl⟩ := List.mem_map.1 ho
  exact fun z hz => ((h x hx).u32 z hz).1
/-- A segment that is decoded as it was, but for Off and Sum. -/
def DecB (w : World) (h : Hd) (o cc : Int) (ms : List Opt) (dd : ByteArray) (e : Ending) (w' : World) : Prop :=
  ∃ (A : Option Addr) (n c : Nat) (xs : List OC), e = .returned (.tuple #[.agg #[.int .u16 h.src, .int .u16 h.dst, .int .u32 h.seq, .int .u32 h.ack, .int .u8 o, .int .u8 h.ace, .int .u8 h.fl, .int .u16 h.win, .int .u16 cc, .int .u16 h.urg, .slice A n c, .string dd], .int .i64 0]) ∧ OptsAt w' A n xs ∧ xs.map OC.o = ms ∧ n ≤ 40 ∧ n ≤ c ∧ Below w.heap.size w w'
set_option maxRecDepth 100000 in
set_option maxHeartbeats 8000000 in
theorem segBack_any (x : Ad) (hx : x.ok) (h : Hd) (ok : HdOk h) (a : Option Addr) (len cap : Nat) (d : ByteArray) (w : World) (hs : SrcO w a len) (hlen : len ≤ maxLen) (hd : d.size ≤ maxLen) :
    Calls Try.prog 5 #[.agg #[.int .u8 x.a, .int .u8 x.b, .int .u8 x.c, .int .u8 x.d, .int .u8 x.e, .int .u8 x.f, .int .u8 x.g, .int .u8 x.h], .agg #[.int .u16 h.src, .int .u16 h.dst, .int .u32 h.seq, .int .u32 h.ack, .int .u8 h.off, .int .u8 h.ace, .int .u8 h.fl, .int .u16 h.win, .int .u16 h.sum, .int .u16 h.urg, .slice a len cap, .string d]] w fun e w' => e = .returned (.bool true) ∧ Below w.heap.size w w' := by
  have HF := Lib.hid (few13_any h a len cap d w (w := (w.alloc (.cells #[.int .u8 x.a, .int .u8 x.b, .int .u8 x.c, .int .u8 x.d, .int .u8 x.e, .int .u8 x.f, .int .u8 x.g, .int .u8 x.h] 23)).alloc (.cells #[.int .u16 h.src, .int .u16 h.dst, .int .u32 h.seq, .int .u32 h.ack, .int .u8 h.off, .int .u8 h.ace, .int .u8 h.fl, .int .u16 h.win, .int .u16 h.sum, .int .u16 h.urg, .slice a len cap, .string d] 30)) (new_alloc (new_alloc (new_refl w) _) _) hs hlen hd)
  have BA := (Blk.new w [.int .u8 x.a, .int .u8 x.b, .int .u8 x.c, .int .u8 x.d, .int .u8 x.e, .int .u8 x.f, .int .u8 x.g, .int .u8 x.h] 23).alloc (.cells #[.int .u16 h.src, .int .u16 h.dst, .int .u32 h.seq, .int .u32 h.ack, .int .u8 h.off, .int .u8 h.ace, .int .u8 h.fl, .int .u16 h.win, .int .u16 h.sum, .int .u16 h.urg, .slice a len cap, .string d] 30)
  have BS := Blk.newAt (alloc_size w (.cells #[.int .u8 x.a, .int .u8 x.b, .int .u8 x.c, .int .u8 x.d, .int .u8 x.e, .int .u8 x.f, .int .u8 x.g, .int .u8 x.h] 23)) [.int .u16 h.src, .int .u16 h.dst, .int .u32 h.seq, .int .u32 h.ack, .int .u8 h.off, .int .u8 h.ace, .int .u8 h.fl, .int .u16 h.win, .int .u16 h.sum, .int .u16 h.urg, .slice a len cap, .string d] 30
  have L0 := new_alloc (new_alloc (new_refl w) (.cells #[.int .u8 x.a, .int .u8 x.b, .int .u8 x.c, .int .u8 x.d, .int .u8 x.e, .int .u8 x.f, .int .u8 x.g, .int .u8 x.h] 23)) (.cells #[.int .u16 h.src, .int .u16 h.dst, .int .u32 h.seq, .int .u32 h.ack, .int .u8 h.off, .int .u8 h.ace, .int .u8 h.fl, .int .u16 h.win, .int .u16 h.sum, .int .u16 h.urg, .slice a len cap, .string d] 30)
  have HX := Lib.hid hx
  have OK := Lib.hid ok
  clear hs hlen hd hx ok
  go_enter Try.func5, Try.ntmps5
  go_upto_region 1 with (fail)
  generalize (w.alloc (.cells #[.int .u8 x.a, .int .u8 x.b, .int .u8 x.c, .int .u8 x.d, .int .u8 x.e, .int .u8 x.f, .int .u8 x.g, .int .u8 x.h] 23)).alloc (.cells #[.int .u16 h.src, .int .u16 h.dst, .int .u32 h.seq, .int .u32 h.ack, .int .u8 h.off, .int .u8 h.ace, .int .u8 h.fl, .int .u16 h.win, .int .u16 h.sum, .int .u16 h.urg, .slice a len cap, .string d] 30) = W at HF BA BS L0 ⊢
  have c0 := BS.cell 0 rfl; have c1 := BS.cell 1 rfl; have c2 := BS.cell 2 rfl; have c3 := BS.cell 3 rfl; have c4 := BS.cell 4 rfl; have c5 := BS.cell 5 rfl; have c6 := BS.cell 6 rfl; have c7 := BS.cell 7 rfl; have c8 := BS.cell 8 rfl; have c9 := BS.cell 9 rfl; have c10 := BS.cell 10 rfl; have c11 := BS.cell 11 rfl
  go_upto_region 2 with (first
    | (go_at_call 8; refine HF.out.mono ?_; rintro e w2 ⟨A2, n2, k2, xs, dd, rfl, X2, n12, hc2, hdd, B2, rw2, f2⟩
       have BS2 := BS.kept B2
       have r0 := BS2.cell 0 rfl; have r1 := BS2.cell 1 rfl; have r2 := BS2.cell 2 rfl; have r3 := BS2.cell 3 rfl; have r4 := BS2.cell 4 rfl; have r5 := BS2.cell 5 rfl; have r6 := BS2.cell 6 rfl; have r7 := BS2.cell 7 rfl; have r8 := BS2.cell 8 rfl; have r9 := BS2.cell 9 rfl; have r10 := BS2.cell 10 rfl; have r11 := BS2.cell 11 rfl
       have rf := fun i => BS2.frozen i))
  clear c0 c1 c2 c3 c4 c5 c6 c7 c8 c9 c10 c11 r0 r1 r2 r3 r4 r5 r6 r7 r8 r9 r10 r11 rf
  have R2 := new_then L0 B2
  have BZ := blk12 BS2 (.int .u16 h.src) (.int .u16 h.dst) (.int .u32 h.seq) (.int .u32 h.ack) (.int .u8 h.off) (.int .u8 h.ace) (.int .u8 h.fl) (.int .u16 h.win) (.int .u16 h.sum) (.int .u16 h.urg) (.slice A2 n2 k2) (.string dd)
  have LZ := low12 R2 (show w.heap.size ≤ w.heap.size + 1 by omega) (.int .u16 h.src) (.int .u16 h.dst) (.int .u32 h.seq) (.int .u32 h.ack) (.int .u8 h.off) (.int .u8 h.ace) (.int .u8 h.fl) (.int .u16 h.win) (.int .u16 h.sum) (.int .u16 h.urg) (.slice A2 n2 k2) (.string dd)
  have OZ := out12 (w := w2) (g := w.heap.size + 1) (.int .u16 h.src) (.int .u16 h.dst) (.int .u32 h.seq) (.int .u32 h.ack) (.int .u8 h.off) (.int .u8 h.ace) (.int .u8 h.fl) (.int .u16 h.win) (.int .u16 h.sum) (.int .u16 h.urg) (.slice A2 n2 k2) (.string dd)
  obtain ⟨XZ, _⟩ := X2.keep rw2 f2 OZ (fun j t => ty_far t BS2 (by decide)) LZ
  have BA3 := (BA.kept B2).out OZ (show ¬ w.heap.size = w.heap.size + 1 by omega)
  generalize ((((((((((((w2.setCell ⟨w.heap.size + 1, 0, none⟩ (.int .u16 h.src)).setCell ⟨w.heap.size + 1, 1, none⟩ (.int .u16 h.dst)).setCell ⟨w.heap.size + 1, 2, none⟩ (.int .u32 h.seq)).setCell ⟨w.heap.size + 1, 3, none⟩ (.int .u32 h.ack)).setCell ⟨w.heap.size + 1, 4, none⟩ (.int .u8 h.off)).setCell ⟨w.heap.size + 1, 5, none⟩ (.int .u8 h.ace)).setCell ⟨w.heap.size + 1, 6, none⟩ (.int .u8 h.fl)).setCell ⟨w.heap.size + 1, 7, none⟩ (.int .u16 h.win)).setCell ⟨w.heap.size + 1, 8, none⟩ (.int .u16 h.sum)).setCell ⟨w.heap.size + 1, 9, none⟩ (.int .u16 h.urg)).setCell ⟨w.heap.size + 1, 10, none⟩ (.slice A2 n2 k2)).setCell ⟨w.heap.size + 1, 11, none⟩ (.string dd)) = W3 at BZ LZ XZ BA3 ⊢
  clear OZ BS2 BS BA B2 R2 X2 rw2 f2 HF L0
  obtain ⟨os, hos⟩ : ∃ os, xs.map OC.o = os := ⟨_, rfl⟩
  obtain ⟨T, hT⟩ : ∃ T, encG x h os (sb dd) = T := ⟨_, rfl⟩
  have E1 := encS_any x h OK.out A2 n2 k2 xs dd W3 HX.out XZ (by omega) (by omega)
  rw [hos, hT] at E1
  obtain ⟨bs, q⟩ := T
  have H1 := Lib.hid E1
  have HT := Lib.hid hT
  have HOS := Lib.hid hos
  have HP := Lib.hid (show ∀ o ∈ os, posO o by rw [← hos]; exact pos_hasG XZ.has)
  clear hT E1 hos
  have c0 := BZ.cell 0 rfl; have c1 := BZ.cell 1 rfl; have c2 := BZ.cell 2 rfl; have c3 := BZ.cell 3 rfl; have c4 := BZ.cell 4 rfl; have c5 := BZ.cell 5 rfl; have c6 := BZ.cell 6 rfl; have c7 := BZ.cell 7 rfl; have c8 := BZ.cell 8 rfl; have c9 := BZ.cell 9 rfl; have c10 := BZ.cell 10 rfl; have c11 := BZ.cell 11 rfl
  have p0 := BA3.cell 0 rfl; have p1 := BA3.cell 1 rfl; have p2 := BA3.cell 2 rfl; have p3 := BA3.cell 3 rfl; have p4 := BA3.cell 4 rfl; have p5 := BA3.cell 5 rfl; have p6 := BA3.cell 6 rfl; have p7 := BA3.cell 7 rfl
  by_cases hq : q = 0
  · subst hq
    go_upto_region 5 with (first
      | (go_at_call 9; refine H1.out.mono ?_; rintro e w4 ⟨A4, n4, k4, rfl, O4, B4⟩))
    clear c0 c1 c2 c3 c4 c5 c6 c7 c8 c9 c10 c11 p0 p1 p2 p3 p4 p5 p6 p7
    obtain ⟨n, cc, hdec, hlb, hof, h40, hcc⟩ := enc_dec HX.out OK.out HP.out (sb_byte dd) HT.out
    obtain ⟨_, _, _, _, _, _, _, _, _, _, _, hbb, _⟩ := enc_full HX.out OK.out (sb_byte dd) HT.out
    have hl4 := own_len O4
    obtain ⟨g4, ls4⟩ := own_lsA O4
    obtain ⟨k1, k2'⟩ := own_cap O4
    rw [sb_len] at hlb
    obtain ⟨o, ho⟩ : ∃ o : Int, (offG h n cc).off = o := ⟨_, rfl⟩
    have C1 : Hid (Calls Try.prog 13 #[.agg #[.int .u8 x.a, .int .u8 x.b, .int .u8 x.c, .int .u8 x.d], .agg #[.int .u8 x.e, .int .u8 x.f, .int .u8 x.g, .int .u8 x.h], .slice A4 n4 k4] w4 (DecB w4 h o cc os dd)) := Lib.hid ((decS_any x HX.out A4 g4 n4 k4 bs w4 ls4 hl4 hbb (by omega) k1 k2').mono fun e w'' h' => by
      rw [hdec] at h'
      have h2 := h'.letters (sb_back dd)
      rw [← ho]
      exact h2)
    have o1 : o * 4 + (dd.size : Int) = (n4 : Int) := by rw [← ho, hof]; omega
    have o2 : 5 ≤ o ∧ o ≤ 15 := by rw [← ho, hof]; omega
    obtain ⟨o3, o4⟩ := o2
    have XZ4 := XZ.kept B4
    have BZ4 := BZ.kept B4
    have BA4 := BA3.kept B4
    have L4 := new_then LZ B4
    clear hdec hlb hof hbb hl4 ls4 k1 k2' ho O4 XZ BZ BA3 LZ B4 H1
    have p0 := BA4.cell 0 rfl; have p1 := BA4.cell 1 rfl; have p2 := BA4.cell 2 rfl; have p3 := BA4.cell 3 rfl; have p4 := BA4.cell 4 rfl; have p5 := BA4.cell 5 rfl; have p6 := BA4.cell 6 rfl; have p7 := BA4.cell 7 rfl
    go_upto_region 6 with (first
      | (go_at_call 13; refine C1.out.mono ?_; rintro e w5 ⟨A5, n5, k5, ys, rfl, X5, m5, l5, d5, B5⟩))
    clear p0 p1 p2 p3 p4 p5 p6 p7
    have BZ5 := (BZ4.kept B5).alloc (.cells #[.int .u16 h.src, .int .u16 h.dst, .int .u32 h.seq, .int .u32 h.ack, .int .u8 o, .int .u8 h.ace, .int .u8 h.fl, .int .u16 h.win, .int .u16 cc, .int .u16 h.urg, .slice A5 n5 k5, .string dd] 30)
    have XZ5 := XZ4.kept B5
    have BT := Blk.new w5 [.int .u16 h.src, .int .u16 h.dst, .int .u32 h.seq, .int .u32 h.ack, .int .u8 o, .int .u8 h.ace, .int .u8 h.fl, .int .u16 h.win, .int .u16 cc, .int .u16 h.urg, .slice A5 n5 k5, .string dd] 30
    have R5 := new_alloc (new_refl w5) (.cells #[.int .u16 h.src, .int .u16 h.dst, .int .u32 h.seq, .int .u32 h.ack, .int .u8 o, .int .u8 h.ace, .int .u8 h.fl, .int .u16 h.win, .int .u16 cc, .int .u16 h.urg, .slice A5 n5 k5, .string dd] 30)
    have L5 := new_then L4 B5
    have hgt : Hid (w.heap.size + 1 ≠ w5.heap.size) := Lib.hid (by have := (BZ4.kept B5).lt; omega)
    generalize w5.alloc (.cells #[.int .u16 h.src, .int .u16 h.dst, .int .u32 h.seq, .int .u32 h.ack, .int .u8 o, .int .u8 h.ace, .int .u8 h.fl, .int .u16 h.win, .int .u16 cc, .int .u16 h.urg, .slice A5 n5 k5, .string dd] 30) = W6 at BZ5 BT R5 ⊢
    have c0 := BZ5.cell 0 rfl; have c1 := BZ5.cell 1 rfl; have c2 := BZ5.cell 2 rfl; have c3 := BZ5.cell 3 rfl; have c4 := BZ5.cell 4 rfl; have c5 := BZ5.cell 5 rfl; have c6 := BZ5.cell 6 rfl; have c7 := BZ5.cell 7 rfl; have c8 := BZ5.cell 8 rfl; have c9 := BZ5.cell 9 rfl; have c10 := BZ5.cell 10 rfl; have c11 := BZ5.cell 11 rfl
    have r0 := BT.cell 0 rfl; have r1 := BT.cell 1 rfl; have r2 := BT.cell 2 rfl; have r3 := BT.cell 3 rfl; have r4 := BT.cell 4 rfl; have r5 := BT.cell 5 rfl; have r6 := BT.cell 6 rfl; have r7 := BT.cell 7 rfl; have r8 := BT.cell 8 rfl; have r9 := BT.cell 9 rfl; have r10 := BT.cell 10 rfl; have r11 := BT.cell 11 rfl
    have rf := fun i => BT.frozen i
    go_upto_region 8 with (fail)
    go_upto_region 10 with (fail)
    clear c0 c1 c2 c3 c4 c5 c6 c7 c8 c9 c10 c11 r0 r1 r2 r3 r4 r5 r6 r7 r8 r9 r10 r11 rf
    have BZ6 := (BZ5.far (p := ⟨w5.heap.size, 4, none⟩) hgt.out (.int .u8 h.off)).far (p := ⟨w5.heap.size, 8, none⟩) hgt.out (.int .u16 h.sum)
    have BT6 := (BT.set 4 (.int .u8 h.off)).set 8 (.int .u16 h.sum)
    have R6 := new_set (p := ⟨w5.heap.size, 8, none⟩) (new_set (p := ⟨w5.heap.size, 4, none⟩) R5 (Nat.le_refl _) (.int .u8 h.off)) (Nat.le_refl _) (.int .u16 h.sum)
    generalize (W6.setCell ⟨w5.heap.size, 4, none⟩ (.int .u8 h.off)).setCell ⟨w5.heap.size, 8, none⟩ (.int .u16 h.sum) = W7 at BZ6 BT6 R6 ⊢
    have X2' := XZ5.kept R6
    have X5' := X5.kept R6
    obtain rfl : n2 = n5 := same_lenG X2' X5' HOS.out m5
    have CS := Lib.hid (same13_any h A2 A5 n2 k2 k5 xs ys dd W7 X2' X5' (HOS.out.trans m5.symm) (by omega))
    clear BZ5 BT R5 X2' X5' XZ5 X5 m5
    have c0 := BZ6.cell 0 rfl; have c1 := BZ6.cell 1 rfl; have c2 := BZ6.cell 2 rfl; have c3 := BZ6.cell 3 rfl; have c4 := BZ6.cell 4 rfl; have c5 := BZ6.cell 5 rfl; have c6 := BZ6.cell 6 rfl; have c7 := BZ6.cell 7 rfl; have c8 := BZ6.cell 8 rfl; have c9 := BZ6.cell 9 rfl; have c10 := BZ6.cell 10 rfl; have c11 := BZ6.cell 11 rfl
    have r0 := BT6.cell 0 rfl; have r1 := BT6.cell 1 rfl; have r2 := BT6.cell 2 rfl; have r3 := BT6.cell 3 rfl; have r4 := BT6.cell 4 rfl; have r5 := BT6.cell 5 rfl; have r6 := BT6.cell 6 rfl; have r7 := BT6.cell 7 rfl; have r8 := BT6.cell 8 rfl; have r9 := BT6.cell 9 rfl; have r10 := BT6.cell 10 rfl; have r11 := BT6.cell 11 rfl
    go_wp2_with (first
      | (go_at_call 15; refine CS.out.mono ?_; rintro e w8 ⟨rfl, B8⟩)
      | (go_at_call 12; refine (works13_any _).mono ?_; rintro e w9 ⟨rfl, B9⟩))
    go_ret
    exact ⟨rfl, new_then (new_then (new_then L5 R6) B8) B9⟩
  · have hbs := enc_no HT.out hq
    have hq' : (q == 0) = false := by simp [hq]
    rw [hbs] at H1
    clear HT
    go_upto_region 4 with (first
      | (go_at_call 9; refine H1.out.mono ?_; rintro e w4 ⟨A4, n4, k4, rfl, O4, B4⟩))
    obtain rfl : n4 = 0 := (own_len O4).symm
    have L4 := new_then LZ B4
    go_wp2_with (first
      | (go_at_call 12; refine (works13_any _).mono ?_; rintro e w9 ⟨rfl, B9⟩))
    go_ret
    exact ⟨rfl, new_then L4 B9⟩
end Go.Proofs.Ytnkcnfkonifmhaa
