/- The law's own look at a segment; segments compared; Length; the chapter's example. -/
import Derived.Test.YtnkcnfkonifmhaaZSegE
import Derived.Test.YtnkcnfkonifmhaaZSegC
import Derived.Test.YtnkcnfkonifmhaaZOptK
namespace Go.Proofs.Ytnkcnfkonifmhaa
open Go.RowKit
set_option linter.unusedVariables false

theorem OptsAt.keep {F : Nat → Prop} {w0 w w' : World} {A : Option Addr} {n : Nat} {xs : List OC} (h : OptsAt w A n xs) (r : RowFar w A xs) (f : ∀ x ∈ xs, HasO w0 x) (o : Out F w w') (hO : ∀ g, TyAt w g 76 → ¬ F g) (B : Below w0.heap.size w0 w') : OptsAt w' A n xs ∧ RowFar w' A xs := by
  have hr : RowFar w' A xs := by
    rcases r with rfl | ⟨g, off, e, t⟩
    · exact .inl rfl
    · exact .inr ⟨g, off, e, t.out o (hO g t)⟩
  refine ⟨⟨?_, h.len, fun x hx => (f x hx).kept B⟩, hr⟩
  rcases r with rfl | ⟨g, off, e, t⟩
  · exact ⟨0, .inl rfl⟩
  · obtain ⟨g', l⟩ := h.ls
    refine ⟨g', ?_⟩
    rcases l with l | ⟨off', e', l⟩
    · exact .inl l
    · rw [e] at e'
      cases e'
      have hg : g < w.heap.size := by obtain ⟨cur, hb⟩ := t; exact hb.lt
      have ec : ∀ k, w'.cell? ⟨g, k, none⟩ = w.cell? ⟨g, k, none⟩ := fun k => World.cell?_of_block (a := ⟨g, k, none⟩) (o.block g hg (hO g t))
      refine .inr ⟨off, e, fun i hi => ?_⟩
      obtain ⟨h1, h2, h3⟩ := l i hi
      exact ⟨(ec _).trans h1, (ec _).trans h2, (ec _).trans h3⟩
theorem tw_kept {W w1 : World} {p0 p1 p2 p3 p4 p5 p6 p7 p8 p9 p10 p11 : Addr} {v0 v1 v2 v3 v4 v5 v6 v7 v8 v9 v10 v11 : Value} (hb : Below W.heap.size W w1) (h : W.cell? p0 = some v0 ∧ W.cell? p1 = some v1 ∧ W.cell? p2 = some v2 ∧ W.cell? p3 = some v3 ∧ W.cell? p4 = some v4 ∧ W.cell? p5 = some v5 ∧ W.cell? p6 = some v6 ∧ W.cell? p7 = some v7 ∧ W.cell? p8 = some v8 ∧ W.cell? p9 = some v9 ∧ W.cell? p10 = some v10 ∧ W.cell? p11 = some v11) : w1.cell? p0 = some v0 ∧ w1.cell? p1 = some v1 ∧ w1.cell? p2 = some v2 ∧ w1.cell? p3 = some v3 ∧ w1.cell? p4 = some v4 ∧ w1.cell? p5 = some v5 ∧ w1.cell? p6 = some v6 ∧ w1.cell? p7 = some v7 ∧ w1.cell? p8 = some v8 ∧ w1.cell? p9 = some v9 ∧ w1.cell? p10 = some v10 ∧ w1.cell? p11 = some v11 := by
  obtain ⟨h0, h1, h2, h3, h4, h5, h6, h7, h8, h9, h10, h11⟩ := h
  exact ⟨cell_kept hb h0, cell_kept hb h1, cell_kept hb h2, cell_kept hb h3, cell_kept hb h4, cell_kept hb h5, cell_kept hb h6, cell_kept hb h7, cell_kept hb h8, cell_kept hb h9, cell_kept hb h10, cell_kept hb h11⟩
/-- What the law keeps of a segment. -/
def FewS (w0 w : World) (h : Hd) (e : Ending) (w' : World) : Prop :=
  ∃ (A : Option Addr) (n c : Nat) (xs : List OC) (d : ByteArray), e = .returned (.agg #[.int .u16 h.src, .int .u16 h.dst, .int .u32 h.seq, .int .u32 h.ack, .int .u8 h.off, .int .u8 h.ace, .int .u8 h.fl, .int .u16 h.win, .int .u16 h.sum, .int .u16 h.urg, .slice A n c, .string d]) ∧ OptsAt w' A n xs ∧ n ≤ 12 ∧ n ≤ c ∧ d.size ≤ 100 ∧ Below w.heap.size w w' ∧ RowFar w' A xs ∧ ∀ x ∈ xs, HasO w0 x
set_option maxRecDepth 100000 in
set_option maxHeartbeats 8000000 in
theorem few13_any (h : Hd) (a : Option Addr) (len cap : Nat) (d : ByteArray) (w0 w : World) (B0 : Below w0.heap.size w0 w) (hs : SrcO w0 a len) (hlen : len ≤ maxLen) (hd : d.size ≤ maxLen) :
    Calls Try.prog 8 #[.agg #[.int .u16 h.src, .int .u16 h.dst, .int .u32 h.seq, .int .u32 h.ack, .int .u8 h.off, .int .u8 h.ace, .int .u8 h.fl, .int .u16 h.win, .int .u16 h.sum, .int .u16 h.urg, .slice a len cap, .string d]] w (FewS w0 w h) := by
  obtain ⟨N, hN⟩ : ∃ N, N = min len 12 := ⟨_, rfl⟩
  have HN := Lib.hid hN
  have HW := Lib.hid hs
  have HM := Lib.hid hlen
  have n12 : Hid (N ≤ 12) := Lib.hid (by omega)
  unfold maxLen at hd
  have A0 := (At.new w [.int .u16 h.src, .int .u16 h.dst, .int .u32 h.seq, .int .u32 h.ack, .int .u8 h.off, .int .u8 h.ace, .int .u8 h.fl, .int .u16 h.win, .int .u16 h.sum, .int .u16 h.urg, .slice a len cap, .string d] 30).alloc (.cells #[.int .u16 0, .int .u16 0, .int .u32 0, .int .u32 0, .int .u8 0, .int .u8 0, .int .u8 0, .int .u16 0, .int .u16 0, .int .u16 0, .slice none 0 0, .string ⟨#[]⟩] 30)
  have BR := Blk.newAt (alloc_size w (.cells #[.int .u16 h.src, .int .u16 h.dst, .int .u32 h.seq, .int .u32 h.ack, .int .u8 h.off, .int .u8 h.ace, .int .u8 h.fl, .int .u16 h.win, .int .u16 h.sum, .int .u16 h.urg, .slice a len cap, .string d] 30)) [.int .u16 0, .int .u16 0, .int .u32 0, .int .u32 0, .int .u8 0, .int .u8 0, .int .u8 0, .int .u16 0, .int .u16 0, .int .u16 0, .slice none 0 0, .string ⟨#[]⟩] 30
  have L0 := new_alloc (new_alloc (new_refl w) (.cells #[.int .u16 h.src, .int .u16 h.dst, .int .u32 h.seq, .int .u32 h.ack, .int .u8 h.off, .int .u8 h.ace, .int .u8 h.fl, .int .u16 h.win, .int .u16 h.sum, .int .u16 h.urg, .slice a len cap, .string d] 30)) (.cells #[.int .u16 0, .int .u16 0, .int .u32 0, .int .u32 0, .int .u8 0, .int .u8 0, .int .u8 0, .int .u16 0, .int .u16 0, .int .u16 0, .slice none 0 0, .string ⟨#[]⟩] 30)
  clear hN hs hlen
  go_enter Try.func8, Try.ntmps8
  go_upto_region 1 with (fail)
  generalize (w.alloc (.cells #[.int .u16 h.src, .int .u16 h.dst, .int .u32 h.seq, .int .u32 h.ack, .int .u8 h.off, .int .u8 h.ace, .int .u8 h.fl, .int .u16 h.win, .int .u16 h.sum, .int .u16 h.urg, .slice a len cap, .string d] 30)).alloc (.cells #[.int .u16 0, .int .u16 0, .int .u32 0, .int .u32 0, .int .u8 0, .int .u8 0, .int .u8 0, .int .u16 0, .int .u16 0, .int .u16 0, .slice none 0 0, .string ⟨#[]⟩] 30) = W at A0 BR L0 ⊢
  have c0 := A0.cell 0 rfl; have c1 := A0.cell 1 rfl; have c2 := A0.cell 2 rfl; have c3 := A0.cell 3 rfl; have c4 := A0.cell 4 rfl; have c5 := A0.cell 5 rfl; have c6 := A0.cell 6 rfl; have c7 := A0.cell 7 rfl; have c8 := A0.cell 8 rfl; have c9 := A0.cell 9 rfl; have c10 := A0.cell 10 rfl; have c11 := A0.cell 11 rfl
  have HC := Lib.hid (And.intro c0 (And.intro c1 (And.intro c2 (And.intro c3 (And.intro c4 (And.intro c5 (And.intro c6 (And.intro c7 (And.intro c8 (And.intro c9 (And.intro c10 c11)))))))))))
  by_cases h100 : d.size ≤ 100
  · have s1 : (d.size : Int) ≤ 100 := by omega
    have s2 : (0 : Int) ≤ (d.size : Int) := by omega
    have s4 : (if (100 : Int) < (d.size : Int) then (100 : Int) else (d.size : Int)) = (d.size : Int) := if_neg (by omega)
    go_region_held3 (fun w' => w'.cell? ⟨w.heap.size, 0, none⟩ = some (.int .u16 h.src) ∧ w'.cell? ⟨w.heap.size, 1, none⟩ = some (.int .u16 h.dst) ∧ w'.cell? ⟨w.heap.size, 2, none⟩ = some (.int .u32 h.seq) ∧ w'.cell? ⟨w.heap.size, 3, none⟩ = some (.int .u32 h.ack) ∧ w'.cell? ⟨w.heap.size, 4, none⟩ = some (.int .u8 h.off) ∧ w'.cell? ⟨w.heap.size, 5, none⟩ = some (.int .u8 h.ace) ∧ w'.cell? ⟨w.heap.size, 6, none⟩ = some (.int .u8 h.fl) ∧ w'.cell? ⟨w.heap.size, 7, none⟩ = some (.int .u16 h.win) ∧ w'.cell? ⟨w.heap.size, 8, none⟩ = some (.int .u16 h.sum) ∧ w'.cell? ⟨w.heap.size, 9, none⟩ = some (.int .u16 h.urg) ∧ w'.cell? ⟨w.heap.size, 10, none⟩ = some (.slice a len cap) ∧ w'.cell? ⟨w.heap.size, 11, none⟩ = some (.string d))
      (first | go_keep | exact tw_kept B6 HC.out)
      (first
        | (go_at_call 18; refine (few_far a len cap N w0 _ (new_drew (new_then B0 L0)) HW.out HN.out HM.out).mono ?_; rintro e w6 ⟨A6, k6, xs, rfl, X6, hc6, B6, rw6, f6⟩
           replace B6 := new_undrew B6
           have BR6 := BR.kept B6
           have r0 := BR6.cell 0 rfl; have r1 := BR6.cell 1 rfl; have r2 := BR6.cell 2 rfl; have r3 := BR6.cell 3 rfl; have r4 := BR6.cell 4 rfl; have r5 := BR6.cell 5 rfl; have r6 := BR6.cell 6 rfl; have r7 := BR6.cell 7 rfl; have r8 := BR6.cell 8 rfl; have r9 := BR6.cell 9 rfl; have r10 := BR6.cell 10 rfl; have r11 := BR6.cell 11 rfl
           have rf := fun i => BR6.frozen i))
    all_goals
      clear r0 r1 r2 r3 r4 r5 r6 r7 r8 r9 r10 r11 rf c0 c1 c2 c3 c4 c5 c6 c7 c8 c9 c10 c11
      have R6 := new_then L0 B6
      have BZ := blk12 BR6 (.int .u16 h.src) (.int .u16 h.dst) (.int .u32 h.seq) (.int .u32 h.ack) (.int .u8 h.off) (.int .u8 h.ace) (.int .u8 h.fl) (.int .u16 h.win) (.int .u16 h.sum) (.int .u16 h.urg) (.slice A6 N k6) (.string d)
      have LZ := low12 R6 (show w.heap.size ≤ w.heap.size + 1 by omega) (.int .u16 h.src) (.int .u16 h.dst) (.int .u32 h.seq) (.int .u32 h.ack) (.int .u8 h.off) (.int .u8 h.ace) (.int .u8 h.fl) (.int .u16 h.win) (.int .u16 h.sum) (.int .u16 h.urg) (.slice A6 N k6) (.string d)
      obtain ⟨XZ, RZ⟩ := X6.keep rw6 f6 (out12 (w := w6) (g := w.heap.size + 1) (.int .u16 h.src) (.int .u16 h.dst) (.int .u32 h.seq) (.int .u32 h.ack) (.int .u8 h.off) (.int .u8 h.ace) (.int .u8 h.fl) (.int .u16 h.win) (.int .u16 h.sum) (.int .u16 h.urg) (.slice A6 N k6) (.string d)) (fun j t => ty_far t BR6 (by decide)) (new_then B0 LZ)
      generalize ((((((((((((w6.setCell ⟨w.heap.size + 1, 0, none⟩ (.int .u16 h.src)).setCell ⟨w.heap.size + 1, 1, none⟩ (.int .u16 h.dst)).setCell ⟨w.heap.size + 1, 2, none⟩ (.int .u32 h.seq)).setCell ⟨w.heap.size + 1, 3, none⟩ (.int .u32 h.ack)).setCell ⟨w.heap.size + 1, 4, none⟩ (.int .u8 h.off)).setCell ⟨w.heap.size + 1, 5, none⟩ (.int .u8 h.ace)).setCell ⟨w.heap.size + 1, 6, none⟩ (.int .u8 h.fl)).setCell ⟨w.heap.size + 1, 7, none⟩ (.int .u16 h.win)).setCell ⟨w.heap.size + 1, 8, none⟩ (.int .u16 h.sum)).setCell ⟨w.heap.size + 1, 9, none⟩ (.int .u16 h.urg)).setCell ⟨w.heap.size + 1, 10, none⟩ (.slice A6 N k6)).setCell ⟨w.heap.size + 1, 11, none⟩ (.string d)) = WZ at BZ LZ XZ RZ ⊢
      have r0 := BZ.cell 0 rfl; have r1 := BZ.cell 1 rfl; have r2 := BZ.cell 2 rfl; have r3 := BZ.cell 3 rfl; have r4 := BZ.cell 4 rfl; have r5 := BZ.cell 5 rfl; have r6 := BZ.cell 6 rfl; have r7 := BZ.cell 7 rfl; have r8 := BZ.cell 8 rfl; have r9 := BZ.cell 9 rfl; have r10 := BZ.cell 10 rfl; have r11 := BZ.cell 11 rfl
      go_wp2_with fail
      exact bodyPost_ret (v := .agg #[.int .u16 h.src, .int .u16 h.dst, .int .u32 h.seq, .int .u32 h.ack, .int .u8 h.off, .int .u8 h.ace, .int .u8 h.fl, .int .u16 h.win, .int .u16 h.sum, .int .u16 h.urg, .slice A6 N k6, .string d]) (by simp [results, Try.results8, go_sem, r0, r1, r2, r3, r4, r5, r6, r7, r8, r9, r10, r11]) rfl ⟨A6, N, k6, xs, d, rfl, XZ, n12.out, hc6, h100, LZ, RZ, f6⟩
  · have s1 : (100 : Int) < (d.size : Int) := by omega
    have s2 : (100 : Int) ≤ (d.size : Int) := by omega
    have s4 : (if (100 : Int) < (d.size : Int) then (100 : Int) else (d.size : Int)) = 100 := if_pos s1
    have h101 : (d.extract 0 100).size ≤ 100 := by rw [ByteArray.size_extract]; omega
    go_region_held3 (fun w' => w'.cell? ⟨w.heap.size, 0, none⟩ = some (.int .u16 h.src) ∧ w'.cell? ⟨w.heap.size, 1, none⟩ = some (.int .u16 h.dst) ∧ w'.cell? ⟨w.heap.size, 2, none⟩ = some (.int .u32 h.seq) ∧ w'.cell? ⟨w.heap.size, 3, none⟩ = some (.int .u32 h.ack) ∧ w'.cell? ⟨w.heap.size, 4, none⟩ = some (.int .u8 h.off) ∧ w'.cell? ⟨w.heap.size, 5, none⟩ = some (.int .u8 h.ace) ∧ w'.cell? ⟨w.heap.size, 6, none⟩ = some (.int .u8 h.fl) ∧ w'.cell? ⟨w.heap.size, 7, none⟩ = some (.int .u16 h.win) ∧ w'.cell? ⟨w.heap.size, 8, none⟩ = some (.int .u16 h.sum) ∧ w'.cell? ⟨w.heap.size, 9, none⟩ = some (.int .u16 h.urg) ∧ w'.cell? ⟨w.heap.size, 10, none⟩ = some (.slice a len cap) ∧ w'.cell? ⟨w.heap.size, 11, none⟩ = some (.string d))
      (first | go_keep | exact tw_kept B6 HC.out)
      (first
        | (go_at_call 18; refine (few_far a len cap N w0 _ (new_drew (new_then B0 L0)) HW.out HN.out HM.out).mono ?_; rintro e w6 ⟨A6, k6, xs, rfl, X6, hc6, B6, rw6, f6⟩
           replace B6 := new_undrew B6
           have BR6 := BR.kept B6
           have r0 := BR6.cell 0 rfl; have r1 := BR6.cell 1 rfl; have r2 := BR6.cell 2 rfl; have r3 := BR6.cell 3 rfl; have r4 := BR6.cell 4 rfl; have r5 := BR6.cell 5 rfl; have r6 := BR6.cell 6 rfl; have r7 := BR6.cell 7 rfl; have r8 := BR6.cell 8 rfl; have r9 := BR6.cell 9 rfl; have r10 := BR6.cell 10 rfl; have r11 := BR6.cell 11 rfl
           have rf := fun i => BR6.frozen i))
    all_goals
      generalize d.extract 0 100 = dd at h101 ⊢
      clear r0 r1 r2 r3 r4 r5 r6 r7 r8 r9 r10 r11 rf c0 c1 c2 c3 c4 c5 c6 c7 c8 c9 c10 c11
      have R6 := new_then L0 B6
      have BZ := blk12 BR6 (.int .u16 h.src) (.int .u16 h.dst) (.int .u32 h.seq) (.int .u32 h.ack) (.int .u8 h.off) (.int .u8 h.ace) (.int .u8 h.fl) (.int .u16 h.win) (.int .u16 h.sum) (.int .u16 h.urg) (.slice A6 N k6) (.string dd)
      have LZ := low12 R6 (show w.heap.size ≤ w.heap.size + 1 by omega) (.int .u16 h.src) (.int .u16 h.dst) (.int .u32 h.seq) (.int .u32 h.ack) (.int .u8 h.off) (.int .u8 h.ace) (.int .u8 h.fl) (.int .u16 h.win) (.int .u16 h.sum) (.int .u16 h.urg) (.slice A6 N k6) (.string dd)
      obtain ⟨XZ, RZ⟩ := X6.keep rw6 f6 (out12 (w := w6) (g := w.heap.size + 1) (.int .u16 h.src) (.int .u16 h.dst) (.int .u32 h.seq) (.int .u32 h.ack) (.int .u8 h.off) (.int .u8 h.ace) (.int .u8 h.fl) (.int .u16 h.win) (.int .u16 h.sum) (.int .u16 h.urg) (.slice A6 N k6) (.string dd)) (fun j t => ty_far t BR6 (by decide)) (new_then B0 LZ)
      generalize ((((((((((((w6.setCell ⟨w.heap.size + 1, 0, none⟩ (.int .u16 h.src)).setCell ⟨w.heap.size + 1, 1, none⟩ (.int .u16 h.dst)).setCell ⟨w.heap.size + 1, 2, none⟩ (.int .u32 h.seq)).setCell ⟨w.heap.size + 1, 3, none⟩ (.int .u32 h.ack)).setCell ⟨w.heap.size + 1, 4, none⟩ (.int .u8 h.off)).setCell ⟨w.heap.size + 1, 5, none⟩ (.int .u8 h.ace)).setCell ⟨w.heap.size + 1, 6, none⟩ (.int .u8 h.fl)).setCell ⟨w.heap.size + 1, 7, none⟩ (.int .u16 h.win)).setCell ⟨w.heap.size + 1, 8, none⟩ (.int .u16 h.sum)).setCell ⟨w.heap.size + 1, 9, none⟩ (.int .u16 h.urg)).setCell ⟨w.heap.size + 1, 10, none⟩ (.slice A6 N k6)).setCell ⟨w.heap.size + 1, 11, none⟩ (.string dd)) = WZ at BZ LZ XZ RZ ⊢
      have r0 := BZ.cell 0 rfl; have r1 := BZ.cell 1 rfl; have r2 := BZ.cell 2 rfl; have r3 := BZ.cell 3 rfl; have r4 := BZ.cell 4 rfl; have r5 := BZ.cell 5 rfl; have r6 := BZ.cell 6 rfl; have r7 := BZ.cell 7 rfl; have r8 := BZ.cell 8 rfl; have r9 := BZ.cell 9 rfl; have r10 := BZ.cell 10 rfl; have r11 := BZ.cell 11 rfl
      go_wp2_with fail
      exact bodyPost_ret (v := .agg #[.int .u16 h.src, .int .u16 h.dst, .int .u32 h.seq, .int .u32 h.ack, .int .u8 h.off, .int .u8 h.ace, .int .u8 h.fl, .int .u16 h.win, .int .u16 h.sum, .int .u16 h.urg, .slice A6 N k6, .string dd]) (by simp [results, Try.results8, go_sem, r0, r1, r2, r3, r4, r5, r6, r7, r8, r9, r10, r11]) rfl ⟨A6, N, k6, xs, dd, rfl, XZ, n12.out, hc6, h101, LZ, RZ, f6⟩

theorem same13_any (h : Hd) (A B : Option Addr) (n c c' : Nat) (xs ys : List OC) (d : ByteArray) (w : World) (hx : OptsAt w A n xs) (hy : OptsAt w B n ys) (he : xs.map OC.o = ys.map OC.o) (hn : n ≤ 100000) :
    Calls Try.prog 15 #[.agg #[.int .u16 h.src, .int .u16 h.dst, .int .u32 h.seq, .int .u32 h.ack, .int .u8 h.off, .int .u8 h.ace, .int .u8 h.fl, .int .u16 h.win, .int .u16 h.sum, .int .u16 h.urg, .slice A n c, .string d], .agg #[.int .u16 h.src, .int .u16 h.dst, .int .u32 h.seq, .int .u32 h.ack, .int .u8 h.off, .int .u8 h.ace, .int .u8 h.fl, .int .u16 h.win, .int .u16 h.sum, .int .u16 h.urg, .slice B n c', .string d]] w fun e w' => e = .returned (.bool true) ∧ Below w.heap.size w w' := by
  have hq : ∀ w, (binOp .eql 27 (.agg #[.int .u16 h.src, .int .u16 h.dst, .int .u32 h.seq, .int .u32 h.ack, .int .u8 h.off, .int .u8 h.ace, .int .u8 h.fl, .int .u16 h.win, .int .u16 h.sum, .int .u16 h.urg]) (.agg #[.int .u16 h.src, .int .u16 h.dst, .int .u32 h.seq, .int .u32 h.ack, .int .u8 h.off, .int .u8 h.ace, .int .u8 h.fl, .int .u16 h.win, .int .u16 h.sum, .int .u16 h.urg])).run Try.prog w = .ok (.bool true) w := fun w => by rw [eqlH, same_refl]
  have A0 := (At.new w [.int .u16 h.src, .int .u16 h.dst, .int .u32 h.seq, .int .u32 h.ack, .int .u8 h.off, .int .u8 h.ace, .int .u8 h.fl, .int .u16 h.win, .int .u16 h.sum, .int .u16 h.urg, .slice A n c, .string d] 30).alloc (.cells #[.int .u16 h.src, .int .u16 h.dst, .int .u32 h.seq, .int .u32 h.ack, .int .u8 h.off, .int .u8 h.ace, .int .u8 h.fl, .int .u16 h.win, .int .u16 h.sum, .int .u16 h.urg, .slice B n c', .string d] 30)
  have A1 := At.newAt (alloc_size w (.cells #[.int .u16 h.src, .int .u16 h.dst, .int .u32 h.seq, .int .u32 h.ack, .int .u8 h.off, .int .u8 h.ace, .int .u8 h.fl, .int .u16 h.win, .int .u16 h.sum, .int .u16 h.urg, .slice A n c, .string d] 30)) [.int .u16 h.src, .int .u16 h.dst, .int .u32 h.seq, .int .u32 h.ack, .int .u8 h.off, .int .u8 h.ace, .int .u8 h.fl, .int .u16 h.win, .int .u16 h.sum, .int .u16 h.urg, .slice B n c', .string d] 30
  have L0 := new_alloc (new_alloc (new_refl w) (.cells #[.int .u16 h.src, .int .u16 h.dst, .int .u32 h.seq, .int .u32 h.ack, .int .u8 h.off, .int .u8 h.ace, .int .u8 h.fl, .int .u16 h.win, .int .u16 h.sum, .int .u16 h.urg, .slice A n c, .string d] 30)) (.cells #[.int .u16 h.src, .int .u16 h.dst, .int .u32 h.seq, .int .u32 h.ack, .int .u8 h.off, .int .u8 h.ace, .int .u8 h.fl, .int .u16 h.win, .int .u16 h.sum, .int .u16 h.urg, .slice B n c', .string d] 30)
  have HX := Lib.hid hx
  have HY := Lib.hid hy
  have HE := Lib.hid he
  have HN := Lib.hid hn
  clear hx hy he hn
  go_enter Try.func15, Try.ntmps15
  go_upto_region 1 with (fail)
  generalize (w.alloc (.cells #[.int .u16 h.src, .int .u16 h.dst, .int .u32 h.seq, .int .u32 h.ack, .int .u8 h.off, .int .u8 h.ace, .int .u8 h.fl, .int .u16 h.win, .int .u16 h.sum, .int .u16 h.urg, .slice A n c, .string d] 30)).alloc (.cells #[.int .u16 h.src, .int .u16 h.dst, .int .u32 h.seq, .int .u32 h.ack, .int .u8 h.off, .int .u8 h.ace, .int .u8 h.fl, .int .u16 h.win, .int .u16 h.sum, .int .u16 h.urg, .slice B n c', .string d] 30) = W at A0 A1 L0 ⊢
  have p0 := A0.cell 0 rfl; have p1 := A0.cell 1 rfl; have p2 := A0.cell 2 rfl; have p3 := A0.cell 3 rfl; have p4 := A0.cell 4 rfl; have p5 := A0.cell 5 rfl; have p6 := A0.cell 6 rfl; have p7 := A0.cell 7 rfl; have p8 := A0.cell 8 rfl; have p9 := A0.cell 9 rfl; have p10 := A0.cell 10 rfl; have p11 := A0.cell 11 rfl
  have q0 := A1.cell 0 rfl; have q1 := A1.cell 1 rfl; have q2 := A1.cell 2 rfl; have q3 := A1.cell 3 rfl; have q4 := A1.cell 4 rfl; have q5 := A1.cell 5 rfl; have q6 := A1.cell 6 rfl; have q7 := A1.cell 7 rfl; have q8 := A1.cell 8 rfl; have q9 := A1.cell 9 rfl; have q10 := A1.cell 10 rfl; have q11 := A1.cell 11 rfl
  go_wp2_with (first
    | (go_at_call 34; refine (all_any A B n c c' xs ys _ (HX.out.kept L0) (HY.out.kept L0) HE.out HN.out).mono ?_; rintro e w3 ⟨rfl, B3⟩; have d0 := (A0.kept B3).cell 11 rfl; have d1 := (A1.kept B3).cell 11 rfl))
  go_ret
  exact ⟨by first | rfl | simp, new_then L0 B3⟩
end Go.Proofs.Ytnkcnfkonifmhaa
