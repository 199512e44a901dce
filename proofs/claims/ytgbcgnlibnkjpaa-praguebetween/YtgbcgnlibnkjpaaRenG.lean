/- Package reno: Cut, Collapse, Grow, Start. -/
import Derived.Test.YtgbcgnlibnkjpaaRenF
namespace Go.Proofs.Ytgbcgnlibnkjpaa
open Go.ChangeShapes Go.WideShapes Go.ChangeAt Go.RowKit
set_option linter.unusedVariables false

abbrev cV (x : Int) : List Value := [.int .i64 x]
set_option maxHeartbeats 1000000 in
theorem cut24_any (c : Rn) (s m : Int) (w : World) : Calls Try.prog 23 #[rnW c, .int .i64 s, .int .i64 m] w (RnIs w (rnCut c s m)) := by
  unfold RnIs rnW
  obtain ⟨d, hd⟩ : ∃ d, rnCut c s m = d := ⟨_, rfl⟩
  have GO : Hid (∀ w b p q, Blk w b [.func (.func 46) #[] #[.pointer (some ⟨p, 0, none⟩), .pointer (some ⟨q, 0, none⟩)]] 57 → w.cell? ⟨p, 0, none⟩ = some (.int .i64 s) → w.cell? ⟨q, 0, none⟩ = some (.int .i64 m) →
      Calls Try.prog 42 #[.agg #[.int .i64 c.c, .int .i64 c.t, .int .i64 c.k], .int .i64 m, .slice (some ⟨b, 0, none⟩) 1 1] w fun e w' => e = .returned (.agg #[.int .i64 d.c, .int .i64 d.t, .int .i64 d.k]) ∧ Below w.heap.size w w') :=
    Lib.hid (fun w b p q hb hp hq => by
      have h := goneCut_any c s m b p q w hb hp hq
      rw [hd] at h
      exact h)
  rw [hd]
  clear hd
  obtain ⟨W1, h1⟩ : ∃ W, w.alloc (.cells #[.int .i64 c.c, .int .i64 c.t, .int .i64 c.k] 27) = W := ⟨_, rfl⟩
  obtain ⟨W2, h2⟩ : ∃ W, W1.alloc (.cells #[.int .i64 s] 2) = W := ⟨_, rfl⟩
  obtain ⟨W3, h3⟩ : ∃ W, W2.alloc (.cells #[.int .i64 m] 2) = W := ⟨_, rfl⟩
  obtain ⟨W4, h4⟩ : ∃ W, W3.alloc (.cells #[.int .i64 0, .int .i64 0, .int .i64 0] 27) = W := ⟨_, rfl⟩
  have z1 : W1.heap.size = w.heap.size + 1 := by rw [← h1]; simp
  have z2 : W2.heap.size = w.heap.size + 1 + 1 := by rw [← h2]; simp [z1]
  have z3 : W3.heap.size = w.heap.size + 1 + 1 + 1 := by rw [← h3]; simp [z2]
  have z4 : W4.heap.size = w.heap.size + 1 + 1 + 1 + 1 := by rw [← h4]; simp [z3]
  have L4 : Hid (Below w.heap.size w W4) := Lib.hid (by rw [← h4, ← h3, ← h2, ← h1]; exact new_alloc (new_alloc (new_alloc (new_alloc (new_refl w) _) _) _) _)
  have P4 : Hid (Blk W4 (w.heap.size + 1) (cV s) 2) := Lib.hid (by rw [← h4, ← h3, ← h2]; exact ((Blk.newAt z1 (cV s) _).alloc _).alloc _)
  have Q4 : Hid (Blk W4 (w.heap.size + 1 + 1) (cV m) 2) := Lib.hid (by rw [← h4, ← h3]; exact (Blk.newAt z2 (cV m) _).alloc _)
  have R4 : Hid (Blk W4 (w.heap.size + 1 + 1 + 1) (rnV rnO) 27) := Lib.hid (by rw [← h4]; exact Blk.newAt z3 (rnV rnO) _)
  have C4 : Hid (Blk W4 w.heap.size (rnV c) 27) := Lib.hid (by rw [← h4, ← h3, ← h2, ← h1]; exact (((Blk.new w (rnV c) _).alloc _).alloc _).alloc _)
  go_enter Try.func23, Try.ntmps23
  go_upto_region 1 with fail
  clear h1 h2 h3 h4 z1 z2 z3
  have c0 := C4.out.cell 0 rfl; have c1 := C4.out.cell 1 rfl; have c2 := C4.out.cell 2 rfl
  have p0 := P4.out.cell 0 rfl
  have q0 := Q4.out.cell 0 rfl
  have HB := Lib.hid (Blk.newAt z4 [.func (.func 46) #[] #[.pointer (some ⟨w.heap.size + 1, 0, none⟩), .pointer (some ⟨w.heap.size + 1 + 1, 0, none⟩)]] 57)
  go_wp2_with (first
    | (go_at_call 42; refine (GO.out _ _ _ _ HB.out ((P4.out.alloc _).cell 0 rfl) ((Q4.out.alloc _).cell 0 rfl)).mono ?_; rintro e w5 ⟨rfl, B5⟩
       have R5 := Lib.hid ((R4.out.alloc _).kept B5)
       have L5 := Lib.hid (new_then (new_alloc L4.out _) B5)
       have V := Lib.hid (lowN3 (p := w.heap.size + 1 + 1 + 1) L5.out (by omega) (.int .i64 d.c) (.int .i64 d.t) (.int .i64 d.k))
       have r0 := R5.out.cell 0 rfl; have r1 := R5.out.cell 1 rfl; have r2 := R5.out.cell 2 rfl; have f0 := R5.out.frozen 0; have f1 := R5.out.frozen 1; have f2 := R5.out.frozen 2))
  exact bodyPost_ret (v := .agg #[.int .i64 d.c, .int .i64 d.t, .int .i64 d.k]) (by simp [results, Try.results23, go_sem, r0, r1, r2]) rfl ⟨rfl, V.out⟩

set_option maxHeartbeats 2000000 in
theorem grow24_any (c : Rn) (a m s : Int) (w : World) : Calls Try.prog 21 #[rnW c, .int .i64 a, .int .i64 m, .int .i64 s] w (RnIs w (rnGrow c a m s)) := by
  have ba := rnA_bd a
  have EA : Hid (clampI a 0 16777216 = rnA a) := Lib.hid rfl
  unfold RnIs rnW
  obtain ⟨d, hd⟩ : ∃ d, rnGrow c a m s = d := ⟨_, rfl⟩
  have GO : Hid (∀ w b g p q, Blk w b [.func (.func 35) #[] #[.pointer (some ⟨g, 0, none⟩)], .func (.func 37) #[] #[.pointer (some ⟨g, 0, none⟩), .pointer (some ⟨p, 0, none⟩), .pointer (some ⟨q, 0, none⟩)]] 57 →
      Blk w g [.int .i64 (rnA a)] 2 → Blk w p [.int .i64 m] 2 → Blk w q [.int .i64 s] 2 → b ≠ g → p ≠ g → q ≠ g →
      Calls Try.prog 42 #[.agg #[.int .i64 c.c, .int .i64 c.t, .int .i64 c.k], .int .i64 m, .slice (some ⟨b, 0, none⟩) 2 2] w fun e w' => e = .returned (.agg #[.int .i64 d.c, .int .i64 d.t, .int .i64 d.k]) ∧ Out (· = g) w w') :=
    Lib.hid (fun w b g p q hb hg hp hq nb np nq => by
      rw [← hd]
      exact goneGrow_any c (rnA a) m s b g p q w ba hb hg hp hq nb np nq)
  rw [hd]
  clear hd ba
  generalize rnA a = A at *
  obtain ⟨W1, h1⟩ : ∃ W, w.alloc (.cells #[.int .i64 c.c, .int .i64 c.t, .int .i64 c.k] 27) = W := ⟨_, rfl⟩
  obtain ⟨W2, h2⟩ : ∃ W, W1.alloc (.cells #[.int .i64 m] 2) = W := ⟨_, rfl⟩
  obtain ⟨W3, h3⟩ : ∃ W, W2.alloc (.cells #[.int .i64 s] 2) = W := ⟨_, rfl⟩
  obtain ⟨W4, h4⟩ : ∃ W, W3.alloc (.cells #[.int .i64 0, .int .i64 0, .int .i64 0] 27) = W := ⟨_, rfl⟩
  obtain ⟨W5, h5⟩ : ∃ W, W4.alloc (.cells #[.int .i64 A] 2) = W := ⟨_, rfl⟩
  have z1 : W1.heap.size = w.heap.size + 1 := by rw [← h1]; simp
  have z2 : W2.heap.size = w.heap.size + 1 + 1 := by rw [← h2]; simp [z1]
  have z3 : W3.heap.size = w.heap.size + 1 + 1 + 1 := by rw [← h3]; simp [z2]
  have z4 : W4.heap.size = w.heap.size + 1 + 1 + 1 + 1 := by rw [← h4]; simp [z3]
  have z5 : W5.heap.size = w.heap.size + 1 + 1 + 1 + 1 + 1 := by rw [← h5]; simp [z4]
  have L5 : Hid (Below w.heap.size w W5) := Lib.hid (by rw [← h5, ← h4, ← h3, ← h2, ← h1]; exact new_alloc (new_alloc (new_alloc (new_alloc (new_alloc (new_refl w) _) _) _) _) _)
  have P5 : Hid (Blk W5 (w.heap.size + 1) (cV m) 2) := Lib.hid (by rw [← h5, ← h4, ← h3, ← h2]; exact (((Blk.newAt z1 (cV m) _).alloc _).alloc _).alloc _)
  have Q5 : Hid (Blk W5 (w.heap.size + 1 + 1) (cV s) 2) := Lib.hid (by rw [← h5, ← h4, ← h3]; exact ((Blk.newAt z2 (cV s) _).alloc _).alloc _)
  have R5 : Hid (Blk W5 (w.heap.size + 1 + 1 + 1) (rnV rnO) 27) := Lib.hid (by rw [← h5, ← h4]; exact (Blk.newAt z3 (rnV rnO) _).alloc _)
  have G5 : Hid (Blk W5 (w.heap.size + 1 + 1 + 1 + 1) (cV A) 2) := Lib.hid (by rw [← h5]; exact Blk.newAt z4 (cV A) _)
  have C5 : Hid (Blk W5 w.heap.size (rnV c) 27) := Lib.hid (by rw [← h5, ← h4, ← h3, ← h2, ← h1]; exact ((((Blk.new w (rnV c) _).alloc _).alloc _).alloc _).alloc _)
  go_enter Try.func21, Try.ntmps21
  go_upto_region 4 with (go_at_call 34; refine (satClamp_any _ _ _ _).mono ?_; rintro e w' ⟨rfl, rfl⟩; rw [EA.out])
  clear h1 h2 h3 h4 h5 z1 z2 z3 z4 EA
  have c0 := C5.out.cell 0 rfl; have c1 := C5.out.cell 1 rfl; have c2 := C5.out.cell 2 rfl
  have p0 := P5.out.cell 0 rfl
  have q0 := Q5.out.cell 0 rfl
  have HB := Lib.hid (Blk.newAt z5 [.func (.func 35) #[] #[.pointer (some ⟨w.heap.size + 1 + 1 + 1 + 1, 0, none⟩)], .func (.func 37) #[] #[.pointer (some ⟨w.heap.size + 1 + 1 + 1 + 1, 0, none⟩), .pointer (some ⟨w.heap.size + 1, 0, none⟩), .pointer (some ⟨w.heap.size + 1 + 1, 0, none⟩)]] 57)
  go_wp2_with (first
    | (go_at_call 42; refine (GO.out _ _ _ _ _ HB.out (G5.out.alloc _) (P5.out.alloc _) (Q5.out.alloc _) (by omega) (by omega) (by omega)).mono ?_; rintro e w6 ⟨rfl, B6⟩
       have R6 := Lib.hid ((R5.out.alloc _).out B6 (by omega))
       have L6 := Lib.hid ((Out.of (new_alloc L5.out _) (· = w.heap.size + 1 + 1 + 1 + 1)).trans B6 (fun _ _ h => h))
       have V := Lib.hid ((out3 (p := w.heap.size + 1 + 1 + 1) L6.out (by omega) (.int .i64 d.c) (.int .i64 d.t) (.int .i64 d.k)).below (B := w.heap.size) (Nat.le_refl _) (fun k h => by omega))
       have r0 := R6.out.cell 0 rfl; have r1 := R6.out.cell 1 rfl; have r2 := R6.out.cell 2 rfl; have f0 := R6.out.frozen 0; have f1 := R6.out.frozen 1; have f2 := R6.out.frozen 2))
  exact bodyPost_ret (v := .agg #[.int .i64 d.c, .int .i64 d.t, .int .i64 d.k]) (by simp [results, Try.results21, go_sem, r0, r1, r2]) rfl ⟨rfl, V.out⟩
end Go.Proofs.Ytgbcgnlibnkjpaa
