/- Package feedback: Take, of an acknowledgement whose fields are fresh. -/
import Derived.Test.YtfoonfmhamaclaaFbkC
namespace Go.Proofs.Ytfoonfmhamaclaa
open Go.ChangeShapes Go.WideShapes Go.ChangeAt Go.RowKit
set_option linter.unusedVariables false

theorem se_fil {w' : World} {b g t p : Nat} {x : Int} {s : Sn} {a : Ak} (h : SnB w' b ⟨x, t, p, s.mss, s.m, s.ba, s.f0, s.f1, s.f2⟩) (k : Blk w' g (akV a) 31) : w'.cell? ⟨b, 6, none⟩ = some (.int .i64 s.f0) ∧ w'.cell? ⟨b, 7, none⟩ = some (.int .i64 s.f1) ∧ w'.cell? ⟨b, 8, none⟩ = some (.int .i64 s.f2) ∧ w'.cell? ⟨g, 1, none⟩ = some (.int .u32 a.s) ∧ w'.cell? ⟨g, 3, none⟩ = some (.int .i64 a.t0) ∧ w'.cell? ⟨g, 4, none⟩ = some (.int .i64 a.t1) ∧ w'.cell? ⟨g, 5, none⟩ = some (.int .i64 a.t2) :=
  ⟨Blk.cell h 6 rfl, Blk.cell h 7 rfl, Blk.cell h 8 rfl, k.cell 1 rfl, k.cell 3 rfl, k.cell 4 rfl, k.cell 5 rfl⟩
theorem ok_fil {n : Nat} {s : Sn} {a : Ak} (h : OkS n s) (k : OkA a) (hn : n < 100) : OkS (n + 1) ⟨a.s, s.t + 1, s.p, s.mss, s.m, s.ba, s.f0, s.f1, s.f2⟩ := by
  obtain ⟨q1, q2, q3, q4, q5, q6, q7, q8, q9, q10⟩ := h
  exact ⟨by omega, k.s, by simp only []; omega, by simp only []; omega, q5, by simp only []; omega, q7, by simp only []; omega, by simp only []; omega, by simp only []; omega⟩
set_option maxHeartbeats 4000000 in
theorem take19_not (b n : Nat) (s : Sn) (a : Ak) (w : World) (h : SnB w b s) (hs : OkS n s) (ha : OkA a) (hw : wrK a = false) (hf : frK s a = true) (hn : nwR a.s s.x s.t = false) :
    Calls Try.prog 8 #[.pointer (some ⟨b, 0, none⟩), .agg #[.int .i64 a.u, .int .u32 a.s, .int .u8 a.c, .int .i64 a.t0, .int .i64 a.t1, .int .i64 a.t2]] w (TkS w b 0 11 ⟨s.x, s.t, s.p + 1, s.mss, s.m, s.ba, s.f0, s.f1, s.f2⟩) := by
  have C := Lib.hid (fun w => wrong_any a w)
  rw [hw] at C
  have F := fun w => fresh17_any s.f0 s.f1 s.f2 a.t0 a.t1 a.t2 w
  rw [show (frF s.f0 a.t0 && frF s.f1 a.t1 && frF s.f2 a.t2) = true from hf] at F
  replace F := Lib.hid F
  have T := fun w h => takeE b a.s s w h ha.s hs.x (by have := hs.t; have := hs.few; omega) (by have := hs.p; have := hs.few; omega)
  rw [fiE_no hn, hn] at T
  replace T := Lib.hid T
  have S := Lib.hid (ak_new w a)
  have H := Lib.hid (sn_alloc h a)
  have hne : w.heap.size ≠ b := by have := Blk.lt h; omega
  have L := Lib.hid ((Out.refl (fun j => j = b) w).alloc (.cells #[.int .i64 a.u, .int .u32 a.s, .int .u8 a.c, .int .i64 a.t0, .int .i64 a.t1, .int .i64 a.t2] 31))
  clear h hw hf hn hs ha
  unfold TkS
  go_enter Try.func8, Try.ntmps8
  go_upto_region 3 with (fail)
  generalize w.alloc (.cells #[.int .i64 a.u, .int .u32 a.s, .int .u8 a.c, .int .i64 a.t0, .int .i64 a.t1, .int .i64 a.t2] 31) = W at *
  have c0 := S.out.cell 0 rfl
  have c1 := S.out.cell 1 rfl
  have c2 := S.out.cell 2 rfl
  have c3 := S.out.cell 3 rfl
  have c4 := S.out.cell 4 rfl
  have c5 := S.out.cell 5 rfl
  go_upto_region 5 with (first
    | (go_at_call 17; refine (C.out _).mono ?_; rintro e w1 ⟨rfl, B1⟩
       have H1 := Lib.hid (Blk.kept H.out B1)
       have S1 := Lib.hid (S.out.kept B1)
       have L1 := Lib.hid (L.out.new B1)
       clear c0 c1 c2 c3 c4 c5 H S L B1))
  have Z := se_of (Blk.drew H1.out) S1.out.drew
  go_region_held3 (fun w' => w'.cell? ⟨b, 6, none⟩ = some (.int .i64 s.f0) ∧ w'.cell? ⟨b, 7, none⟩ = some (.int .i64 s.f1) ∧ w'.cell? ⟨b, 8, none⟩ = some (.int .i64 s.f2) ∧ w'.cell? ⟨w.heap.size, 1, none⟩ = some (.int .u32 a.s) ∧ w'.cell? ⟨w.heap.size, 3, none⟩ = some (.int .i64 a.t0) ∧ w'.cell? ⟨w.heap.size, 4, none⟩ = some (.int .i64 a.t1) ∧ w'.cell? ⟨w.heap.size, 5, none⟩ = some (.int .i64 a.t2))
    (first | exact Z | exact se_of (Blk.kept H1.out (new_undrew B2)) (S1.out.kept (new_undrew B2)) | exact se_fil N3 (Blk.out (S1.out.kept (new_undrew B2)) O3 hne))
    (first
      | (go_at_call 18; refine (F.out _).mono ?_; rintro e w2 ⟨rfl, B2⟩)
      | (go_at_call 19; refine (T.out _ (Blk.kept H1.out (new_undrew B2))).mono ?_; rintro e w3 ⟨rfl, O3, N3⟩))
  all_goals
    go_wp2_with fail
    exact bodyPost_ret (v := .tuple #[.int .i64 0, .int .i64 11]) (by simp [results, Try.results8, go_sem]) rfl ⟨rfl, (L1.out.new (new_undrew B2)).trans O3 (fun _ _ h => h), N3⟩
end Go.Proofs.Ytfoonfmhamaclaa
