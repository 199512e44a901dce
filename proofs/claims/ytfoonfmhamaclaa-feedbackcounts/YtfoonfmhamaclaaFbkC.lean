/- Package feedback: Take. -/
import Derived.Test.YtfoonfmhamaclaaFbkB
import Derived.Test.YtfoonfmhamaclaaQuiB
import Derived.Deep.RegionWith
namespace Go.Proofs.Ytfoonfmhamaclaa
open Go.ChangeShapes Go.WideShapes Go.ChangeAt Go.RowKit
set_option linter.unusedVariables false

theorem take19_nil (a : Ak) (w : World) :
    Calls Try.prog 8 #[.pointer none, .agg #[.int .i64 a.u, .int .u32 a.s, .int .u8 a.c, .int .i64 a.t0, .int .i64 a.t1, .int .i64 a.t2]] w fun e w' => e = .returned (.tuple #[.int .i64 0, .int .i64 1]) ∧ Below w.heap.size w w' := by
  go_enter Try.func8, Try.ntmps8
  go_wp2_with fail
  exact bodyPost_ret (v := .tuple #[.int .i64 0, .int .i64 1]) (by simp [results, Try.results8, go_sem]) rfl ⟨rfl, new_alloc (new_refl w) _⟩
def TkS (w : World) (b : Nat) (r : Int) (er : Int) (s' : Sn) (e : Ending) (w' : World) : Prop := e = .returned (.tuple #[.int .i64 r, .int .i64 er]) ∧ Out (fun j => j = b) w w' ∧ SnB w' b s'
theorem take19_wr (b n : Nat) (s : Sn) (a : Ak) (w : World) (h : SnB w b s) (hw : wrK a = true) :
    Calls Try.prog 8 #[.pointer (some ⟨b, 0, none⟩), .agg #[.int .i64 a.u, .int .u32 a.s, .int .u8 a.c, .int .i64 a.t0, .int .i64 a.t1, .int .i64 a.t2]] w (TkS w b 0 2 s) := by
  have C := Lib.hid (fun w => wrong_any a w)
  rw [hw] at C
  have S := Lib.hid (ak_new w a)
  have H := Lib.hid (sn_alloc h a)
  have L := Lib.hid ((Out.refl (fun j => j = b) w).alloc (.cells #[.int .i64 a.u, .int .u32 a.s, .int .u8 a.c, .int .i64 a.t0, .int .i64 a.t1, .int .i64 a.t2] 31))
  clear h hw
  unfold TkS
  go_enter Try.func8, Try.ntmps8
  go_upto_region 3 with (fail)
  generalize w.alloc (.cells #[.int .i64 a.u, .int .u32 a.s, .int .u8 a.c, .int .i64 a.t0, .int .i64 a.t1, .int .i64 a.t2] 31) = W at *
  have c0 := S.out.cell 0 rfl
  have c1 := S.out.cell 1 rfl
  have c2 := S.out.cell 2 rfl
  have c3 := S.out.cell 3 rfl
  have c4 := S.out.cell 4 rfl
  have c5 := S.out.cell 5 rfl
  go_wp2_with (first
    | (go_at_call 17; refine (C.out _).mono ?_; rintro e w1 ⟨rfl, B1⟩))
  exact bodyPost_ret (v := .tuple #[.int .i64 0, .int .i64 2]) (by simp [results, Try.results8, go_sem]) rfl ⟨rfl, L.out.new B1, Blk.kept H.out B1⟩
theorem se_of {w' : World} {b g : Nat} {s : Sn} {a : Ak} (h : SnB w' b s) (k : Blk w' g (akV a) 31) : w'.cell? ⟨b, 6, none⟩ = some (.int .i64 s.f0) ∧ w'.cell? ⟨b, 7, none⟩ = some (.int .i64 s.f1) ∧ w'.cell? ⟨b, 8, none⟩ = some (.int .i64 s.f2) ∧ w'.cell? ⟨g, 1, none⟩ = some (.int .u32 a.s) ∧ w'.cell? ⟨g, 3, none⟩ = some (.int .i64 a.t0) ∧ w'.cell? ⟨g, 4, none⟩ = some (.int .i64 a.t1) ∧ w'.cell? ⟨g, 5, none⟩ = some (.int .i64 a.t2) :=
  ⟨Blk.cell h 6 rfl, Blk.cell h 7 rfl, Blk.cell h 8 rfl, k.cell 1 rfl, k.cell 3 rfl, k.cell 4 rfl, k.cell 5 rfl⟩
set_option maxHeartbeats 4000000 in
theorem take19_old (b n : Nat) (s : Sn) (a : Ak) (w : World) (h : SnB w b s) (hw : wrK a = false) (hf : frK s a = false) :
    Calls Try.prog 8 #[.pointer (some ⟨b, 0, none⟩), .agg #[.int .i64 a.u, .int .u32 a.s, .int .u8 a.c, .int .i64 a.t0, .int .i64 a.t1, .int .i64 a.t2]] w (TkS w b 0 11 s) := by
  have C := Lib.hid (fun w => wrong_any a w)
  rw [hw] at C
  have F := fun w => fresh17_any s.f0 s.f1 s.f2 a.t0 a.t1 a.t2 w
  rw [show (frF s.f0 a.t0 && frF s.f1 a.t1 && frF s.f2 a.t2) = false from hf] at F
  replace F := Lib.hid F
  have S := Lib.hid (ak_new w a)
  have H := Lib.hid (sn_alloc h a)
  have L := Lib.hid ((Out.refl (fun j => j = b) w).alloc (.cells #[.int .i64 a.u, .int .u32 a.s, .int .u8 a.c, .int .i64 a.t0, .int .i64 a.t1, .int .i64 a.t2] 31))
  clear h hw hf
  unfold TkS
  go_enter Try.func8, Try.ntmps8
  go_upto_region 3 with (fail)
  generalize w.alloc (.cells #[.int .i64 a.u, .int .u32 a.s, .int .u8 a.c, .int .i64 a.t0, .int .i64 a.t1, .int .i64 a.t2] 31) = W at *
  have c0 := S.out.cell 0 rfl
  have c1 := S.out.cell 1 rfl
  have c2 := S.out.cell 2 rfl
  have c3 := S.out.cell 3 rfl
  have c4 := S.out.cell 4 rfl
  have c5 := S.out.cell 5 rfl
  go_upto_region 5 with (first
    | (go_at_call 17; refine (C.out _).mono ?_; rintro e w1 ⟨rfl, B1⟩
       have H1 := Lib.hid (Blk.kept H.out B1)
       have S1 := Lib.hid (S.out.kept B1)
       have L1 := Lib.hid (L.out.new B1)
       clear c0 c1 c2 c3 c4 c5 H S L B1))
  have q6 := cell_by (Blk.cell H1.out 6 rfl)
  have q7 := cell_by (Blk.cell H1.out 7 rfl)
  have q8 := cell_by (Blk.cell H1.out 8 rfl)
  have q3 := cell_by (S1.out.cell 3 rfl)
  have q4 := cell_by (S1.out.cell 4 rfl)
  have q5 := cell_by (S1.out.cell 5 rfl)
  refine wp_region_quiet_below (by kernel_rfl) (by kernel_rfl) ?_
  repeat (go_big_quiet_step (first | (go_at_call 18; refine calls_by (F.out _))))
  refine wpQuiet_nil ?_
  intro _ hw'
  obtain ⟨⟨wq, Bq⟩, hw''⟩ := hw'
  subst hw''
  clear q6 q7 q8 q3 q4 q5
  go_wp2_with fail
  exact bodyPost_ret (v := .tuple #[.int .i64 0, .int .i64 11]) (by simp [results, Try.results8, go_sem]) rfl ⟨rfl, L1.out.new Bq, Blk.kept H1.out Bq⟩
end Go.Proofs.Ytfoonfmhamaclaa
