/- The document's own answers of layer 22: a timer within its ends, how long it waits, armed. -/
import Derived.Test.YtgennncpdfjfcaaTmrA
namespace Go.Proofs.Ytgennncpdfjfcaa
open Go.ChangeShapes Go.WideShapes Go.ChangeAt Go.RowKit
set_option linter.unusedVariables false

/-- What max and min make of a number. -/
structure TmEnd (lo hi x y : Int) : Prop where
  e1 : (if x < lo then lo else x) = max x lo
  e2 : (if lo < x then x else lo) = max x lo
  e3 : (if max x lo < hi then max x lo else hi) = y
  e4 : (if hi < max x lo then hi else max x lo) = y
theorem tmEnd_is {lo hi x : Int} (h : lo ≤ hi) : TmEnd lo hi x (clampI x lo hi) := by
  unfold clampI
  constructor
  · split <;> omega
  · split <;> omega
  · split <;> split <;> (try split) <;> omega
  · split <;> split <;> (try split) <;> omega
theorem near22_any (n : Int) (w : World) : Calls Try.prog 20 #[.int .i64 n] w fun e w' => e = .returned (.int .i64 (tmNow n)) ∧ w = w' := by
  obtain ⟨e1, e2, e3, e4⟩ : TmEnd 0 1152921504606846976 n (tmNow n) := tmEnd_is (by decide)
  generalize tmNow n = X at *
  generalize max n 0 = Y at *
  go_enter Try.func20, Try.ntmps20
  go_wp2_with fail
  go_ret
  exact ⟨rfl, rfl⟩
theorem within22R_any (c : Tm) (w : World) : Calls Try.prog 6 #[tmG c] w (TmIs w (tmIn c)) := by
  unfold TmIs tmG tmIn
  obtain ⟨a1, a2, a3, a4⟩ : TmEnd 1 1125899906842624 c.b (tmB c) := tmEnd_is (by decide)
  obtain ⟨b1, b2, b3, b4⟩ : TmEnd (tmB c) 1125899906842624 c.m (tmM c) := tmEnd_is (tmB_bd c).2
  obtain ⟨t1, t2, t3, t4⟩ : TmEnd 0 32 c.t (tmT c) := tmEnd_is (by decide)
  generalize tmB c = B at *
  generalize tmM c = M at *
  generalize tmT c = T at *
  generalize max c.b 1 = B1 at *
  generalize max c.m B = M1 at *
  generalize max c.t 0 = T1 at *
  go_enter Try.func6, Try.ntmps6
  go_wp2_with fail
  exact bodyPost_ret (v := .agg #[.int .i64 B, .int .i64 M, .int .i64 T, .int .i64 c.d]) (by simp [results, Try.results6, go_sem]) rfl ⟨rfl, new_alloc (new_alloc (new_refl w) _) _⟩

def TwJ (B M : Int) (T : Nat) (w : World) (gh : Nat) (vn vi : Value) (wr : World) : Prop := ∃ (k : Nat) (n : Int), T - k = gh ∧ vi = .int .i64 (k : Int) ∧ vn = .int .i64 n ∧ TwI B M T k n ∧ w = wr
set_option maxHeartbeats 1000000 in
theorem wait22R_any (c : Tm) (w : World) : Calls Try.prog 8 #[tmG c] w fun e w' => e = .returned (.int .i64 (tmW c)) ∧ Below w.heap.size w w' := by
  have bB := tmB_bd c
  have bM := tmM_bd c
  have bT := tmT_bd c
  have IN : Hid (∀ w, Calls Try.prog 6 #[.agg #[.int .i64 c.b, .int .i64 c.m, .int .i64 c.t, .int .i64 c.d]] w fun e w' => e = .returned (.agg #[.int .i64 (tmB c), .int .i64 (tmM c), .int .i64 (tmT c), .int .i64 c.d]) ∧ Below w.heap.size w w') := Lib.hid (fun w => within22R_any c w)
  have L := Lib.hid (new_alloc (new_refl w) (.cells #[.int .i64 c.b, .int .i64 c.m, .int .i64 c.t, .int .i64 c.d] 23))
  have S := Lib.hid (Blk.new w (tmV c) 23)
  unfold tmG
  obtain ⟨T, eT⟩ : ∃ T : Nat, tmT c = (T : Int) := ⟨(tmT c).toNat, by omega⟩
  have HW : Hid (min (tmB c * 2 ^ T) (tmM c) = tmW c) := Lib.hid (by unfold tmW; rw [eT]; rfl)
  rw [eT] at IN bT
  clear eT
  generalize tmB c = B at *
  generalize tmM c = M at *
  generalize tmW c = W at *
  go_enter Try.func8, Try.ntmps8
  go_upto_region 2 with (first
    | (go_at_call 6; refine (IN.out _).mono ?_; rintro e w1 ⟨rfl, B1⟩
       have K := S.out.kept B1
       have D := Lib.hid (tm_set K ⟨B, M, T, c.d⟩)
       have L2 := Lib.hid (lowT4 (new_then L.out B1) (Nat.le_refl _) (.int .i64 B) (.int .i64 M) (.int .i64 T) (.int .i64 c.d))
       have c0 := K.cell 0 rfl; have c1 := K.cell 1 rfl; have c2 := K.cell 2 rfl; have c3 := K.cell 3 rfl; have f0 := K.frozen 0; have f1 := K.frozen 1; have f2 := K.frozen 2; have f3 := K.frozen 3
       clear K))
  obtain ⟨W2, hW2⟩ : ∃ W2, (((w1.setCell ⟨w.heap.size, 0, none⟩ (.int .i64 B)).setCell ⟨w.heap.size, 1, none⟩ (.int .i64 M)).setCell ⟨w.heap.size, 2, none⟩ (.int .i64 (T : Int))).setCell ⟨w.heap.size, 3, none⟩ (.int .i64 c.d) = W2 := ⟨_, rfl⟩
  rw [hW2] at D L2 ⊢
  clear c0 c1 c2 c3 f0 f1 f2 f3 B1 hW2 IN S
  have d0 := D.out.cell 0 rfl
  have d1 := D.out.cell 1 rfl
  have d2 := D.out.cell 2 rfl
  clear D
  go_wp2_with fail
  go_loopg [3, 4] T (fun gh vn vi wr => TwJ B M T W2 gh vn vi wr)
  case atStart => exact ⟨0, B, rfl, rfl, rfl, twI_start B M T, rfl⟩
  case round =>
    obtain ⟨k, n, rfl, rfl, rfl, I, rfl⟩ := hrel
    have HI := Lib.hid I
    have bn := twI_bd I ⟨bB.1, bM.1⟩
    have hk2 := I.2.1
    clear I
    by_cases hk : k < T
    · have k1 : (k : Int) < (T : Int) := by omega
      by_cases hn : n < M
      · go_wp2_with fail
        go_roundg (T - (k + 1))
        case measure => omega
        case rel => exact ⟨k + 1, n * 2, rfl, by go_num, rfl, twI_next HI.out hk hn, rfl⟩
      · obtain ⟨m1, m2, m3⟩ := min_is ((twI_end HI.out ⟨bB.1, bM.1⟩ (.inr hn)).trans HW.out)
        go_wp2_with fail
        go_ret
        exact ⟨rfl, L2.out⟩
    · obtain ⟨m1, m2, m3⟩ := min_is ((twI_end HI.out ⟨bB.1, bM.1⟩ (.inl hk)).trans HW.out)
      have k1 : ¬ (k : Int) < (T : Int) := by omega
      go_wp2_with fail
      go_ret
      exact ⟨rfl, L2.out⟩
end Go.Proofs.Ytgennncpdfjfcaa
