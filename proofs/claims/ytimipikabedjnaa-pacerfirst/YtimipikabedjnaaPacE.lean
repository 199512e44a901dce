/- The document's own answers of layer 23: a bucket within its ends, filled; how much a size takes; the rate. -/
import Derived.Test.YtimipikabedjnaaPacD
namespace Go.Proofs.Ytimipikabedjnaa
open Go.ChangeShapes Go.WideShapes Go.ChangeAt Go.RowKit
set_option linter.unusedVariables false

/-- What max and min make of a number. -/
structure PcEnd (lo hi x y : Int) : Prop where
  e1 : (if x < lo then lo else x) = max x lo
  e2 : (if lo < x then x else lo) = max x lo
  e3 : (if max x lo < hi then max x lo else hi) = y
  e4 : (if hi < max x lo then hi else max x lo) = y
theorem pcEnd_is {lo hi x : Int} (h : lo ≤ hi) : PcEnd lo hi x (clampI x lo hi) := by
  unfold clampI
  constructor
  · split <;> omega
  · split <;> omega
  · split <;> split <;> (try split) <;> omega
  · split <;> split <;> (try split) <;> omega
theorem keep23_any (x : Int) (w : World) : Calls Try.prog 29 #[.int .i64 x] w fun e w' => e = .returned (.int .i64 (pcE x)) ∧ w = w' := by
  obtain ⟨e1, e2, e3, e4⟩ : PcEnd 1 1099511627776 x (pcE x) := pcEnd_is (by decide)
  generalize pcE x = X at *
  generalize max x 1 = Y at *
  go_enter Try.func29, Try.ntmps29
  go_wp2_with fail
  go_ret
  exact ⟨rfl, rfl⟩
set_option maxHeartbeats 1000000 in
theorem within23R_any (c : Pc) (w : World) : Calls Try.prog 16 #[pcG' c] w (PcIs w (pcIn c)) := by
  unfold PcIs pcG' pcIn
  have bu := pcE_bd c.u
  obtain ⟨a1, a2, a3, a4⟩ : PcEnd 1 1099511627776 c.r (pcE c.r) := pcEnd_is (by decide)
  obtain ⟨b1, b2, b3, b4⟩ : PcEnd 1 1099511627776 c.u (pcE c.u) := pcEnd_is (by decide)
  obtain ⟨l1, l2, l3, l4⟩ : PcEnd (-2305843009213693952) (pcF c.u) c.l (pcL c) := pcEnd_is (by have := pcF_bd c.u; omega)
  obtain ⟨t1, t2, t3, t4⟩ : PcEnd 0 1125899906842624 c.a (pcN c.a) := pcEnd_is (by decide)
  have hF : pcE c.u * 1000000 = pcF c.u := rfl
  generalize pcE c.r = R at *
  generalize pcE c.u = U at *
  generalize pcF c.u = F at *
  generalize pcL c = L at *
  generalize pcN c.a = A at *
  generalize max c.r 1 = R1 at *
  generalize max c.u 1 = U1 at *
  generalize max c.l (-2305843009213693952) = L1 at *
  generalize max c.a 0 = A1 at *
  go_enter Try.func16, Try.ntmps16
  go_wp2_with fail
  exact bodyPost_ret (v := .agg #[.int .i64 R, .int .i64 U, .int .i64 L, .int .i64 A]) (by simp [results, Try.results16, go_sem]) rfl ⟨rfl, new_alloc (new_alloc (new_refl w) _) _⟩
theorem need23_any (r u l a s : Int) (w : World) (hu : 1 ≤ u ∧ u ≤ 1099511627776) : Calls Try.prog 17 #[.agg #[.int .i64 r, .int .i64 u, .int .i64 l, .int .i64 a], .int .i64 s] w fun e w' => e = .returned (.int .i64 (clampI s 0 u * 1000000)) ∧ Below w.heap.size w w' := by
  have LO := Lib.hid (new_alloc (new_refl w) (.cells #[.int .i64 r, .int .i64 u, .int .i64 l, .int .i64 a] 23))
  have b := clampP_bd s (show 0 ≤ u by omega)
  obtain ⟨a1, a2, a3, a4⟩ : PcEnd 0 u s (clampI s 0 u) := pcEnd_is (by omega)
  generalize clampI s 0 u = Z at *
  generalize max s 0 = S1 at *
  go_enter Try.func17, Try.ntmps17
  go_wp2_with fail
  go_ret
  exact ⟨rfl, LO.out⟩

theorem rate23R_any (cw sr ga : Int) (w : World) : Calls Try.prog 15 #[.int .i64 cw, .int .i64 sr, .int .i64 ga] w fun e w' => e = .returned (.int .i64 (pcRate cw sr ga)) ∧ w = w' := by
  have b1 := pcQ_bd cw sr
  have b2 := pcG_bd ga
  have b3 : 0 ≤ pcC cw ∧ pcC cw ≤ 1073741824 := clampP_bd cw (by decide)
  have b4 : 1 ≤ pcS sr ∧ pcS sr ≤ 1125899906842624 := clampP_bd sr (by decide)
  have b5 := pcRate_bd cw sr ga
  have b6 := pcRate_parts cw sr ga
  obtain ⟨c1, c2, c3, c4⟩ : PcEnd 0 1073741824 cw (pcC cw) := pcEnd_is (by decide)
  obtain ⟨s1, s2, s3, s4⟩ : PcEnd 1 1125899906842624 sr (pcS sr) := pcEnd_is (by decide)
  obtain ⟨g1, g2, g3, g4⟩ : PcEnd 0 16777216 ga (pcG ga) := pcEnd_is (by decide)
  have q1 : (pcC cw * 1000000).tdiv (pcS sr) = pcQ cw sr := Int.tdiv_eq_ediv_of_nonneg (by omega)
  have q2 : (pcQ cw sr).tdiv 1048576 = pcQ cw sr / 1048576 := Int.tdiv_eq_ediv_of_nonneg b1.1
  have q3 : (pcQ cw sr).tmod 1048576 = pcQ cw sr % 1048576 := Int.tmod_eq_emod_of_nonneg b1.1
  have q4 : (pcQ cw sr % 1048576 * pcG ga).tdiv 1048576 = pcQ cw sr % 1048576 * pcG ga / 1048576 := Int.tdiv_eq_ediv_of_nonneg b5.2.1
  have KP : Hid (∀ w, Calls Try.prog 29 #[.int .i64 (pcQ cw sr * pcG ga / 1048576)] w fun e w' => e = .returned (.int .i64 (pcRate cw sr ga)) ∧ w = w') := Lib.hid (fun w => keep23_any _ w)
  rw [← b6] at KP
  have HS : -9223372036854775808 ≤ pcQ cw sr / 1048576 * pcG ga + pcQ cw sr % 1048576 * pcG ga / 1048576 ∧ pcQ cw sr / 1048576 * pcG ga + pcQ cw sr % 1048576 * pcG ga / 1048576 ≤ 9223372036854775807 := by omega
  have HB : 0 ≤ pcQ cw sr / 1048576 ∧ pcQ cw sr / 1048576 ≤ 1073741824000000 := by omega
  have HM : 0 ≤ pcQ cw sr % 1048576 ∧ pcQ cw sr % 1048576 ≤ 1048576 := by omega
  have HX3 : 0 ≤ pcQ cw sr % 1048576 * pcG ga / 1048576 ∧ pcQ cw sr % 1048576 * pcG ga / 1048576 ≤ 17592186044416 := by omega
  clear b6
  generalize pcQ cw sr % 1048576 * pcG ga / 1048576 = X3 at *
  obtain ⟨X1, hX1⟩ : ∃ X1, pcQ cw sr / 1048576 * pcG ga = X1 := ⟨_, rfl⟩
  obtain ⟨X2, hX2⟩ : ∃ X2, pcQ cw sr % 1048576 * pcG ga = X2 := ⟨_, rfl⟩
  rw [hX2] at q4 b5
  rw [hX1] at KP HS b5
  generalize pcQ cw sr / 1048576 = Q1 at *
  generalize pcQ cw sr % 1048576 = Q2 at *
  generalize pcQ cw sr = Q at *
  generalize pcC cw = C at *
  generalize pcS sr = S at *
  generalize pcG ga = G at *
  generalize pcRate cw sr ga = Z at *
  generalize max cw 0 = cw1 at *
  generalize max sr 1 = sr1 at *
  generalize max ga 0 = ga1 at *
  have n0 : ¬ S = 0 := by omega
  go_enter Try.func15, Try.ntmps15
  go_wp2_with (go_at_call 29; refine (KP.out _).mono ?_; rintro e w' ⟨rfl, rfl⟩)
  go_ret
  exact ⟨rfl, rfl⟩
end Go.Proofs.Ytimipikabedjnaa
