/- The document's own answers of layer 26: Scale, Blend; the chapter's examples. -/
import Derived.Test.YtgbcgnlibnkjpaaPraA
import Derived.Test.YtgbcgnlibnkjpaaFixR
namespace Go.Proofs.Ytgbcgnlibnkjpaa
open Go.ChangeShapes Go.WideShapes Go.ChangeAt Go.RowKit
set_option linter.unusedVariables false

theorem scale26R_any (r t : Int) (w : World) (hr : -9223372036854775808 ≤ r ∧ r ≤ 9223372036854775807) (ht : -9223372036854775808 ≤ t ∧ t ≤ 9223372036854775807) :
    Calls Try.prog 7 #[.int .i64 r, .int .i64 t] w fun e w' => e = .returned (.int .i64 (prS r t)) ∧ Below w.heap.size w w' := by
  by_cases h1 : t ≤ r
  · have R := Lib.hid (prS_one (.inl h1))
    go_enter Try.func7, Try.ntmps7
    go_wp2_with fail
    go_ret
    exact ⟨ret_int R.out.symm, new_refl w⟩
  · by_cases h2 : t ≤ 0
    · have R := Lib.hid (prS_one (r := r) (.inr h2))
      go_enter Try.func7, Try.ntmps7
      go_wp2_with fail
      go_ret
      exact ⟨ret_int R.out.symm, new_refl w⟩
    · have R := Lib.hid (prS_sq h1 h2)
      have RA : Hid (∀ w, Calls Try.prog 17 #[.int .i64 r, .int .i64 t] w fun e w' => e = .returned (.int .i64 (rto r t)) ∧ Below w.heap.size w w') := Lib.hid (fun w => refRatio_any r t w hr ht)
      have bf := rto_bdQ r t
      have bq := (prs_ends (rto r t) (rto r t) bf).1 bf.1
      have bm := (mul_ends (rto r t) (rto r t) bf).1 bf.1
      obtain ⟨X, hX⟩ : ∃ X, rto r t * rto r t = X := ⟨_, rfl⟩
      have hq : X / 1048576 = prs (rto r t) (rto r t) := by rw [← hX]; rfl
      rw [hX] at bm
      generalize prs (rto r t) (rto r t) = Q at *
      generalize rto r t = F at *
      have w1 : IntKind.i64.wrap X = X := by rw [IntKind.wrap_i64]; omega
      have w2 : wrap64 X = X := by unfold wrap64; omega
      have q1 : X.tdiv 1048576 = Q := by rw [Int.tdiv_eq_ediv_of_nonneg (by omega)]; exact hq
      have q2 : IntKind.i64.wrap Q = Q := by rw [IntKind.wrap_i64]; omega
      have q3 : wrap64 Q = Q := by unfold wrap64; omega
      clear bf bq bm
      go_enter Try.func7, Try.ntmps7
      go_wp2_with (go_at_call 17; refine (RA.out _).mono ?_; rintro e w1 ⟨rfl, B1⟩)
      go_ret
      exact ⟨ret_int R.out.symm, B1⟩

theorem blend26R_any (s x : Int) (w : World) : Calls Try.prog 9 #[.int .i64 s, .int .i64 x] w fun e w' => e = .returned (.int .i64 (prB s x)) ∧ Below w.heap.size w w' := by
  have bs := shr_bd s
  have bx := shr_bd x
  have bl := prLo_bd s
  have q1 : (shr s).tdiv 2 = prLo s := Int.tdiv_eq_ediv_of_nonneg bs.1
  have hB := prB_bd s x
  have eB : prLo s + prs (524288 - prLo s) (shr x) = prB s x := rfl
  have SH : Hid (∀ f w, Calls Try.prog 20 #[.int .i64 f] w fun e w' => e = .returned (.int .i64 (shr f)) ∧ w = w') := Lib.hid (fun f w => refShare_any f w)
  generalize prB s x = B at *
  generalize prLo s = L at *
  have d1 : IntKind.i64.wrap L = L := by rw [IntKind.wrap_i64]; omega
  have d2 : wrap64 L = L := by unfold wrap64; omega
  have d3 : IntKind.i64.wrap (524288 - L) = 524288 - L := by rw [IntKind.wrap_i64]; omega
  have d4 : wrap64 (524288 - L) = 524288 - L := by unfold wrap64; omega
  obtain ⟨D, hD⟩ : ∃ D, 524288 - L = D := ⟨_, rfl⟩
  have bd : 0 ≤ D ∧ D ≤ 524288 := by omega
  rw [hD] at d3 d4 eB
  have bm := (mul_ends D (shr x) bx).1 bd.1
  have bq := (prs_ends D (shr x) bx).1 bd.1
  obtain ⟨X, hX⟩ : ∃ X, D * shr x = X := ⟨_, rfl⟩
  have hq : X / 1048576 = prs D (shr x) := by rw [← hX]; rfl
  rw [hX] at bm
  have m1 : IntKind.i64.wrap X = X := by rw [IntKind.wrap_i64]; omega
  have m2 : wrap64 X = X := by unfold wrap64; omega
  have q2 : X.tdiv 1048576 = prs D (shr x) := by rw [Int.tdiv_eq_ediv_of_nonneg (by omega)]; exact hq
  generalize prs D (shr x) = Q at *
  have q3 : IntKind.i64.wrap Q = Q := by rw [IntKind.wrap_i64]; omega
  have q4 : wrap64 Q = Q := by unfold wrap64; omega
  have r1 : IntKind.i64.wrap B = B := by rw [IntKind.wrap_i64]; omega
  have r2 : wrap64 B = B := by unfold wrap64; omega
  clear bs bx bl hB bd bm bq hq
  go_enter Try.func9, Try.ntmps9
  go_wp2_with (go_at_call 20; refine (SH.out _ _).mono ?_; rintro e w' ⟨rfl, rfl⟩)
  go_ret
  exact ⟨rfl, new_refl w⟩

theorem works26_any (w : World) : Calls Try.prog 10 #[] w fun e w' => e = .returned (.bool true) ∧ Below w.heap.size w w' := by
  have SC : Hid (∀ w, Calls Try.prog 6 #[.int .i64 10000, .int .i64 20000] w fun e w' => e = .returned (.int .i64 262144) ∧ Below w.heap.size w w') := Lib.hid (fun w => by
    have h := scale26_any 10000 20000 w (by decide) (by decide)
    rwa [show prS 10000 20000 = 262144 by decide +kernel] at h)
  have BL : Hid (∀ w, Calls Try.prog 8 #[.int .i64 0, .int .i64 1048576] w fun e w' => e = .returned (.int .i64 524288) ∧ Below w.heap.size w w') := Lib.hid (fun w => by
    have h := blend26_any 0 1048576 w
    rwa [show prB 0 1048576 = 524288 by decide +kernel] at h)
  go_enter Try.func10, Try.ntmps10
  go_wp2_with (first
    | (go_at_call 6; refine (SC.out _).mono ?_; rintro e w1 ⟨rfl, B1⟩)
    | (go_at_call 8; refine (BL.out _).mono ?_; rintro e w2 ⟨rfl, B2⟩))
  go_ret
  exact ⟨rfl, new_then B1 B2⟩
end Go.Proofs.Ytgbcgnlibnkjpaa
