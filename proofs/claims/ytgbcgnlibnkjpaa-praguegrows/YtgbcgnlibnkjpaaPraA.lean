/- Package prague: Scale, halved, between, Blend, Grow, Reduce. -/
import Derived.Test.YtgbcgnlibnkjpaaPraM
import Derived.Test.YtgbcgnlibnkjpaaRenG
import Derived.Test.YtgbcgnlibnkjpaaFixA
import Derived.Test.YtgbcgnlibnkjpaaFixB
namespace Go.Proofs.Ytgbcgnlibnkjpaa
open Go.ChangeShapes Go.WideShapes Go.ChangeAt Go.RowKit
set_option linter.unusedVariables false

/-- The closure: its captured cells hold both ends. -/
theorem ends1Q_any (x lo hi : Int) (p q : Nat) (w : World) (hp : w.cell? ⟨p, 0, none⟩ = some (.int .i64 lo)) (hq : w.cell? ⟨q, 0, none⟩ = some (.int .i64 hi)) :
    Calls Try.prog 51 #[.int .i64 x, .pointer (some ⟨p, 0, none⟩), .pointer (some ⟨q, 0, none⟩)] w fun e w' => e = .returned (.int .i64 (clampI x lo hi)) ∧ w = w' := by
  go_enter Try.func51, Try.ntmps51
  go_wp2_with (go_at_call 34; refine (satClamp_any _ _ _ _).mono ?_; rintro e w' ⟨rfl, rfl⟩)
  go_ret
  exact ⟨rfl, rfl⟩
def IsEndsQ (lo hi : Int) (w : World) (e : Ending) (w' : World) : Prop :=
  ∃ p q, e = .returned (.func (.func 51) #[] #[.pointer (some ⟨p, 0, none⟩), .pointer (some ⟨q, 0, none⟩)]) ∧ w'.cell? ⟨p, 0, none⟩ = some (.int .i64 lo) ∧ w'.cell? ⟨q, 0, none⟩ = some (.int .i64 hi) ∧ Below w.heap.size w w' ∧ w.heap.size ≤ p ∧ w.heap.size ≤ q
theorem endsQ_any (lo hi : Int) (w : World) : Calls Try.prog 32 #[.int .i64 lo, .int .i64 hi] w (IsEndsQ lo hi w) := by
  go_enter Try.func32, Try.ntmps32
  go_wp2_with fail
  go_ret
  exact ⟨_, _, rfl, ((At.new w [.int .i64 lo] _).alloc _).cell 0 rfl, (At.newAt (by simp) [.int .i64 hi] _).cell 0 rfl, new_alloc (new_alloc (new_refl w) _) _, Nat.le_refl _, Nat.le_succ _⟩

/-- The closure of what lies between two numbers. -/
theorem between1_any (f lo hi : Int) (p q : Nat) (w : World) (h0 : 0 ≤ lo ∧ lo ≤ hi ∧ hi ≤ 1048576) (hp : w.cell? ⟨p, 0, none⟩ = some (.int .i64 lo)) (hq : w.cell? ⟨q, 0, none⟩ = some (.int .i64 hi)) :
    Calls Try.prog 29 #[.int .i64 f, .pointer (some ⟨p, 0, none⟩), .pointer (some ⟨q, 0, none⟩)] w fun e w' => e = .returned (.int .i64 (lo + prs (hi - lo) (shr f))) ∧ Below w.heap.size w w' := by
  have hd := (prs_ends (hi - lo) (shr f) (shr_bd f)).1 (by omega)
  have SU : Hid (∀ w, Calls Try.prog 31 #[.int .i64 hi, .int .i64 lo] w fun e w' => e = .returned (.int .i64 (hi - lo)) ∧ w = w') := Lib.hid (fun w => by
    have h := satSub_any hi lo w (by omega) (by omega)
    rwa [sat64_mid _ (by omega) (by omega)] at h)
  have PA : Hid (∀ w, Calls Try.prog 27 #[.int .i64 (hi - lo), .int .i64 f] w fun e w' => e = .returned (.int .i64 (prs (hi - lo) (shr f))) ∧ Below w.heap.size w w') := Lib.hid (fun w => part_any (hi - lo) f w (by omega))
  have AD : Hid (∀ w, Calls Try.prog 30 #[.int .i64 lo, .int .i64 (prs (hi - lo) (shr f))] w fun e w' => e = .returned (.int .i64 (lo + prs (hi - lo) (shr f))) ∧ w = w') := Lib.hid (fun w => by
    have h := satAdd_any lo (prs (hi - lo) (shr f)) w (by omega) (by omega)
    rwa [sat64_mid _ (by omega) (by omega)] at h)
  clear hd h0
  generalize lo + prs (hi - lo) (shr f) = B at *
  generalize prs (hi - lo) (shr f) = P at *
  generalize hi - lo = D at *
  go_enter Try.func29, Try.ntmps29
  go_upto_region 1 with fail
  have e0 := cell_by hp
  have e1 := cell_by hq
  refine wp_region_quiet_below (by kernel_rfl) (by kernel_rfl) ?_
  repeat (go_big_quiet_step (first
    | (go_at_call 31; refine calls_by_same (SU.out _))
    | (go_at_call 27; refine calls_by (PA.out _))
    | (go_at_call 30; refine calls_by_same (AD.out _))))
  refine wpQuiet_nil ?_
  intro wq hw'
  obtain ⟨⟨wr, Bq⟩, hw''⟩ := hw'
  subst hw''
  clear e0 e1
  go_wp2_with fail
  go_ret
  exact ⟨rfl, Bq⟩
def IsBetween (lo hi : Int) (w : World) (e : Ending) (w' : World) : Prop :=
  ∃ p q, e = .returned (.func (.func 29) #[] #[.pointer (some ⟨p, 0, none⟩), .pointer (some ⟨q, 0, none⟩)]) ∧ w'.cell? ⟨p, 0, none⟩ = some (.int .i64 lo) ∧ w'.cell? ⟨q, 0, none⟩ = some (.int .i64 hi) ∧ Below w.heap.size w w' ∧ w.heap.size ≤ p ∧ w.heap.size ≤ q
theorem between_any (lo hi : Int) (w : World) : Calls Try.prog 18 #[.int .i64 lo, .int .i64 hi] w (IsBetween lo hi w) := by
  go_enter Try.func18, Try.ntmps18
  go_wp2_with fail
  go_ret
  exact ⟨_, _, rfl, ((At.new w [.int .i64 lo] _).alloc _).cell 0 rfl, (At.newAt (by simp) [.int .i64 hi] _).cell 0 rfl, new_alloc (new_alloc (new_refl w) _) _, Nat.le_refl _, Nat.le_succ _⟩

theorem halved_any (s : Int) (w : World) : Calls Try.prog 19 #[.int .i64 s] w fun e w' => e = .returned (.int .i64 (prLo s)) ∧ Below w.heap.size w w' := by
  have b := shr_bd s
  have ES : Hid (clampI s 0 1048576 = shr s) := Lib.hid (clamp_shr s)
  have HA : Hid (∀ w, Calls Try.prog 33 #[.int .i64 (shr s), .int .i64 1] w fun e w' => e = .returned (.int .i64 (prLo s)) ∧ Below w.heap.size w w') := Lib.hid (fun w => by
    have h := halve_any (shr s) 1 w (by omega) (by omega)
    rwa [hlv_oneQ] at h)
  clear b
  generalize prLo s = L at *
  generalize shr s = R at *
  go_enter Try.func19, Try.ntmps19
  go_wp2_with (first
    | (go_at_call 32; refine (endsQ_any _ _ _).mono ?_; rintro e w1 ⟨p, q, rfl, hp, hq, B1, lp, lq⟩)
    | (go_at_call 51; refine (ends1Q_any _ _ _ p q _ hp hq).mono ?_; rintro e w2 ⟨rfl, rfl⟩; rw [ES.out])
    | (go_at_call 33; refine (HA.out _).mono ?_; rintro e w3 ⟨rfl, B3⟩))
  go_ret
  exact ⟨rfl, new_then B1 B3⟩

theorem blend26_any (s x : Int) (w : World) : Calls Try.prog 8 #[.int .i64 s, .int .i64 x] w fun e w' => e = .returned (.int .i64 (prB s x)) ∧ Below w.heap.size w w' := by
  have b := prLo_bd s
  have HA : Hid (∀ w, Calls Try.prog 19 #[.int .i64 s] w fun e w' => e = .returned (.int .i64 (prLo s)) ∧ Below w.heap.size w w') := Lib.hid (fun w => halved_any s w)
  have BE : Hid (∀ w p q, w.cell? ⟨p, 0, none⟩ = some (.int .i64 (prLo s)) → w.cell? ⟨q, 0, none⟩ = some (.int .i64 524288) → Calls Try.prog 29 #[.int .i64 x, .pointer (some ⟨p, 0, none⟩), .pointer (some ⟨q, 0, none⟩)] w fun e w' => e = .returned (.int .i64 (prB s x)) ∧ Below w.heap.size w w') :=
    Lib.hid (fun w p q hp hq => between1_any x (prLo s) 524288 p q w (by omega) hp hq)
  clear b
  generalize prB s x = B at *
  generalize prLo s = L at *
  go_enter Try.func8, Try.ntmps8
  go_wp2_with (first
    | (go_at_call 19; refine (HA.out _).mono ?_; rintro e w1 ⟨rfl, B1⟩)
    | (go_at_call 18; refine (between_any _ _ _).mono ?_; rintro e w2 ⟨p, q, rfl, hp, hq, B2, lp, lq⟩)
    | (go_at_call 29; refine (BE.out _ p q hp hq).mono ?_; rintro e w3 ⟨rfl, B3⟩))
  go_ret
  exact ⟨rfl, new_then (new_then B1 B2) B3⟩

theorem scale26_any (r t : Int) (w : World) (hr : -9223372036854775808 ≤ r ∧ r ≤ 9223372036854775807) (ht : -9223372036854775808 ≤ t ∧ t ≤ 9223372036854775807) :
    Calls Try.prog 6 #[.int .i64 r, .int .i64 t] w fun e w' => e = .returned (.int .i64 (prS r t)) ∧ Below w.heap.size w w' := by
  by_cases h1 : t ≤ r
  · have R := Lib.hid (prS_one (.inl h1))
    go_enter Try.func6, Try.ntmps6
    go_wp2_with fail
    go_ret
    exact ⟨ret_int R.out.symm, new_refl w⟩
  · by_cases h2 : t ≤ 0
    · have R := Lib.hid (prS_one (r := r) (.inr h2))
      go_enter Try.func6, Try.ntmps6
      go_wp2_with fail
      go_ret
      exact ⟨ret_int R.out.symm, new_refl w⟩
    · have R := Lib.hid (prS_sq h1 h2)
      have RA : Hid (∀ w, Calls Try.prog 15 #[.int .i64 r, .int .i64 t] w fun e w' => e = .returned (.int .i64 (rto r t)) ∧ Below w.heap.size w w') := Lib.hid (fun w => ratio_any r t w hr ht)
      have MU : Hid (∀ w, Calls Try.prog 16 #[.int .i64 (rto r t), .int .i64 (rto r t)] w fun e w' => e = .returned (.int .i64 (prs (rto r t) (rto r t))) ∧ Below w.heap.size w w') := Lib.hid (fun w => by
        have h := fmul_any (rto r t) (rto r t) w
        rwa [shr_same _ (rto_bdQ r t)] at h)
      generalize prs (rto r t) (rto r t) = Q at *
      generalize rto r t = F at *
      go_enter Try.func6, Try.ntmps6
      go_wp2_with (first
        | (go_at_call 15; refine (RA.out _).mono ?_; rintro e w1 ⟨rfl, B1⟩)
        | (go_at_call 16; refine (MU.out _).mono ?_; rintro e w2 ⟨rfl, B2⟩))
      go_ret
      exact ⟨ret_int R.out.symm, new_then B1 B2⟩
end Go.Proofs.Ytgbcgnlibnkjpaa
