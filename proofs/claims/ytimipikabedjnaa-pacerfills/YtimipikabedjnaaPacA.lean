/- Package pacer: ends are kept by a closure; a bucket within its ends. -/
import Derived.Test.YtimipikabedjnaaPacM
import Derived.Test.YtimipikabedjnaaMem
import Derived.Test.YtimipikabedjnaaSatC
import Derived.Test.YtimipikabedjnaaQuiB
import Derived.Laws.StructEq
import Derived.StillTailTactics
import Derived.OwnWalk
import Derived.Deep.RegionHeld3
import Derived.Deep.RegionWith
import Derived.Deep.DeepCutAuto
import Derived.Deep.LoopGhost
import Derived.Deep.QuietTactic
import Derived.BigQuiet
import Derived.IntWalk
import Derived.Deep.Light
import Derived.Deep.Onto
namespace Go.Proofs.Ytimipikabedjnaa
open Go.ChangeShapes Go.WideShapes Go.ChangeAt Go.RowKit
set_option linter.unusedVariables false

/-- The closure: its captured cells hold both ends. -/
theorem ends1P_any (x lo hi : Int) (p q : Nat) (w : World) (hp : w.cell? ⟨p, 0, none⟩ = some (.int .i64 lo)) (hq : w.cell? ⟨q, 0, none⟩ = some (.int .i64 hi)) :
    Calls Try.prog 35 #[.int .i64 x, .pointer (some ⟨p, 0, none⟩), .pointer (some ⟨q, 0, none⟩)] w fun e w' => e = .returned (.int .i64 (clampI x lo hi)) ∧ w = w' := by
  go_enter Try.func35, Try.ntmps35
  go_wp2_with (go_at_call 36; refine (satClamp_any _ _ _ _).mono ?_; rintro e w' ⟨rfl, rfl⟩)
  go_ret
  exact ⟨rfl, rfl⟩
def IsEndsP (lo hi : Int) (w : World) (e : Ending) (w' : World) : Prop :=
  ∃ p q, e = .returned (.func (.func 35) #[] #[.pointer (some ⟨p, 0, none⟩), .pointer (some ⟨q, 0, none⟩)]) ∧ w'.cell? ⟨p, 0, none⟩ = some (.int .i64 lo) ∧ w'.cell? ⟨q, 0, none⟩ = some (.int .i64 hi) ∧ Below w.heap.size w w' ∧ w.heap.size ≤ p ∧ w.heap.size ≤ q
theorem endsP_any (lo hi : Int) (w : World) : Calls Try.prog 26 #[.int .i64 lo, .int .i64 hi] w (IsEndsP lo hi w) := by
  go_enter Try.func26, Try.ntmps26
  go_wp2_with fail
  go_ret
  exact ⟨_, _, rfl, ((At.new w [.int .i64 lo] _).alloc _).cell 0 rfl, (At.newAt (by simp) [.int .i64 hi] _).cell 0 rfl, new_alloc (new_alloc (new_refl w) _) _, Nat.le_refl _, Nat.le_succ _⟩
theorem rated23_any (x : Int) (w : World) : Calls Try.prog 28 #[.int .i64 x] w fun e w' => e = .returned (.int .i64 (pcE x)) ∧ Below w.heap.size w w' := by
  go_enter Try.func28, Try.ntmps28
  go_wp2_with (first
    | (go_at_call 26; refine (endsP_any _ _ _).mono ?_; rintro e w1 ⟨p, q, rfl, hp, hq, B, lp, lq⟩)
    | (go_at_call 35; refine (ends1P_any _ _ _ p q _ hp hq).mono ?_; rintro e w' ⟨rfl, rfl⟩))
  go_ret
  exact ⟨rfl, B⟩
theorem counted23_any (x : Int) (w : World) : Calls Try.prog 19 #[.int .i64 x] w fun e w' => e = .returned (.int .i64 (pcN x)) ∧ Below w.heap.size w w' := by
  go_enter Try.func19, Try.ntmps19
  go_wp2_with (first
    | (go_at_call 26; refine (endsP_any _ _ _).mono ?_; rintro e w1 ⟨p, q, rfl, hp, hq, B, lp, lq⟩)
    | (go_at_call 35; refine (ends1P_any _ _ _ p q _ hp hq).mono ?_; rintro e w' ⟨rfl, rfl⟩))
  go_ret
  exact ⟨rfl, B⟩

abbrev pcV (c : Pc) : List Value := [.int .i64 c.r, .int .i64 c.u, .int .i64 c.l, .int .i64 c.a]
abbrev pcG' (c : Pc) : Value := .agg #[.int .i64 c.r, .int .i64 c.u, .int .i64 c.l, .int .i64 c.a]
def PcIs (w : World) (c : Pc) (e : Ending) (w' : World) : Prop := e = .returned (pcG' c) ∧ Below w.heap.size w w'

theorem full23_any (r u l a : Int) (w : World) (hu : 1 ≤ u ∧ u ≤ 1099511627776) : Calls Try.prog 23 #[.agg #[.int .i64 r, .int .i64 u, .int .i64 l, .int .i64 a]] w fun e w' => e = .returned (.int .i64 (u * 1000000)) ∧ Below w.heap.size w w' := by
  have L := Lib.hid (new_alloc (new_refl w) (.cells #[.int .i64 r, .int .i64 u, .int .i64 l, .int .i64 a] 23))
  have hs := sat64_mid (u * 1000000) (by omega) (by omega)
  go_enter Try.func23, Try.ntmps23
  go_wp2_with (go_at_call 20; refine (satMul_any _ _ _ (by omega) (by omega)).mono ?_; rintro e w' ⟨rfl, rfl⟩)
  go_ret
  exact ⟨rfl, L.out⟩
theorem taken23_any (r u l a s : Int) (w : World) (hu : 1 ≤ u ∧ u ≤ 1099511627776) : Calls Try.prog 24 #[.agg #[.int .i64 r, .int .i64 u, .int .i64 l, .int .i64 a], .int .i64 s] w fun e w' => e = .returned (.int .i64 (clampI s 0 u * 1000000)) ∧ Below w.heap.size w w' := by
  have L := Lib.hid (new_alloc (new_refl w) (.cells #[.int .i64 r, .int .i64 u, .int .i64 l, .int .i64 a] 23))
  have b := clampP_bd s (show 0 ≤ u by omega)
  have HS := Lib.hid (sat64_mid (clampI s 0 u * 1000000) (by omega) (by omega))
  obtain ⟨z, hz⟩ : ∃ z, clampI s 0 u = z := ⟨_, rfl⟩
  have HZ := Lib.hid hz
  rw [hz] at HS b ⊢
  clear hz
  go_enter Try.func24, Try.ntmps24
  go_wp2_with (first
    | (go_at_call 26; refine (endsP_any _ _ _).mono ?_; rintro e w1 ⟨p, q, rfl, hp, hq, B, lp, lq⟩)
    | (go_at_call 35; refine (ends1P_any _ _ _ p q _ hp hq).mono ?_; rintro e w' ⟨rfl, rfl⟩; rw [HZ.out])
    | (go_at_call 20; refine (satMul_any _ _ _ (by omega) (by omega)).mono ?_; rintro e w' ⟨rfl, rfl⟩))
  go_ret
  exact ⟨by rw [HS.out]; rfl, new_then L.out B⟩
theorem divP_any (a b : Int) (w : World) (ha : -9223372036854775808 ≤ a ∧ a ≤ 9223372036854775807) (hb : 0 < b ∧ b ≤ 9223372036854775807) :
    Calls Try.prog 27 #[.int .i64 a, .int .i64 b] w fun e w' => e = .returned (.int .i64 (a / b)) ∧ Below w.heap.size w w' := by
  have e : fdv a b = a / b := by
    obtain ⟨h, h1, h2⟩ := fdv_fmd a b ha hb.1
    exact ((Int.ediv_emod_unique hb.1).2 ⟨by rw [Int.mul_comm]; omega, h1, h2⟩).1.symm
  rw [← e]
  exact (satDiv_any a b w ha (by omega)).mono fun _ _ ⟨h, n, hn⟩ => ⟨h, by rw [hn]; exact new_draw (new_refl w) n⟩
theorem upwards23_any (m r : Int) (w : World) (hm : -4611686018427387904 ≤ m ∧ m ≤ 4611686018427387904) (hr : 0 < r ∧ r ≤ 1099511627776) :
    Calls Try.prog 25 #[.int .i64 m, .int .i64 r] w fun e w' => e = .returned (.int .i64 (pcUp m r)) ∧ Below w.heap.size w w' := by
  have b := pcUp_bd (m := m) (r := r) (X := 4611686018427387904) hr.1 hm
  have HU : Hid (sat64 (-(-m / r)) = pcUp m r) := Lib.hid (sat64_mid _ (by unfold pcUp at b; omega) (by unfold pcUp at b; omega))
  have DV : Hid (∀ w, Calls Try.prog 27 #[.int .i64 (-m), .int .i64 r] w fun e w' => e = .returned (.int .i64 (-m / r)) ∧ Below w.heap.size w w') := Lib.hid (fun w => divP_any (-m) r w (by omega) (by omega))
  have N1 : Hid (∀ w, Calls Try.prog 34 #[.int .i64 m] w fun e w' => e = .returned (.int .i64 (-m)) ∧ w = w') := Lib.hid (fun w => by
    have h := satNeg_any m w (by omega)
    rwa [sat64_mid _ (by omega) (by omega)] at h)
  have N2 : Hid (∀ w, Calls Try.prog 34 #[.int .i64 (-m / r)] w fun e w' => e = .returned (.int .i64 (pcUp m r)) ∧ w = w') := Lib.hid (fun w => by
    have h := satNeg_any (-m / r) w (by unfold pcUp at b; omega)
    rwa [HU.out] at h)
  obtain ⟨q, hq⟩ : ∃ q, -m / r = q := ⟨_, rfl⟩
  rw [hq] at DV N2
  generalize pcUp m r = U at *
  clear hq HU b
  go_enter Try.func25, Try.ntmps25
  go_wp2_with (first
    | (go_at_call_of 34 (Value.int .i64 m); refine (N1.out _).mono ?_; rintro e w' ⟨rfl, rfl⟩)
    | (go_at_call 27; refine (DV.out _).mono ?_; rintro e w2 ⟨rfl, B2⟩)
    | (go_at_call_of 34 (Value.int .i64 q); refine (N2.out _).mono ?_; rintro e w' ⟨rfl, rfl⟩))
  go_ret
  exact ⟨rfl, B2⟩
end Go.Proofs.Ytimipikabedjnaa
