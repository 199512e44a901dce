/- Plain facts of layer 22: timers, how long they wait. -/
import Derived.Test.YtgennncpdfjfcaaSatE
namespace Go.Proofs.Ytgennncpdfjfcaa
open Go.ChangeShapes Go.WideShapes Go.ChangeAt Go.RowKit

/-- A timer: base, most, tries, due. -/
structure Tm where
  b : Int
  m : Int
  t : Int
  d : Int
  deriving DecidableEq
def tmB (c : Tm) : Int := clampI c.b 1 1125899906842624
def tmM (c : Tm) : Int := clampI c.m (tmB c) 1125899906842624
def tmT (c : Tm) : Int := clampI c.t 0 32
def tmIn (c : Tm) : Tm := ⟨tmB c, tmM c, tmT c, c.d⟩
def tmNow (n : Int) : Int := clampI n 0 1152921504606846976
def tmW (c : Tm) : Int := min (tmB c * 2 ^ (tmT c).toNat) (tmM c)
def tmArm (c : Tm) (n : Int) : Tm := ⟨tmB c, tmM c, tmT c, tmNow n + tmW c⟩
def tmGoes (c : Tm) (n : Int) : Bool := !(decide (c.d < 0) || decide (tmNow n < c.d))
def tmFire (c : Tm) (n : Int) : Tm := if tmGoes c n then tmArm ⟨tmB c, tmM c, tmT c + 1, c.d⟩ n else tmIn c

theorem tmB_bd (c : Tm) : 1 ≤ tmB c ∧ tmB c ≤ 1125899906842624 := by unfold tmB clampI; split <;> (try split) <;> omega
theorem tmM_bd (c : Tm) : tmB c ≤ tmM c ∧ tmM c ≤ 1125899906842624 := by have := tmB_bd c; unfold tmM clampI; split <;> (try split) <;> omega
theorem tmT_bd (c : Tm) : 0 ≤ tmT c ∧ tmT c ≤ 32 := by unfold tmT clampI; split <;> (try split) <;> omega
theorem tmNow_bd (n : Int) : 0 ≤ tmNow n ∧ tmNow n ≤ 1152921504606846976 := by unfold tmNow clampI; split <;> (try split) <;> omega
theorem clampI_in {x lo hi : Int} (h : lo ≤ x) (h' : x ≤ hi) : clampI x lo hi = x := by
  unfold clampI; rw [if_neg (by omega), if_neg (by omega)]
theorem tmIn_in (c : Tm) : tmIn (tmIn c) = tmIn c := by
  have b := tmB_bd c
  have m := tmM_bd c
  have t := tmT_bd c
  have e1 : tmB (tmIn c) = tmB c := clampI_in b.1 b.2
  have e2 : tmM (tmIn c) = tmM c := by
    unfold tmM
    rw [e1]
    exact clampI_in m.1 m.2
  have e3 : tmT (tmIn c) = tmT c := clampI_in t.1 t.2
  unfold tmIn at *
  rw [e1, e2, e3]
theorem tmB_in (c : Tm) : tmB (tmIn c) = tmB c := congrArg Tm.b (tmIn_in c)
theorem tmM_in (c : Tm) : tmM (tmIn c) = tmM c := congrArg Tm.m (tmIn_in c)
theorem tmT_in (c : Tm) : tmT (tmIn c) = tmT c := congrArg Tm.t (tmIn_in c)
theorem tmW_in (c : Tm) : tmW (tmIn c) = tmW c := by unfold tmW; rw [tmB_in, tmM_in, tmT_in]
theorem pow_one_le (k : Nat) : (1 : Int) ≤ 2 ^ k := by
  induction k with
  | zero => decide
  | succ k ih => rw [Int.pow_succ]; omega
theorem pow_mono {j k : Nat} (h : j ≤ k) : (2 : Int) ^ j ≤ 2 ^ k := by
  obtain ⟨d, rfl⟩ : ∃ d, k = j + d := ⟨k - j, by omega⟩
  induction d with
  | zero => exact Int.le_refl _
  | succ d ih =>
    have := ih (by omega)
    have p := pow_one_le (j + d)
    rw [show j + (d + 1) = (j + d) + 1 by omega, Int.pow_succ]; omega
theorem tmP_bd (c : Tm) : 1 ≤ (2 : Int) ^ (tmT c).toNat ∧ (2 : Int) ^ (tmT c).toNat ≤ 4294967296 := by
  have t := tmT_bd c
  exact ⟨pow_one_le _, pow_mono (j := (tmT c).toNat) (k := 32) (by omega)⟩
theorem tmBP_bd (c : Tm) : tmB c ≤ tmB c * 2 ^ (tmT c).toNat := by
  have b := tmB_bd c
  have p := tmP_bd c
  have := Int.mul_le_mul_of_nonneg_left p.1 (show 0 ≤ tmB c by omega)
  omega
theorem tmW_bd (c : Tm) : tmB c ≤ tmW c ∧ tmW c ≤ tmM c := by
  have := tmBP_bd c
  have := tmM_bd c
  unfold tmW; omega
/-- What the product is at its end, and at most the most. -/
theorem tmW_sat (c : Tm) : min (sat64 (tmB c * 2 ^ (tmT c).toNat)) (tmM c) = tmW c := by
  have := tmBP_bd c
  have b := tmB_bd c
  have m := tmM_bd c
  unfold tmW
  generalize tmB c * 2 ^ (tmT c).toNat = X at *
  unfold sat64
  split <;> (try split) <;> omega
/-- It never falls as the tries rise. -/
theorem tmW_rises {c e : Tm} (hb : tmB c = tmB e) (hm : tmM c = tmM e) (h : tmT c ≤ tmT e) : tmW c ≤ tmW e := by
  have b := tmB_bd e
  have p := pow_mono (j := (tmT c).toNat) (k := (tmT e).toNat) (by omega)
  have := Int.mul_le_mul_of_nonneg_left p (show 0 ≤ tmB e by omega)
  unfold tmW
  rw [hb, hm]; omega
/-- The doubling loop: behind k rounds. -/
def TwI (B M : Int) (T k : Nat) (n : Int) : Prop := n = B * 2 ^ k ∧ k ≤ T ∧ (k = 0 ∨ n ≤ 2 * M)
theorem twI_start (B M : Int) (T : Nat) : TwI B M T 0 B := ⟨by simp, Nat.zero_le _, .inl rfl⟩
theorem twI_next {B M n : Int} {T k : Nat} (h : TwI B M T k n) (hk : k < T) (hn : n < M) : TwI B M T (k + 1) (n * 2) :=
  ⟨by rw [h.1, Int.pow_succ, Int.mul_assoc], hk, .inr (by omega)⟩
theorem twI_bd {B M n : Int} {T k : Nat} (h : TwI B M T k n) (hB : 1 ≤ B ∧ B ≤ M) : 1 ≤ n ∧ n ≤ 2 * M := by
  obtain ⟨h1, _, h3⟩ := h
  have p := pow_one_le k
  have := Int.mul_le_mul_of_nonneg_left p (show 0 ≤ B by omega)
  refine ⟨by omega, ?_⟩
  rcases h3 with rfl | h3
  · simp at h1; omega
  · exact h3
theorem twI_end {B M n : Int} {T k : Nat} (h : TwI B M T k n) (hB : 1 ≤ B ∧ B ≤ M) (he : ¬ k < T ∨ ¬ n < M) : min n M = min (B * 2 ^ T) M := by
  obtain ⟨h1, h2, _⟩ := h
  rcases he with he | he
  · obtain rfl : k = T := by omega
    rw [h1]
  · have p := pow_mono h2
    have := Int.mul_le_mul_of_nonneg_left p (show 0 ≤ B by omega)
    omega

/-- Behind one going off at its own time. -/
theorem tmFire_own {c : Tm} (hi : tmIn c = c) (hd : 0 ≤ c.d ∧ c.d ≤ 1152921504606846976) :
    tmGoes c c.d = true ∧ tmFire c c.d = ⟨c.b, c.m, min (c.t + 1) 32, c.d + tmW (tmFire c c.d)⟩ ∧ tmW c ≤ tmW (tmFire c c.d) ∧ tmIn (tmFire c c.d) = tmFire c c.d := by
  have en : tmNow c.d = c.d := clampI_in hd.1 hd.2
  have g : tmGoes c c.d = true := by unfold tmGoes; rw [en]; simp; omega
  have eb : tmB c = c.b := congrArg Tm.b hi
  have em : tmM c = c.m := congrArg Tm.m hi
  have et : tmT c = c.t := congrArg Tm.t hi
  have b := tmB_bd c
  have m := tmM_bd c
  have t := tmT_bd c
  rw [eb] at b m
  rw [em] at m
  rw [et] at t
  have ef : tmFire c c.d = tmArm ⟨c.b, c.m, c.t + 1, c.d⟩ c.d := by unfold tmFire; rw [if_pos g, eb, em, et]
  have f1 : tmB ⟨c.b, c.m, c.t + 1, c.d⟩ = c.b := clampI_in b.1 b.2
  have f2 : tmM ⟨c.b, c.m, c.t + 1, c.d⟩ = c.m := by unfold tmM; rw [f1]; exact clampI_in m.1 m.2
  have f3 : tmT ⟨c.b, c.m, c.t + 1, c.d⟩ = min (c.t + 1) 32 := by unfold tmT clampI; dsimp only; split <;> (try split) <;> omega
  have ea : tmFire c c.d = ⟨c.b, c.m, min (c.t + 1) 32, c.d + tmW ⟨c.b, c.m, c.t + 1, c.d⟩⟩ := by
    rw [ef]; unfold tmArm; rw [f1, f2, f3, en]
  have ei : tmIn (tmFire c c.d) = tmFire c c.d := by
    have := tmIn_in ⟨c.b, c.m, c.t + 1, c.d + tmW ⟨c.b, c.m, c.t + 1, c.d⟩⟩
    have h : tmIn ⟨c.b, c.m, c.t + 1, c.d + tmW ⟨c.b, c.m, c.t + 1, c.d⟩⟩ = tmFire c c.d := by
      rw [ea]; unfold tmIn; exact congr (congr (congr (congrArg Tm.mk f1) f2) f3) rfl
    rwa [h] at this
  have i1 : tmB (tmFire c c.d) = c.b := (congrArg Tm.b ei : tmB _ = _).trans (by rw [ea])
  have i2 : tmM (tmFire c c.d) = c.m := (congrArg Tm.m ei : tmM _ = _).trans (by rw [ea])
  have i3 : tmT (tmFire c c.d) = min (c.t + 1) 32 := (congrArg Tm.t ei : tmT _ = _).trans (by rw [ea])
  have ew : tmW (tmFire c c.d) = tmW ⟨c.b, c.m, c.t + 1, c.d⟩ := by
    unfold tmW
    rw [f1, f2, f3, i1, i2, i3]
  refine ⟨g, by rw [ew]; exact ea, ?_, ei⟩
  refine tmW_rises ?_ ?_ ?_
  · rw [eb, i1]
  · rw [em, i2]
  · rw [et, i3]; omega
theorem tmGoes_early {c : Tm} (hd : 0 < c.d ∧ c.d ≤ 1152921504606846976) : tmGoes c (c.d - 1) = false := by
  have en : tmNow (c.d - 1) = c.d - 1 := clampI_in (by omega) (by omega)
  unfold tmGoes; rw [en]; simp; omega
end Go.Proofs.Ytgennncpdfjfcaa
