/- The document's own product, by doubling, is that of whole numbers, kept at its end. -/
import Derived.Test.YtiibabihcehfpaaC
namespace Go.Proofs.Ytiibabihcehfpaa
open Go.ChangeShapes Go.WideShapes Go.ChangeAt Go.RowKit

/-- What holds at each round's head: S of the product's parts are summed up, B is the next one, y of them (below 0) are left. -/
def MulInv (P : Int) (vy vs vb vf vm : Value) : Prop :=
  ∃ (y s b S B : Int) (f m : Bool), vy = .int .i64 y ∧ vs = .int .i64 s ∧ vb = .int .i64 b ∧ vf = .bool f ∧ vm = .bool m ∧
    (-9223372036854775808 ≤ y ∧ y ≤ 0) ∧ (-9223372036854775808 ≤ s ∧ s ≤ 0) ∧ (-9223372036854775808 ≤ b ∧ b ≤ 0) ∧ 0 ≤ S ∧ 1 ≤ B ∧ S + -y * B = P ∧
    (f = false → s = -S) ∧ (f = true → 9223372036854775808 < S) ∧ (m = false → b = -B) ∧ (m = true → 9223372036854775808 < B)

theorem half_even (y S B P : Int) (h : y.tmod 2 = 0) (e : S + -y * B = P) : S + -(y.tdiv 2) * (2 * B) = P := by
  have t := Int.tmod_add_mul_tdiv y 2
  rw [← e, ← Int.mul_assoc, show -(y.tdiv 2) * 2 = -y by omega]
theorem half_odd (y S B P : Int) (hy : y ≤ 0) (h : y.tmod 2 ≠ 0) (e : S + -y * B = P) : S + B + -(y.tdiv 2) * (2 * B) = P := by
  have t := Int.tmod_add_mul_tdiv y 2
  have m := tm_bd y 2 (by decide)
  rw [← e, ← Int.mul_assoc, show -(y.tdiv 2) * 2 = -y - 1 by omega, Int.sub_mul]
  omega
theorem half_bds (y : Int) (h : -9223372036854775808 ≤ y ∧ y ≤ 0) : -4611686018427387904 ≤ y.tdiv 2 ∧ y.tdiv 2 ≤ 0 ∧ (y < 0 → y < y.tdiv 2) := by
  have t := Int.tmod_add_mul_tdiv y 2
  have m := tm_bd y 2 (by decide)
  omega

theorem inv_end {S y B P : Int} (e : S + -y * B = P) (h : y = 0) : S = P := by subst h; simpa using e

/-- One round's end. -/
theorem MulInv.mk {P y s b S B : Int} {f m : Bool} (hy : -9223372036854775808 ≤ y ∧ y ≤ 0) (hs : -9223372036854775808 ≤ s ∧ s ≤ 0) (hb : -9223372036854775808 ≤ b ∧ b ≤ 0) (hS : 0 ≤ S) (hB : 1 ≤ B) (e : S + -y * B = P)
    (f0 : f = false → s = -S) (f1 : f = true → 9223372036854775808 < S) (m0 : m = false → b = -B) (m1 : m = true → 9223372036854775808 < B) :
    MulInv P (.int .i64 y) (.int .i64 s) (.int .i64 b) (.bool f) (.bool m) :=
  ⟨y, s, b, S, B, f, m, rfl, rfl, rfl, rfl, rfl, hy, hs, hb, hS, hB, e, f0, f1, m0, m1⟩

theorem fin_same {S P a b : Int} (F : S = P) (e : P = a * b) : sat64 (- -S) = sat64 (a * b) := by rw [Int.neg_neg, F, e]
theorem fin_plain {S P a b : Int} (F : S = P) (e : P = a * b) : sat64 S = sat64 (a * b) := by rw [F, e]
theorem fin_diff {S P a b : Int} (F : S = P) (e : P = -(a * b)) (h : -9223372036854775808 ≤ -S ∧ -S ≤ 0) : -S = sat64 (a * b) := by
  rw [show a * b = -S by rw [F, e, Int.neg_neg], sat64_mid _ h.1 (by omega)]
theorem fin_hi {S P a b : Int} (F : S = P) (e : P = a * b) (h : 9223372036854775808 < S) : 9223372036854775807 = sat64 (a * b) := by
  rw [← e, ← F, sat64_hi _ (by omega)]
theorem fin_lo {S P a b : Int} (F : S = P) (e : P = -(a * b)) (h : 9223372036854775808 < S) : -9223372036854775808 = sat64 (a * b) := by
  rw [show a * b = -S by rw [F, e, Int.neg_neg], sat64_lo _ (by omega)]

set_option maxHeartbeats 1000000 in
theorem refMul_some (a b : Int) (w : World) (_ha : -9223372036854775808 ≤ a ∧ a ≤ 9223372036854775807) (_hb : -9223372036854775808 ≤ b ∧ b ≤ 9223372036854775807) (za : a < 0 ∨ 0 < a) (zb : b < 0 ∨ 0 < b) :
    Calls Try.prog 18 #[.int .i64 a, .int .i64 b] w fun e w' => e = .returned (.int .i64 (sat64 (a * b))) ∧ w = w' := by
  have ha0 : (a == 0) = false := by simp; omega
  have hb0 : (b == 0) = false := by simp; omega
  have A := absI_bd a _ha
  have B' := absI_bd b _hb
  obtain ⟨same, diff⟩ := mul_abs a b
  rcases za with za | za <;> rcases zb with zb | zb
  all_goals
    have Ea := Lib.hid (show absI a = -a ∧ a < 0 ∨ absI a = a ∧ 0 < a by unfold absI; split <;> omega)
    have Eb := Lib.hid (show absI b = -b ∧ b < 0 ∨ absI b = b ∧ 0 < b by unfold absI; split <;> omega)
    have Sa := Lib.hid same
    have Di := Lib.hid diff
    clear same diff
    try have dA : decide (a < 0) = false := decide_eq_false (by omega)
    try have dB : decide (b < 0) = false := decide_eq_false (by omega)
    go_enter Try.func18, Try.ntmps18
    go_wp2
    go_loop [7, 8, 9, 10, 11] (fun y s x f m => MulInv (absI a * absI b) y s x f m) (fun y _ _ _ _ => (-(intOf y)).toNat)
    case atStart =>
      have ea := Ea.out
      have eb := Eb.out
      exact MulInv.mk (S := 0) (B := absI a) (by omega) (by omega) (by omega) (by omega) (by omega) (by rw [Int.zero_add, Int.mul_comm]; congr 1; omega) (by simp) (by simp) (by intro _; omega) (by simp)
    case round =>
      obtain ⟨y, s, x, S, B, f, m, rfl, rfl, rfl, rfl, rfl, hy, hs, hx, hS, hB, e, hf0, hf1, hm0, hm1⟩ := hrel
      obtain ⟨t0, t1, t2⟩ := half_bds y hy
      have E := Lib.hid e
      clear e A B'
      by_cases hlt : y < 0
      · by_cases ht : y.tmod 2 = 0
        · have T := Lib.hid (half_even y S B _ ht E.out)
          have ht' : (y.tmod 2 != 0) = false := by simpa using ht
          clear ht
          cases m
          · obtain rfl := hm0 rfl
            clear hm0 hm1
            by_cases hB2 : 4611686018427387904 < B
            · go_wp2
              go_round
              case rel => exact MulInv.mk (by omega) hs (by omega) hS (by omega) T.out hf0 hf1 (by simp) (by intro _; omega)
              case measure => simp [intOf]; omega
            · go_wp2
              go_round
              case rel => exact MulInv.mk (by omega) hs (by omega) hS (by omega) T.out hf0 hf1 (by intro _; omega) (by simp)
              case measure => simp [intOf]; omega
          · have hB2 := hm1 rfl
            clear hm0 hm1
            go_wp2
            go_round
            case rel => exact MulInv.mk (by omega) hs (by omega) hS (by omega) T.out hf0 hf1 (by simp) (by intro _; omega)
            case measure => simp [intOf]; omega
        · have T := Lib.hid (half_odd y S B _ hy.2 ht E.out)
          have ht' : (y.tmod 2 != 0) = true := by simpa using ht
          clear ht
          cases m
          · obtain rfl := hm0 rfl
            clear hm0 hm1
            cases f
            · obtain rfl := hf0 rfl
              clear hf0 hf1
              by_cases hS2 : -S < -9223372036854775808 + B
              · have hd : decide (-S < -9223372036854775808 + B) = true := decide_eq_true hS2
                by_cases hB2 : 4611686018427387904 < B
                all_goals
                  go_wp2
                  go_round
                  case rel => exact MulInv.mk (by omega) (by omega) (by omega) (by omega) (by omega) T.out (by simp; try omega) (by simp; try omega) (by simp; try omega) (by simp; try omega)
                  case measure => simp [intOf]; omega
              · have hd : decide (-S < -9223372036854775808 + B) = false := decide_eq_false hS2
                by_cases hB2 : 4611686018427387904 < B
                all_goals
                  go_wp2
                  go_round
                  case rel => exact MulInv.mk (by omega) (by omega) (by omega) (by omega) (by omega) T.out (by simp; try omega) (by simp; try omega) (by simp; try omega) (by simp; try omega)
                  case measure => simp [intOf]; omega
            · have hS2 := hf1 rfl
              clear hf0 hf1
              by_cases hB2 : 4611686018427387904 < B
              all_goals
                go_wp2
                go_round
                case rel => exact MulInv.mk (by omega) (by omega) (by omega) (by omega) (by omega) T.out (by simp; try omega) (by simp; try omega) (by simp; try omega) (by simp; try omega)
                case measure => simp [intOf]; omega
          · have hB2 := hm1 rfl
            clear hm0 hm1
            cases f
            · obtain rfl := hf0 rfl
              clear hf0 hf1
              go_wp2
              go_round
              case rel => exact MulInv.mk (by omega) (by omega) (by omega) (by omega) (by omega) T.out (by simp; try omega) (by simp; try omega) (by simp; try omega) (by simp; try omega)
              case measure => simp [intOf]; omega
            · have hS2 := hf1 rfl
              clear hf0 hf1
              go_wp2
              go_round
              case rel => exact MulInv.mk (by omega) (by omega) (by omega) (by omega) (by omega) T.out (by simp; try omega) (by simp; try omega) (by simp; try omega) (by simp; try omega)
              case measure => simp [intOf]; omega
      · have F := Lib.hid (inv_end E.out (by omega))
        cases f
        · obtain rfl := hf0 rfl
          clear hf0 hf1
          go_wp2_with (go_at_call 13; refine (refNeg_any _ _ (by omega)).mono ?_; rintro e w' ⟨rfl, rfl⟩)
          go_ret
          refine ⟨ret_int ?_, rfl⟩
          first
          | exact fin_plain F.out (Sa.out (by rw [decide_eq_decide]; omega))
          | exact fin_same F.out (Sa.out (by rw [decide_eq_decide]; omega))
          | exact fin_diff F.out (Di.out (by intro h; rw [decide_eq_decide] at h; omega)) hs
        · have hS2 := hf1 rfl
          clear hf0 hf1
          go_wp2_with fail
          go_ret
          refine ⟨ret_int ?_, rfl⟩
          first
          | exact fin_hi F.out (Sa.out (by rw [decide_eq_decide]; omega)) hS2
          | exact fin_lo F.out (Di.out (by intro h; rw [decide_eq_decide] at h; omega)) hS2

theorem refMul_any (a b : Int) (w : World) (_ha : -9223372036854775808 ≤ a ∧ a ≤ 9223372036854775807) (_hb : -9223372036854775808 ≤ b ∧ b ≤ 9223372036854775807) :
    Calls Try.prog 18 #[.int .i64 a, .int .i64 b] w fun e w' => e = .returned (.int .i64 (sat64 (a * b))) ∧ w = w' := by
  by_cases ha : a = 0
  · subst ha
    go_enter Try.func18, Try.ntmps18
    go_wp2_with fail
    go_ret
    exact ⟨ret_int (by rw [Int.zero_mul]; rfl), rfl⟩
  · by_cases hb : b = 0
    · subst hb
      have ha0 : (a == 0) = false := by simpa using ha
      go_enter Try.func18, Try.ntmps18
      go_wp2_with fail
      go_ret
      exact ⟨ret_int (by rw [Int.mul_zero]; rfl), rfl⟩
    · exact refMul_some a b w _ha _hb (by omega) (by omega)
end Go.Proofs.Ytiibabihcehfpaa
