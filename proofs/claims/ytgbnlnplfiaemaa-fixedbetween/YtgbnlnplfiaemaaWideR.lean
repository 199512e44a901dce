/- Roots of wide numbers, in package wide. -/
import Derived.Test.YtgbnlnplfiaemaaWideC
import Derived.Test.YtgbnlnplfiaemaaBitL
import Derived.Deep.RegionHeld3
import Derived.Deep.DeepCutAuto
import Derived.Deep.LoopGhost
import Derived.Deep.Light
namespace Go.Proofs.Ytgbnlnplfiaemaa
open Go.ChangeShapes Go.WideShapes Go.ChangeAt Go.RowKit
set_option linter.unusedVariables false

/-- The bit that is tried when so many are left. -/
def halfP (k : Nat) : Int := if k = 0 then 0 else P2 (k - 1)
theorem halfP_half (j : Nat) : P2 j / 2 = halfP j := by
  unfold halfP
  cases j with
  | zero => decide
  | succ j => rw [if_neg (by omega), P2_succ, Nat.add_sub_cancel, Int.mul_ediv_cancel_left _ (by decide)]

def RootInv (N : Int) (g1 : Nat) (h l : Int) (w : World) (gk : Nat) (vr vb : Value) (wr : World) : Prop :=
  ∃ (k m : Nat) (R : Int), k ≤ 64 ∧ gk = k ∧ vr = .int .u64 R ∧ vb = .int .u64 (halfP k) ∧ R = m * P2 k ∧ R + P2 k ≤ 18446744073709551616 ∧ R * R ≤ N ∧ N < (R + P2 k) * (R + P2 k) ∧ At wr g1 [.int .u64 h, .int .u64 l] ∧ Below w.heap.size w wr

theorem or_bit (m j : Nat) (R : Int) (hR : R = m * P2 (j + 1)) (hb : R + P2 (j + 1) ≤ 18446744073709551616) : bits .or .u64 R (P2 j) = R + P2 j := by
  have p : P2 (j + 1) = ((2 ^ (j + 1) : Nat) : Int) := by unfold P2; push_cast; rfl
  have q : P2 j = ((2 ^ j : Nat) : Int) := by unfold P2; push_cast; rfl
  have e : R = ((m * 2 ^ (j + 1) : Nat) : Int) := by rw [hR, p]; push_cast; rfl
  have lt : 2 ^ j < 2 ^ (j + 1) := Nat.pow_lt_pow_right (by decide) (by omega)
  rw [p, e] at hb
  rw [e, q, bits_or_u64_nat _ _ (by omega) (by omega), or_low m (2 ^ j) (j + 1) lt]
  omega

theorem root_yes {N R : Int} {m j : Nat} (hR : R = m * P2 (j + 1)) (hs : R + P2 (j + 1) ≤ 18446744073709551616) (hu : N < (R + P2 (j + 1)) * (R + P2 (j + 1))) :
    R + P2 j = ((2 * m + 1 : Nat) : Int) * P2 j ∧ R + P2 j + P2 j ≤ 18446744073709551616 ∧ N < (R + P2 j + P2 j) * (R + P2 j + P2 j) := by
  rw [P2_succ] at *
  have e : R + P2 j + P2 j = R + 2 * P2 j := by omega
  refine ⟨?_, by omega, by rw [e]; exact hu⟩
  rw [hR]; push_cast; rw [Int.add_mul, Int.one_mul, Int.mul_assoc, Int.mul_left_comm]
theorem root_no {R : Int} {m j : Nat} (hR : R = m * P2 (j + 1)) (hs : R + P2 (j + 1) ≤ 18446744073709551616) : R = ((2 * m : Nat) : Int) * P2 j ∧ R + P2 j ≤ 18446744073709551616 := by
  have := P2_pos j
  rw [P2_succ] at *
  refine ⟨?_, by omega⟩
  rw [hR]; push_cast; rw [Int.mul_assoc, Int.mul_left_comm]

theorem cmp_le0 (m n : Int) : (cmpI m n ≤ 0) ↔ m ≤ n := by unfold cmpI; split <;> (try split) <;> omega

/-- A root: its square is not above the number, that of one more is. -/
def GivesRoot (N : Int) (w : World) (e : Ending) (w' : World) : Prop := ∃ n : Int, (0 ≤ n ∧ n ≤ 18446744073709551615) ∧ n * n ≤ N ∧ N < (n + 1) * (n + 1) ∧ e = .returned (.int .u64 n) ∧ Below w.heap.size w w'

set_option maxHeartbeats 2000000 in
set_option maxRecDepth 100000 in
theorem wideRoot_any (h l : Int) (w : World) (hh : 0 ≤ h ∧ h ≤ 18446744073709551615) (hl : 0 ≤ l ∧ l ≤ 18446744073709551615) :
    Calls Try.prog 28 #[wv h l] w (GivesRoot (wn h l) w) := by
  go_enter Try.func28, Try.ntmps28
  go_wp2
  go_loopg [3, 4] 64 (fun g vr vb wr => RootInv (wn h l) w.heap.size h l w g vr vb wr)
  case atStart =>
    have p : P2 64 = 18446744073709551616 := by decide
    have n := wn_bd h l hh hl
    refine ⟨64, 0, 0, by omega, rfl, rfl, rfl, by omega, by rw [p]; omega, by omega, by rw [p]; omega, at_new2 rfl, new_alloc (new_refl w) _⟩
  case round =>
    obtain ⟨k, m, R, hk, hg, rfl, rfl, hR, hs, hlo, hhi, A1, hbel⟩ := hrel
    obtain rfl : k = gk := hg.symm
    clear hg
    have R0 : 0 ≤ R := by rw [hR]; exact Int.mul_nonneg (by omega) (Int.le_of_lt (P2_pos k))
    cases k with
    | zero =>
      have e0 : halfP 0 = 0 := rfl
      rw [e0]
      rw [P2_zero] at hs hhi
      have HH := Lib.hid (And.intro hlo hhi)
      clear hlo hhi hR e0
      go_wp2
      go_ret
      exact ⟨R, by omega, HH.out.1, HH.out.2, rfl, hbel⟩
    | succ j =>
      have ob := or_bit m j R hR hs
      have e0 : halfP (j + 1) = P2 j := by unfold halfP; rw [if_neg (by omega), Nat.add_sub_cancel]
      rw [e0]
      have pp := P2_pos j
      have ps := P2_succ j
      have ph := halfP_half j
      have x1 := A1.cell 0 rfl
      have y1 := A1.cell 1 rfl
      have nb : 0 ≤ R + P2 j ∧ R + P2 j ≤ 18446744073709551615 := by omega
      have mb := mul_bd (R + P2 j) (R + P2 j) nb nb
      have b1 := hi_bd ((R + P2 j) * (R + P2 j)) mb.1 (by omega)
      have b2 := lo_bd ((R + P2 j) * (R + P2 j))
      have WN := Lib.hid (wn_halves ((R + P2 j) * (R + P2 j)))
      have K := Lib.hid (And.intro hR (And.intro hs (And.intro hlo hhi)))
      have pb : P2 j ≤ 18446744073709551615 := by omega
      clear hR hs hlo hhi e0 ps mb
      by_cases hc : (R + P2 j) * (R + P2 j) ≤ wn h l
      · have hcm : cmpI ((R + P2 j) * (R + P2 j)) (wn h l) ≤ 0 := (cmp_le0 _ _).2 hc
        go_wp2_with fail
        go_region_held3 (fun w' => w'.cell? ⟨w.heap.size, 0, none⟩ = some (.int .u64 h) ∧ w'.cell? ⟨w.heap.size, 1, none⟩ = some (.int .u64 l)) (first | go_keep | exact two_kept B1 ⟨by assumption, by assumption⟩ | exact two_kept B1 (by assumption) | exact two_kept B2 (by assumption))
          (first
            | (go_at_call 29; refine (wideMul_any _ _ _ (by omega) (by omega)).mono ?_; rintro e w1 ⟨rfl, B1⟩)
            | (go_at_call 48; refine (wideCmp_any _ _ _ _ _ (by omega) (by omega) (by omega) (by omega)).mono ?_; rw [WN.out]; rintro e w2 ⟨rfl, B2⟩))
        all_goals
          go_wp2
          go_roundg j
          case measure => omega
          case rel =>
            have r := root_yes K.out.1 K.out.2.1 K.out.2.2.2
            exact ⟨j, 2 * m + 1, R + P2 j, by omega, rfl, rfl, rfl, r.1, r.2.1, hc, r.2.2, (A1.kept (new_undrew B1)).kept B2, new_then hbel (new_then (new_undrew B1) B2)⟩
      · have hcm : ¬ cmpI ((R + P2 j) * (R + P2 j)) (wn h l) ≤ 0 := by rw [cmp_le0]; exact hc
        go_wp2_with fail
        go_region_held3 (fun w' => w'.cell? ⟨w.heap.size, 0, none⟩ = some (.int .u64 h) ∧ w'.cell? ⟨w.heap.size, 1, none⟩ = some (.int .u64 l)) (first | go_keep | exact two_kept B1 ⟨by assumption, by assumption⟩ | exact two_kept B1 (by assumption) | exact two_kept B2 (by assumption))
          (first
            | (go_at_call 29; refine (wideMul_any _ _ _ (by omega) (by omega)).mono ?_; rintro e w1 ⟨rfl, B1⟩)
            | (go_at_call 48; refine (wideCmp_any _ _ _ _ _ (by omega) (by omega) (by omega) (by omega)).mono ?_; rw [WN.out]; rintro e w2 ⟨rfl, B2⟩))
        all_goals
          go_wp2
          go_roundg j
          case measure => omega
          case rel =>
            have r := root_no K.out.1 K.out.2.1
            exact ⟨j, 2 * m, R, by omega, rfl, rfl, rfl, r.1, r.2, K.out.2.2.1, by omega, (A1.kept (new_undrew B1)).kept B2, new_then hbel (new_then (new_undrew B1) B2)⟩
end Go.Proofs.Ytgbnlnplfiaemaa
