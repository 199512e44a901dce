/- The library's quotient of 128 bits by 64. -/
import Derived.Test.YtmmccaaocfbdlaaBitsE
namespace Go.Proofs.Ytmmccaaocfbdlaa
open Go.ChangeShapes Go.WideShapes Go.ChangeAt Go.RowKit
set_option linter.unusedVariables false

/-- What stands at the head of a correction: a guess, and so many rounds at most. -/
def GuessAt (u v y1 y0 : Int) (g : Nat) (vq vr : Value) : Prop := ∃ q r : Int, vq = .int .u64 q ∧ vr = .int .u64 r ∧ Guess u v y1 y0 q r ∧ g = q.toNat
/-- What stands behind it: the quotient. -/
def QuoAt (u v y1 y0 : Int) (vq : Value) : Prop := vq = .int .u64 ((4294967296 * u + v) / (4294967296 * y1 + y0))

theorem guess_at_next {u v y1 y0 q r : Int} (hv : 0 ≤ v ∧ v < 4294967296) (hy : 2147483648 ≤ y1 ∧ y1 < 4294967296) (h0 : 0 ≤ y0 ∧ y0 < 4294967296) (hu0 : 0 ≤ u) (hu : u < 4294967296 * y1 + y0)
    (g : Guess u v y1 y0 q r) (h : 4294967296 ≤ q ∨ 4294967296 * r + v < q * y0) (hr : r + y1 < 4294967296) : GuessAt u v y1 y0 (q - 1).toNat (.int .u64 (q - 1)) (.int .u64 (r + y1)) := by
  obtain ⟨a, b, c, d⟩ := guess_next u v y1 y0 q r hv hy h0 hu0 hu g h
  obtain ⟨_, e, _⟩ := g
  exact ⟨q - 1, r + y1, rfl, rfl, ⟨a, by omega, hr, by omega, c, d⟩, rfl⟩
theorem quo_at_break {u v y1 y0 q r : Int} (hv : 0 ≤ v ∧ v < 4294967296) (hy : 2147483648 ≤ y1 ∧ y1 < 4294967296) (h0 : 0 ≤ y0 ∧ y0 < 4294967296) (hu0 : 0 ≤ u) (hu : u < 4294967296 * y1 + y0)
    (g : Guess u v y1 y0 q r) (h : 4294967296 ≤ q ∨ 4294967296 * r + v < q * y0) (hr : 4294967296 ≤ r + y1) : QuoAt u v y1 y0 (.int .u64 (q - 1)) := by
  obtain ⟨a, b, c, d⟩ := guess_next u v y1 y0 q r hv hy h0 hu0 hu g h
  unfold QuoAt
  rw [guess_break u v y1 y0 (q - 1) (r + y1) hv.1 hy.1 h0 ⟨a, b⟩ hr c d]
theorem quo_at_last {u v y1 y0 q r : Int} (hy : 2147483648 ≤ y1) (h0 : 0 ≤ y0) (g : Guess u v y1 y0 q r) (h : q * y0 ≤ 4294967296 * r + v) : QuoAt u v y1 y0 (.int .u64 q) := by
  unfold QuoAt
  rw [guess_last u v y1 y0 q r hy h0 g h]
theorem guess_pos {q r v y0 : Int} (hr : 0 ≤ r) (hv : 0 ≤ v) (h : 4294967296 * r + v < q * y0) (hq : 0 ≤ q) : 1 ≤ q := by
  rcases Int.lt_or_le q 1 with h1 | h1
  · obtain rfl : q = 0 := by omega
    simp at h; omega
  · exact h1

set_option maxRecDepth 100000 in
theorem div64_some (h l y : Int) (w : World) (hh : 0 < h ∧ h < y) (hl : 0 ≤ l ∧ l ≤ 18446744073709551615) (hy : y ≤ 18446744073709551615) :
    Calls Try.prog 46 #[.int .u64 h, .int .u64 l, .int .u64 y] w fun e w' => e = .returned (.tuple #[.int .u64 ((18446744073709551616 * h + l) / y), .int .u64 ((18446744073709551616 * h + l) % y)]) ∧ w = w' := by
  have h0 : (y == 0) = false := by simp; omega
  have h1 : (h == 0) = false := by simp; omega
  obtain ⟨s0, s1, s2, s3⟩ := lz_spec y (by omega) (by omega)
  obtain ⟨U, L, eU, eL, u0, u1, l0, l1, eN⟩ := shifted h l y (lz y) s0 (by omega) hl s2
  obtain ⟨Y, eY⟩ : ∃ Y, y * 2 ^ lz y = Y := ⟨_, rfl⟩
  rw [eY] at s1 s2 u1
  have my := mask32 Y (by omega)
  have ml := mask32 L (by omega)
  have g1 := guess_first U (L / 4294967296) (Y / 4294967296) (Y % 4294967296) (by omega) (by omega) (by omega) (by omega) (by omega)
  obtain ⟨Q, eQ⟩ : ∃ Q, U / (Y / 4294967296) = Q := ⟨_, rfl⟩
  rw [eQ] at g1
  have eQ' : U.tdiv (Y / 4294967296) = Q := by rw [Int.tdiv_eq_ediv_of_nonneg u0]; exact eQ
  obtain ⟨R, eR⟩ : ∃ R, U - Q * (Y / 4294967296) = R := ⟨_, rfl⟩
  rw [eR] at g1
  have gb := guess_bds _ _ _ _ _ _ g1
  have eP : Q * (Y / 4294967296) = U - R := by omega
  have eRU : 0 ≤ Q * (Y / 4294967296) := Int.mul_nonneg gb.1 (by omega)
  have rU : R ≤ U := by omega
  have eM : U - (U - R) = R := by omega
  clear eRU
  have G1 := Lib.hid g1
  have EN := Lib.hid eN
  clear s3 eN g1 eR
  go_enter Try.func46, Try.ntmps46
  go_upto_block 0 with (go_at_call 48; refine (lz64_any _ _ (by omega) (by omega)).mono ?_; rintro e w' ⟨rfl, rfl⟩)
  go_cut [15, 16] (fun q r wx => w = wx ∧ QuoAt U (L / 4294967296) (Y / 4294967296) (Y % 4294967296) q ∧ ∃ rr : Int, r = .int .u64 rr)
  case first =>
    clear eQ eQ' eP eM gb rU
    go_wp2_with fail
    go_loopg [15, 16] Q.toNat (fun g q r wx => w = wx ∧ GuessAt U (L / 4294967296) (Y / 4294967296) (Y % 4294967296) g q r)
    case atStart => exact ⟨rfl, Q, R, rfl, rfl, G1.out, rfl⟩
    case round =>
      obtain ⟨rfl, q, r, rfl, rfl, G, rfl⟩ := hrel
      have gb := guess_bds _ _ _ _ _ _ G
      have GG := Lib.hid G
      clear G
      by_cases c1 : 4294967296 ≤ q
      · by_cases c2 : 4294967296 ≤ r + Y / 4294967296
        · go_wp2
          go_meet
          case rel => exact ⟨rfl, quo_at_break (by omega) (by omega) (by omega) (by omega) (by omega) GG.out (.inl c1) c2, _, rfl⟩
        · go_wp2
          go_roundg (q - 1).toNat
          case measure => omega
          case rel => exact ⟨rfl, guess_at_next (by omega) (by omega) (by omega) (by omega) (by omega) GG.out (.inl c1) (by omega)⟩
      · have pb := half_bd q (Y % 4294967296) (by omega) (by omega)
        by_cases c3 : 4294967296 * r + L / 4294967296 < q * (Y % 4294967296)
        · have q1 : 1 ≤ q := guess_pos (by omega) (by omega) c3 (by omega)
          by_cases c2 : 4294967296 ≤ r + Y / 4294967296
          · go_wp2
            go_meet
            case rel => exact ⟨rfl, quo_at_break (by omega) (by omega) (by omega) (by omega) (by omega) GG.out (.inr c3) c2, _, rfl⟩
          · go_wp2
            go_roundg (q - 1).toNat
            case measure => omega
            case rel => exact ⟨rfl, guess_at_next (by omega) (by omega) (by omega) (by omega) (by omega) GG.out (.inr c3) (by omega)⟩
        · go_wp2
          go_meet
          case rel => exact ⟨rfl, quo_at_last (by omega) (by omega) GG.out (by omega), _, rfl⟩
  case rest =>
    obtain ⟨rfl, hq, rr, rfl⟩ := hcut
    clear eQ eQ' eP eM gb rU
    have eY1 : 4294967296 * (Y / 4294967296) + Y % 4294967296 = Y := by omega
    unfold QuoAt at hq
    rw [eY1] at hq
    subst hq
    obtain ⟨Q1, hQ1⟩ : ∃ q, (4294967296 * U + L / 4294967296) / Y = q := ⟨_, rfl⟩
    rw [hQ1]
    have b1 : 0 ≤ Q1 ∧ Q1 < 4294967296 := ⟨by rw [← hQ1]; exact Int.ediv_nonneg (by omega) (by omega), by rw [← hQ1]; exact Int.ediv_lt_of_lt_mul (by omega) (by omega)⟩
    obtain ⟨R1, hR1⟩ : ∃ r, 4294967296 * U + L / 4294967296 - Q1 * Y = r := ⟨_, rfl⟩
    have r1 : 0 ≤ R1 ∧ R1 < Y := by
      have e := Int.mul_ediv_add_emod (4294967296 * U + L / 4294967296) Y
      have m0 := Int.emod_nonneg (4294967296 * U + L / 4294967296) (b := Y) (by omega)
      have m1 := Int.emod_lt_of_pos (4294967296 * U + L / 4294967296) (b := Y) (by omega)
      rw [hQ1, Int.mul_comm Y] at e
      omega
    have w1 : IntKind.u64.wrap (IntKind.u64.wrap (IntKind.u64.wrap (U * 4294967296) + L / 4294967296) - IntKind.u64.wrap (Q1 * Y)) = R1 := by
      rw [← hR1]; simp only [IntKind.wrap_u64]; omega
    have H1 := Lib.hid hQ1
    have H2 := Lib.hid hR1
    clear hQ1 hR1 eY1
    have g2 := guess_first R1 (L % 4294967296) (Y / 4294967296) (Y % 4294967296) (by omega) (by omega) (by omega) (by omega) (by omega)
    obtain ⟨Q, eQ⟩ : ∃ Q, R1 / (Y / 4294967296) = Q := ⟨_, rfl⟩
    rw [eQ] at g2
    have eQ' : R1.tdiv (Y / 4294967296) = Q := by rw [Int.tdiv_eq_ediv_of_nonneg r1.1]; exact eQ
    obtain ⟨R, eR⟩ : ∃ R, R1 - Q * (Y / 4294967296) = R := ⟨_, rfl⟩
    rw [eR] at g2
    have gb := guess_bds _ _ _ _ _ _ g2
    have eP : Q * (Y / 4294967296) = R1 - R := by omega
    have eRU : 0 ≤ Q * (Y / 4294967296) := Int.mul_nonneg gb.1 (by omega)
    have rU : R ≤ R1 := by omega
    have eM : R1 - (R1 - R) = R := by omega
    have G2 := Lib.hid g2
    clear g2 eR eRU
    go_upto_block 2 with (fail)
    go_cut [18, 16] (fun q r wx => w = wx ∧ QuoAt R1 (L % 4294967296) (Y / 4294967296) (Y % 4294967296) q ∧ ∃ rr : Int, r = .int .u64 rr)
    case first =>
      clear eQ eQ' eP eM gb rU w1
      go_wp2_with fail
      go_loopg [18, 16] Q.toNat (fun g q r wx => w = wx ∧ GuessAt R1 (L % 4294967296) (Y / 4294967296) (Y % 4294967296) g q r)
      case atStart => exact ⟨rfl, Q, R, rfl, rfl, G2.out, rfl⟩
      case round =>
        obtain ⟨rfl, q, r, rfl, rfl, G, rfl⟩ := hrel
        have gb := guess_bds _ _ _ _ _ _ G
        have GG := Lib.hid G
        clear G
        by_cases c1 : 4294967296 ≤ q
        · by_cases c2 : 4294967296 ≤ r + Y / 4294967296
          · go_wp2
            go_meet
            case rel => exact ⟨rfl, quo_at_break (by omega) (by omega) (by omega) (by omega) (by omega) GG.out (.inl c1) c2, _, rfl⟩
          · go_wp2
            go_roundg (q - 1).toNat
            case measure => omega
            case rel => exact ⟨rfl, guess_at_next (by omega) (by omega) (by omega) (by omega) (by omega) GG.out (.inl c1) (by omega)⟩
        · have pb := half_bd q (Y % 4294967296) (by omega) (by omega)
          by_cases c3 : 4294967296 * r + L % 4294967296 < q * (Y % 4294967296)
          · have q1 : 1 ≤ q := guess_pos (by omega) (by omega) c3 (by omega)
            by_cases c2 : 4294967296 ≤ r + Y / 4294967296
            · go_wp2
              go_meet
              case rel => exact ⟨rfl, quo_at_break (by omega) (by omega) (by omega) (by omega) (by omega) GG.out (.inr c3) c2, _, rfl⟩
            · go_wp2
              go_roundg (q - 1).toNat
              case measure => omega
              case rel => exact ⟨rfl, guess_at_next (by omega) (by omega) (by omega) (by omega) (by omega) GG.out (.inr c3) (by omega)⟩
          · go_wp2
            go_meet
            case rel => exact ⟨rfl, quo_at_last (by omega) (by omega) GG.out (by omega), _, rfl⟩
    case rest =>
      obtain ⟨rfl, hq, rr, rfl⟩ := hcut
      clear eQ eQ' eP eM gb rU w1
      have eY1 : 4294967296 * (Y / 4294967296) + Y % 4294967296 = Y := by omega
      unfold QuoAt at hq
      rw [eY1] at hq
      subst hq
      obtain ⟨Q0, hQ0⟩ : ∃ q, (4294967296 * R1 + L % 4294967296) / Y = q := ⟨_, rfl⟩
      rw [hQ0]
      have b0 : 0 ≤ Q0 ∧ Q0 < 4294967296 := ⟨by rw [← hQ0]; exact Int.ediv_nonneg (by omega) (by omega), by rw [← hQ0]; exact Int.ediv_lt_of_lt_mul (by omega) (by omega)⟩
      obtain ⟨D, hD⟩ : ∃ r, 4294967296 * R1 + L % 4294967296 - Q0 * Y = r := ⟨_, rfl⟩
      have d1 : 0 ≤ D ∧ D < Y := by
        have e := Int.mul_ediv_add_emod (4294967296 * R1 + L % 4294967296) Y
        have m0 := Int.emod_nonneg (4294967296 * R1 + L % 4294967296) (b := Y) (by omega)
        have m1 := Int.emod_lt_of_pos (4294967296 * R1 + L % 4294967296) (b := Y) (by omega)
        rw [hQ0, Int.mul_comm Y] at e
        omega
      have w2 : IntKind.u64.wrap (IntKind.u64.wrap (IntKind.u64.wrap (R1 * 4294967296) + L % 4294967296) - IntKind.u64.wrap (Q0 * Y)) = D := by
        rw [← hD]; simp only [IntKind.wrap_u64]; omega
      have B := Lib.hid (both_steps (18446744073709551616 * h + l) y U L Y (lz y) (by omega) eY ⟨l0, l1⟩ EN.out Q1 Q0 R1 H1.out H2.out hQ0)
      rw [hD] at B
      clear hQ0 hD eY1
      go_wp2
      go_ret2
      exact ⟨ret_pair B.out.1.symm B.out.2.symm, rfl⟩

theorem div64_any (h l y : Int) (w : World) (hh : 0 ≤ h ∧ h < y) (hl : 0 ≤ l ∧ l ≤ 18446744073709551615) (hy : y ≤ 18446744073709551615) :
    Calls Try.prog 46 #[.int .u64 h, .int .u64 l, .int .u64 y] w fun e w' => e = .returned (.tuple #[.int .u64 ((18446744073709551616 * h + l) / y), .int .u64 ((18446744073709551616 * h + l) % y)]) ∧ ∃ n, w' = w.drewN n := by
  by_cases h1 : 0 < h
  · exact (div64_some h l y w ⟨h1, hh.2⟩ hl hy).mono fun _ _ ⟨a, b⟩ => ⟨a, 0, b.symm⟩
  · obtain rfl : h = 0 := by omega
    have h0 : (y == 0) = false := by simp; omega
    have q0 : 0 ≤ l / y := Int.ediv_nonneg hl.1 (by omega)
    have q1 : l / y ≤ 18446744073709551615 := Int.le_trans (Int.ediv_le_self y hl.1) hl.2
    have m0 : 0 ≤ l % y := Int.emod_nonneg l (by omega)
    have m1 : l % y < y := Int.emod_lt_of_pos l (by omega)
    go_enter Try.func46, Try.ntmps46
    go_wp2_with fail
    go_quiet (fail)
    go_wp2_with fail
    go_ret2
    exact ⟨ret_pair (by simp) (by simp), _, rfl⟩
end Go.Proofs.Ytmmccaaocfbdlaa
