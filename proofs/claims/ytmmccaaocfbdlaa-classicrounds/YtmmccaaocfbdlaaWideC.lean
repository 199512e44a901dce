/- Products by a third number, in package wide, downwards and upwards. -/
import Derived.Test.YtmmccaaocfbdlaaWideB
namespace Go.Proofs.Ytmmccaaocfbdlaa
open Go.ChangeShapes Go.WideShapes Go.ChangeAt Go.RowKit
set_option linter.unusedVariables false

/-- a times b by c, downwards or upwards. -/
def mdQ (a b c : Int) (up : Bool) : Int := a * b / c + (if up = true ∧ 0 < a * b % c then 1 else 0)
/-- The document's MulDiv: the number, and the error. -/
def mdV (a b c : Int) (up : Bool) : Int := if a < 0 ∨ b < 0 ∨ c ≤ 0 then 0 else if 9223372036854775807 < mdQ a b c up then 0 else mdQ a b c up
def mdE (a b c : Int) (up : Bool) : Int := if a < 0 ∨ b < 0 ∨ c ≤ 0 then 1 else if 9223372036854775807 < mdQ a b c up then 8 else 0

theorem quo_bd (a b c : Int) (ha : 0 ≤ a ∧ a ≤ 9223372036854775807) (hb : 0 ≤ b ∧ b ≤ 9223372036854775807) (hc : 0 < c) : 0 ≤ a * b / c ∧ a * b / c ≤ 85070591730234615847396907784232501249 ∧ 0 ≤ a * b % c := by
  have p0 : 0 ≤ a * b := Int.mul_nonneg ha.1 hb.1
  have p1 : a * b ≤ 9223372036854775807 * 9223372036854775807 := Int.mul_le_mul ha.2 hb.2 hb.1 (by omega)
  exact ⟨Int.ediv_nonneg p0 (by omega), Int.le_trans (Int.ediv_le_self c p0) p1, Int.emod_nonneg _ (by omega)⟩


theorem nar_md (a b c q : Int) (up : Bool) (h : ¬ (a < 0 ∨ b < 0 ∨ c ≤ 0)) (hq : q = mdQ a b c up) : narV (hi64 q) (lo64 q) = mdV a b c up ∧ narE (hi64 q) (lo64 q) = mdE a b c up := by
  unfold narV narE mdV mdE
  rw [wn_halves, if_neg h, if_neg h, hq]
  exact ⟨rfl, rfl⟩

theorem mulDiv_any (a b c : Int) (w : World) (ha : -9223372036854775808 ≤ a ∧ a ≤ 9223372036854775807) (hb : -9223372036854775808 ≤ b ∧ b ≤ 9223372036854775807) (hc : -9223372036854775808 ≤ c ∧ c ≤ 9223372036854775807) :
    Calls Try.prog 31 #[.int .i64 a, .int .i64 b, .int .i64 c] w fun e w' => e = .returned (.tuple #[.int .i64 (mdV a b c false), .int .i64 (mdE a b c false)]) ∧ Below w.heap.size w w' := by
  by_cases h : a < 0 ∨ b < 0 ∨ c ≤ 0
  · have V := Lib.hid (show 0 = mdV a b c false by unfold mdV; rw [if_pos h])
    have F := Lib.hid (show 1 = mdE a b c false by unfold mdE; rw [if_pos h])
    go_enter Try.func31, Try.ntmps31
    go_wp2_with (go_at_call 40; refine (quotient_bad _ _ _ _ h).mono ?_; rintro e w1 ⟨rfl, B1⟩; obtain ⟨hc1, hf1, hz1⟩ := behind B1)
    go_ret2
    exact ⟨ret_pair_i V.out F.out, new_alloc B1 _⟩
  · have H := Lib.hid h
    have qb := quo_bd a b c (by omega) (by omega) (by omega)
    have hb1 := hi_bd (a * b / c) qb.1 (by omega)
    have hb2 := lo_bd (a * b / c)
    have T := Lib.hid (nar_md a b c (a * b / c) false h (by simp [mdQ]))
    have c0 : 0 ≤ a := by omega
    have c1 : 0 ≤ b := by omega
    have c2 : 0 < c := by omega
    clear qb h
    go_enter Try.func31, Try.ntmps31
    go_wp2_with (first
      | (go_at_call 40; refine (quotient_ok _ _ _ _ (by omega) (by omega) (by omega)).mono ?_; rintro e w1 ⟨rfl, B1⟩; obtain ⟨hc1, hf1, hz1⟩ := behind B1)
      | (go_at_call 41; refine (narrow_any _ _ _ (by omega) (by omega)).mono ?_; rintro e w2 ⟨rfl, B2⟩))
    go_ret2
    exact ⟨ret_pair_i T.out.1 T.out.2, new_then (new_alloc B1 _) B2⟩

theorem wsum_one (q : Int) (h : 0 ≤ q) (h' : q ≤ 85070591730234615847396907784232501249) : wsum (hi64 q) (lo64 q) 0 1 = q + 1 := by
  unfold wsum
  rw [wn_halves]
  unfold wn
  omega
end Go.Proofs.Ytmmccaaocfbdlaa
