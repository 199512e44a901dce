/- Quotients of wide numbers, in package wide. -/
import Derived.Test.YtmmccaaocfbdlaaWideA
import Derived.Test.YtmmccaaocfbdlaaBitsF
namespace Go.Proofs.Ytmmccaaocfbdlaa
open Go.ChangeShapes Go.WideShapes Go.ChangeAt Go.RowKit
set_option linter.unusedVariables false

theorem quo_halves (a b d : Int) (ha : 0 ≤ a) (hb : 0 ≤ b ∧ b ≤ 18446744073709551615) (hd : 0 < d) :
    a / d = hi64 (wn a b / d) ∧ (18446744073709551616 * (a % d) + b) / d = lo64 (wn a b / d) ∧ (18446744073709551616 * (a % d) + b) % d = wn a b % d := by
  have e := Int.mul_ediv_add_emod a d
  have m0 : 0 ≤ a % d := Int.emod_nonneg a (by omega)
  have m1 : a % d < d := Int.emod_lt_of_pos a hd
  have n : wn a b = 18446744073709551616 * (a % d) + b + d * (18446744073709551616 * (a / d)) := by
    unfold wn; rw [Int.mul_left_comm]; omega
  have x0 : 0 ≤ (18446744073709551616 * (a % d) + b) / d := Int.ediv_nonneg (by omega) (by omega)
  have x1 : (18446744073709551616 * (a % d) + b) / d < 18446744073709551616 := Int.ediv_lt_of_lt_mul hd (by omega)
  rw [n, Int.add_mul_ediv_left _ _ (by omega), Int.add_mul_emod_self_left]
  unfold hi64 lo64
  refine ⟨by omega, by omega, rfl⟩

theorem ret_quo {a b c d p q : Int} (h : a = b) (h' : c = d) (h'' : p = q) : Ending.returned (.tuple #[wv a c, .int .u64 p]) = .returned (.tuple #[wv b d, .int .u64 q]) := by rw [h, h', h'']

theorem wideDiv_zero (a b : Int) (w : World) :
    Calls Try.prog 43 #[wv a b, .int .u64 0] w fun e w' => e = .returned (.tuple #[wv 0 0, .int .u64 0]) ∧ Below w.heap.size w w' := by
  go_enter Try.func43, Try.ntmps43
  go_wp2_with fail
  exact bodyPost_ret (v := .tuple #[wv 0 0, .int .u64 0]) (by simp [results, Try.results43, go_sem]) rfl ⟨rfl, ((Below.refl _ _).alloc (Nat.le_refl _) _).alloc (by simp) _⟩

theorem wideDiv_any (a b d : Int) (w : World) (ha : 0 ≤ a ∧ a ≤ 18446744073709551615) (hb : 0 ≤ b ∧ b ≤ 18446744073709551615) (hd : 0 < d ∧ d ≤ 18446744073709551615) :
    Calls Try.prog 43 #[wv a b, .int .u64 d] w fun e w' => e = .returned (.tuple #[wv (hi64 (wn a b / d)) (lo64 (wn a b / d)), .int .u64 (wn a b % d)]) ∧ Below w.heap.size w w' := by
  have h0 : (d == 0) = false := by simp; omega
  have q0 : 0 ≤ a / d := Int.ediv_nonneg ha.1 (by omega)
  have q1 : a / d ≤ 18446744073709551615 := Int.le_trans (Int.ediv_le_self d ha.1) ha.2
  have m0 : 0 ≤ a % d := Int.emod_nonneg a (by omega)
  have m1 : a % d < d := Int.emod_lt_of_pos a hd.1
  have T := Lib.hid (quo_halves a b d ha.1 hb hd.1)
  go_enter Try.func43, Try.ntmps43
  go_wp2_with fail
  go_quiet ((go_at_call 46; exact Calls.quiet_of (div64_any _ _ _ _ (by omega) (by omega) (by omega))))
  go_wp2_with fail
  refine bodyPost_ret (v := .tuple #[wv _ _, .int .u64 _]) (by simp [results, Try.results43, go_sem]) rfl ⟨ret_quo T.out.1 T.out.2.1 T.out.2.2, ?_⟩
  exact new_set (new_set (new_draw (new_alloc (new_alloc (new_refl w) _) _) nq) (by simp) _) (by simp) _

theorem quotient_bad (a b c : Int) (w : World) (h : a < 0 ∨ b < 0 ∨ c ≤ 0) :
    Calls Try.prog 40 #[.int .i64 a, .int .i64 b, .int .i64 c] w fun e w' => e = .returned (.tuple #[wv 0 0, .int .u64 0, .int .i64 1]) ∧ Below w.heap.size w w' := by
  by_cases h1 : a < 0 <;> by_cases h2 : b < 0 <;> by_cases h3 : c ≤ 0
  all_goals first
    | omega
    | (go_enter Try.func40, Try.ntmps40
       go_wp2_with fail
       exact bodyPost_ret (v := .tuple #[wv 0 0, .int .u64 0, .int .i64 1]) (by simp [results, Try.results40, go_sem]) rfl ⟨rfl, (Below.refl _ _).alloc (Nat.le_refl _) _⟩)

theorem quotient_ok (a b c : Int) (w : World) (ha : 0 ≤ a ∧ a ≤ 9223372036854775807) (hb : 0 ≤ b ∧ b ≤ 9223372036854775807) (hc : 0 < c ∧ c ≤ 9223372036854775807) :
    Calls Try.prog 40 #[.int .i64 a, .int .i64 b, .int .i64 c] w fun e w' => e = .returned (.tuple #[wv (hi64 (a * b / c)) (lo64 (a * b / c)), .int .u64 (a * b % c), .int .i64 0]) ∧ Below w.heap.size w w' := by
  have pb := mul_bd a b (by omega) (by omega)
  have hb1 := hi_bd (a * b) pb.1 (by omega)
  have hb2 := lo_bd (a * b)
  have E := Lib.hid (wn_halves (a * b))
  clear pb
  go_enter Try.func40, Try.ntmps40
  go_wp2_with (first
    | (go_at_call 44; refine (wideMul_any _ _ _ (by omega) (by omega)).mono ?_; rintro e w1 ⟨rfl, B1⟩; obtain ⟨hc1, hf1, hz1⟩ := behind B1; have hz1' : w.heap.size < w1.heap.size := by (simp at hz1; omega))
    | (go_at_call 43; refine (wideDiv_any _ _ _ _ (by omega) (by omega) (by omega)).mono ?_; rintro e w2 ⟨rfl, B2⟩; rw [E.out]; obtain ⟨hc2, hf2, hz2⟩ := behind B2; have hz2' : w.heap.size < w2.heap.size := by omega))
  refine bodyPost_ret (v := .tuple #[wv _ _, .int .u64 _, .int .i64 0]) (by simp [results, Try.results40, go_sem, hc1, hc2, hz1', hz2']) rfl ⟨rfl, ?_⟩
  exact new_alloc (new_set (new_set (new_then (new_then (new_alloc (new_refl w) _) B1) B2) (by simp) _) (by simp) _) _

/-- A wide number, made an int64 if it fits: the number, and the error. -/
def narV (h l : Int) : Int := if 9223372036854775807 < wn h l then 0 else wn h l
def narE (h l : Int) : Int := if 9223372036854775807 < wn h l then 8 else 0

theorem cmp_gt (m n : Int) : (0 < cmpI m n) ↔ n < m := by unfold cmpI; split <;> (try split) <;> omega

theorem narrow_any (a b : Int) (w : World) (ha : 0 ≤ a ∧ a ≤ 18446744073709551615) (hb : 0 ≤ b ∧ b ≤ 18446744073709551615) :
    Calls Try.prog 41 #[wv a b] w fun e w' => e = .returned (.tuple #[.int .i64 (narV a b), .int .i64 (narE a b)]) ∧ Below w.heap.size w w' := by
  have E := Lib.hid (show wn 0 9223372036854775807 = 9223372036854775807 from by unfold wn; omega)
  by_cases h : 9223372036854775807 < wn a b
  · have hp : 0 < cmpI (wn a b) (wn 0 9223372036854775807) := by rw [cmp_gt, E.out]; exact h
    have V := Lib.hid (show 0 = narV a b by unfold narV; rw [if_pos h])
    have F := Lib.hid (show 8 = narE a b by unfold narE; rw [if_pos h])
    go_enter Try.func41, Try.ntmps41
    go_wp2_with (go_at_call 45; refine (wideCmp_any _ _ _ _ _ (by omega) (by omega) (by omega) (by omega)).mono ?_; rintro e w1 ⟨rfl, B1⟩; obtain ⟨hc1, hf1, hz1⟩ := behind B1)
    go_ret2
    exact ⟨ret_pair V.out F.out, new_then (new_alloc (new_refl w) _) B1⟩
  · have hp : ¬ 0 < cmpI (wn a b) (wn 0 9223372036854775807) := by rw [cmp_gt, E.out]; exact h
    have ea : a = 0 := by unfold wn at h; omega
    have bb : b ≤ 9223372036854775807 := by unfold wn at h; omega
    have V := Lib.hid (show b = narV a b by unfold narV; rw [if_neg h]; unfold wn; omega)
    have F := Lib.hid (show 0 = narE a b by unfold narE; rw [if_neg h])
    clear ea
    go_enter Try.func41, Try.ntmps41
    go_wp2_with (go_at_call 45; refine (wideCmp_any _ _ _ _ _ (by omega) (by omega) (by omega) (by omega)).mono ?_; rintro e w1 ⟨rfl, B1⟩; obtain ⟨hc1, hf1, hz1⟩ := behind B1)
    go_ret2
    exact ⟨ret_pair V.out F.out, new_then (new_alloc (new_refl w) _) B1⟩
end Go.Proofs.Ytmmccaaocfbdlaa
