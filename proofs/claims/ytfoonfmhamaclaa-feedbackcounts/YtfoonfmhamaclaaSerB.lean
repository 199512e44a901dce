/- Package serial's closure, differences and nearest ones: those of whole numbers modulo 2^bits. -/
import Derived.Test.YtfoonfmhamaclaaSerA
namespace Go.Proofs.Ytfoonfmhamaclaa
open Go.ChangeShapes Go.WideShapes Go.ChangeAt Go.RowKit
set_option linter.unusedVariables false

theorem hf_code (b : Int) : (rd b - 1) / 2 + 1 = hf b := by have := rd_hf b; omega

/-- The closure: its captured cells hold b, half a round and the bits. -/
theorem stand1_any (a b n : Int) (p q r : Nat) (w : World) (ha : 0 ≤ a ∧ a ≤ 18446744073709551615) (hb : 0 ≤ b ∧ b ≤ 18446744073709551615) (h : -9223372036854775808 ≤ n ∧ n ≤ 9223372036854775807)
    (hp : w.cell? ⟨p, 0, none⟩ = some (.int .u64 b)) (hq : w.cell? ⟨q, 0, none⟩ = some (.int .u64 (hf n))) (hr : w.cell? ⟨r, 0, none⟩ = some (.int .i64 n)) :
    Calls Try.prog 52 #[.int .u64 a, .pointer (some ⟨p, 0, none⟩), .pointer (some ⟨q, 0, none⟩), .pointer (some ⟨r, 0, none⟩)] w fun e w' => e = .returned (.int .i64 (dif a b n)) ∧ w = w' := by
  have hh := hf_bd n
  have hd := rd_bd n
  have hm := rd_mod ((a - b) % 18446744073709551616 + hf n) n
  have E := Lib.hid (dif_code a b n)
  have M := Lib.hid (mod_mod ((a - b) % 18446744073709551616 + hf n) n)
  go_enter Try.func52, Try.ntmps52
  go_wp2_with (go_at_call 50; refine (cut_any _ _ _ (by simp only [IntKind.wrap_u64]; omega) (by omega)).mono ?_; rintro e w' ⟨rfl, rfl⟩; simp only [IntKind.wrap_u64]; rw [M.out])
  go_ret
  refine ⟨ret_int ?_, rfl⟩
  rw [M.out] at E
  exact E.out

/-- A closure that tells how far a number stands from b, in n bits. -/
def IsStand (b n : Int) (w : World) (e : Ending) (w' : World) : Prop :=
  ∃ p q r, e = .returned (.func (.func 52) #[] #[.pointer (some ⟨p, 0, none⟩), .pointer (some ⟨q, 0, none⟩), .pointer (some ⟨r, 0, none⟩)]) ∧ w'.cell? ⟨p, 0, none⟩ = some (.int .u64 b) ∧ w'.cell? ⟨q, 0, none⟩ = some (.int .u64 (hf n)) ∧ w'.cell? ⟨r, 0, none⟩ = some (.int .i64 n) ∧ Below w.heap.size w w'

theorem standing_any (b n : Int) (w : World) (hb : 0 ≤ b ∧ b ≤ 18446744073709551615) (h : -9223372036854775808 ≤ n ∧ n ≤ 9223372036854775807) :
    Calls Try.prog 47 #[.int .u64 b, .int .i64 n] w (IsStand b n w) := by
  have hd := rd_bd n
  have E := Lib.hid (hf_code n)
  go_enter Try.func47, Try.ntmps47
  go_wp2_with (go_at_call 51; refine (mask_any _ _ (by omega)).mono ?_; rintro e w' ⟨rfl, rfl⟩)
  go_ret
  rw [E.out]
  exact ⟨_, _, _, rfl, ((At.new w [.int .u64 b] _).alloc _ |>.alloc _).cell 0 rfl, (At.newAt (by simp) [.int .u64 (hf n)] _).cell 0 rfl, ((At.newAt (by simp) [.int .i64 n] _).alloc _).cell 0 rfl, new_alloc (new_alloc (new_alloc (new_refl w) _) _) _⟩

theorem diff_any (a b n : Int) (w : World) (ha : 0 ≤ a ∧ a ≤ 18446744073709551615) (hb : 0 ≤ b ∧ b ≤ 18446744073709551615) (h : -9223372036854775808 ≤ n ∧ n ≤ 9223372036854775807) :
    Calls Try.prog 42 #[.int .u64 a, .int .u64 b, .int .i64 n] w fun e w' => e = .returned (.int .i64 (dif a b n)) ∧ Below w.heap.size w w' := by
  go_enter Try.func42, Try.ntmps42
  go_wp2_with (first | (go_at_call 47; refine (standing_any _ _ _ (by omega) (by omega)).mono ?_; rintro e w1 ⟨p, q, r, rfl, hp, hq, hr, B⟩) | (go_at_call 52; refine (stand1_any _ _ _ _ _ _ _ (by omega) hb (by omega) hp hq hr).mono ?_; rintro e w2 ⟨rfl, rfl⟩))
  go_ret
  exact ⟨rfl, B⟩

theorem newer_any (a b n : Int) (w : World) (ha : 0 ≤ a ∧ a ≤ 18446744073709551615) (hb : 0 ≤ b ∧ b ≤ 18446744073709551615) (h : -9223372036854775808 ≤ n ∧ n ≤ 9223372036854775807) :
    Calls Try.prog 44 #[.int .u64 a, .int .u64 b, .int .i64 n] w fun e w' => e = .returned (.bool (decide (0 < dif a b n))) ∧ Below w.heap.size w w' := by
  go_enter Try.func44, Try.ntmps44
  go_wp2_with (go_at_call 42; refine (diff_any _ _ _ _ (by omega) (by omega) (by omega)).mono ?_; rintro e w1 ⟨rfl, B⟩)
  go_ret
  exact ⟨rfl, B⟩
end Go.Proofs.Ytfoonfmhamaclaa
