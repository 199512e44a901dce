/- Package ace and the document's own answers of layer 16: how many marked packets three bits tell. -/
import Derived.Test.YtfoonfmhamaclaaSatE
import Derived.Test.YtfoonfmhamaclaaSerA
import Derived.Test.YtfoonfmhamaclaaAceM
import Derived.Deep.LoopGhost
namespace Go.Proofs.Ytfoonfmhamaclaa
set_option linter.unusedVariables false
open Go.ChangeShapes Go.WideShapes Go.ChangeAt Go.RowKit

theorem cut3_any (x : Int) (w : World) (hx : 0 ≤ x ∧ x ≤ 18446744073709551615) :
    Calls Try.prog 50 #[.int .u64 x, .int .i64 3] w fun e w' => e = .returned (.int .u64 (x % 8)) ∧ w = w' := cut_any x 3 w hx (by omega)

theorem left16_any (a b : Int) (w : World) : Calls Try.prog 46 #[.int .i64 a, .int .i64 b] w fun e w' => e = .returned (.int .i64 ((a - b) % 8)) ∧ w = w' := by
  go_enter Try.func46, Try.ntmps46
  go_wp2_with (go_at_call 50; refine (cut3_any _ _ (by simp only [IntKind.wrap_u64]; omega)).mono ?_; rintro e w' ⟨rfl, rfl⟩)
  go_ret
  refine ⟨ret_int ?_, rfl⟩
  simp only [IntKind.wrap_u64]
  omega

theorem step16_any (l c : Int) (w : World) (hc : 0 ≤ c ∧ c ≤ 255) :
    Calls Try.prog 36 #[.int .i64 l, .int .u8 c] w fun e w' => e = .returned (.int .i64 (stpA l c)) ∧ w = w' := by
  go_enter Try.func36, Try.ntmps36
  go_wp2_with (go_at_call 46; refine (left16_any _ _ _).mono ?_; rintro e w' ⟨rfl, rfl⟩)
  go_ret
  exact ⟨ret_int rfl, rfl⟩

theorem packets_any (b m : Int) (w : World) (hb : 0 < b ∧ b ≤ 1099511627776) (hm : 0 < m ∧ m ≤ 9223372036854775807) :
    Calls Try.prog 49 #[.int .i64 b, .int .i64 m] w fun e w' => e = .returned (.int .i64 (upA b m)) ∧ Below w.heap.size w w' := by
  have e1 : sat64 (-b) = -b := sat64_mid _ (by omega) (by omega)
  have e2 : fdv (-b) m = -b / m := fdv_edA _ _ (by omega) (by omega)
  have u := upA_bd hb.1 hm.1
  have e3 : sat64 (-(-b / m)) = upA b m := by unfold upA at *; exact sat64_mid _ (by omega) (by omega)
  unfold upA at u
  obtain ⟨q, eq⟩ : ∃ q, -b / m = q := ⟨_, rfl⟩
  rw [eq] at e2 e3 u
  have E3 := Lib.hid e3
  have L := new_refl w
  clear e3 eq
  go_enter Try.func49, Try.ntmps49
  go_wp2_with (first
    | (go_at_call 54; refine (satDiv_any _ _ _ (by omega) (by omega)).mono ?_; rintro e w1 ⟨rfl, n, rfl⟩; rw [e2]; replace L := new_draw L n)
    | (go_at_call 53; refine (satNeg_any _ _ (by omega)).mono ?_; rintro e w' ⟨rfl, rfl⟩; first | rw [e1] | rw [E3.out]))
  go_ret
  exact ⟨rfl, L⟩

theorem guess16_any (l c b m : Int) (w : World) (hc : 0 ≤ c ∧ c ≤ 255) (hb : -9223372036854775808 ≤ b ∧ b ≤ 9223372036854775807) (hm : -9223372036854775808 ≤ m ∧ m ≤ 9223372036854775807) :
    Calls Try.prog 45 #[.int .i64 l, .int .u8 c, .int .i64 b, .int .i64 m] w fun e w' => e = .returned (.int .i64 (gueA l c b m)) ∧ Below w.heap.size w w' := by
  by_cases h : b ≤ 0 ∨ m ≤ 0
  · rw [show gueA l c b m = stpA l c by unfold gueA; rw [if_pos h]]
    by_cases h1 : b ≤ 0
    · go_enter Try.func45, Try.ntmps45
      go_wp2_with (go_at_call 36; refine (step16_any _ _ _ (by omega)).mono ?_; rintro e w' ⟨rfl, rfl⟩)
      go_ret
      exact ⟨rfl, new_refl w⟩
    · have h2 : m ≤ 0 := by omega
      go_enter Try.func45, Try.ntmps45
      go_wp2_with (go_at_call 36; refine (step16_any _ _ _ (by omega)).mono ?_; rintro e w' ⟨rfl, rfl⟩)
      go_ret
      exact ⟨rfl, new_refl w⟩
  · have h1 : 0 < b := by omega
    have h2 : 0 < m := by omega
    rw [show gueA l c b m = fromA (upA (capA b) m) (stpA l c) by unfold gueA; rw [if_neg h]]
    have e1 : clampI b 0 1099511627776 = capA b := by unfold clampI capA; split <;> (try split) <;> omega
    have k1 := capA_bd b h1
    generalize capA b = B at *
    have k2 := upA_bd k1.1 h2
    generalize eP : upA B m = P at *
    have k3 := stpA_bd l c
    generalize eS : stpA l c = S at *
    have k4 := fromA_bd P S
    have T : Hid (sat64 (P + (S - P) % 8) = fromA P S) := Lib.hid (sat64_mid _ (by omega) (by omega))
    have EP := Lib.hid eP
    have ES := Lib.hid eS
    have L := new_refl w
    clear eP eS h
    go_enter Try.func45, Try.ntmps45
    go_wp2_with (first
      | (go_at_call 36; refine (step16_any _ _ _ (by omega)).mono ?_; rintro e w' ⟨rfl, rfl⟩; rw [ES.out])
      | (go_at_call 16; refine (satClamp_any _ _ _ _).mono ?_; rintro e w' ⟨rfl, rfl⟩; rw [e1])
      | (go_at_call 49; refine (packets_any _ _ _ (by omega) (by omega)).mono ?_; rintro e w1 ⟨rfl, C⟩; replace L := new_then L C; rw [EP.out])
      | (go_at_call 46; refine (left16_any _ _ _).mono ?_; rintro e w' ⟨rfl, rfl⟩)
      | (go_at_call 34; refine (satAdd_any _ _ _ (by omega) (by omega)).mono ?_; rintro e w' ⟨rfl, rfl⟩; rw [T.out]))
    go_ret
    exact ⟨rfl, L⟩
end Go.Proofs.Ytfoonfmhamaclaa
