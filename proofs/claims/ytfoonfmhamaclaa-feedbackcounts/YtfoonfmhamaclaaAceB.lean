/- The document's own answers of layer 16: what three bits tell, and bits and bytes together, found by trying. -/
import Derived.Test.YtfoonfmhamaclaaAceA
namespace Go.Proofs.Ytfoonfmhamaclaa
set_option linter.unusedVariables false
open Go.ChangeShapes Go.WideShapes Go.ChangeAt Go.RowKit

def StA (S : Int) (w : World) (gh : Nat) (v : Value) (wr : World) : Prop := ∃ k : Nat, 8 - k = gh ∧ v = .int .i64 (k : Int) ∧ (k : Int) ≤ S ∧ w = wr
theorem st_hit {l c X C S : Int} {k : Nat} (hX : X = l % 8) (hC : C = c % 8) (hS : S = (c - l) % 8) (h : (k : Int) ≤ S) (hk : (k : Int) = S) : (X + k).tmod 8 = C := by
  rw [tmA_pos (by omega)]; omega
theorem st_not {l c X C S : Int} {k : Nat} (hX : X = l % 8) (hC : C = c % 8) (hS : S = (c - l) % 8) (h : (k : Int) ≤ S) (hk : ¬ (k : Int) = S) : ∃ M, (X + k).tmod 8 = M ∧ ¬ M = C ∧ 0 ≤ M ∧ M ≤ 7 := by
  rw [tmA_pos (by omega)]; exact ⟨_, rfl, by omega, by omega, by omega⟩

theorem refStep16_any (l c : Int) (w : World) (hl : -9223372036854775808 ≤ l ∧ l ≤ 9223372036854775807) (hc : 0 ≤ c ∧ c ≤ 255) :
    Calls Try.prog 26 #[.int .i64 l, .int .u8 c] w fun e w' => e = .returned (.int .i64 (stpA l c)) ∧ w = w' := by
  obtain ⟨t1, t2, t3, t4⟩ := tmA l
  obtain ⟨t, et⟩ : ∃ t, l.tmod 8 = t := ⟨_, rfl⟩
  rw [et] at t1 t2 t3 t4
  have T3 := Lib.hid t3
  have T4 := Lib.hid t4
  have ec := tmA_pos hc.1
  obtain ⟨C, eC⟩ : ∃ C, c.tmod 8 = C := ⟨_, rfl⟩
  have HC : Hid (C = c % 8) := Lib.hid (by rw [← eC, ec])
  have cb : 0 ≤ C ∧ C ≤ 7 := by have := HC.out; omega
  have sb := stpA_bd l c
  obtain ⟨S, eS⟩ : ∃ S, stpA l c = S := ⟨_, rfl⟩
  rw [eS] at sb
  have HS : Hid (S = (c - l) % 8) := Lib.hid (by rw [← eS]; rfl)
  rw [eS]
  clear t3 t4 ec eS
  by_cases c1 : t < 0
  · have HX : Hid (t + 8 = l % 8) := Lib.hid (T3.out c1)
    clear T3 T4
    go_enter Try.func26, Try.ntmps26
    go_wp2_with fail
    go_loopg [6] 8 (fun gh v wr => StA S w gh v wr)
    case atStart => exact ⟨0, rfl, rfl, by omega, rfl⟩
    case round =>
      obtain ⟨k, rfl, rfl, hk, rfl⟩ := hrel
      have k1 : (k : Int) < 8 := by omega
      by_cases hs : (k : Int) = S
      · have m := st_hit HX.out HC.out HS.out hk hs
        have E := Lib.hid hs
        clear hs
        go_wp2_with fail
        go_ret
        exact ⟨ret_int E.out, rfl⟩
      · obtain ⟨M, m1, m2, m3, m4⟩ := st_not HX.out HC.out HS.out hk hs
        go_wp2_with fail
        go_roundg (8 - (k + 1))
        case measure => omega
        case rel => exact ⟨k + 1, rfl, by go_num, by omega, rfl⟩
  · have HX : Hid (t = l % 8) := Lib.hid (T4.out (by omega))
    clear T3 T4
    go_enter Try.func26, Try.ntmps26
    go_wp2_with fail
    go_loopg [6] 8 (fun gh v wr => StA S w gh v wr)
    case atStart => exact ⟨0, rfl, rfl, by omega, rfl⟩
    case round =>
      obtain ⟨k, rfl, rfl, hk, rfl⟩ := hrel
      have k1 : (k : Int) < 8 := by omega
      by_cases hs : (k : Int) = S
      · have m := st_hit HX.out HC.out HS.out hk hs
        have E := Lib.hid hs
        clear hs
        go_wp2_with fail
        go_ret
        exact ⟨ret_int E.out, rfl⟩
      · obtain ⟨M, m1, m2, m3, m4⟩ := st_not HX.out HC.out HS.out hk hs
        go_wp2_with fail
        go_roundg (8 - (k + 1))
        case measure => omega
        case rel => exact ⟨k + 1, rfl, by go_num, by omega, rfl⟩

def GuA (P F : Int) (w : World) (gh : Nat) (v : Value) (wr : World) : Prop := ∃ k : Nat, 8 - k = gh ∧ v = .int .i64 (P + (k : Int)) ∧ P + (k : Int) ≤ F ∧ w = wr
theorem gu_hit {P S F : Int} {k : Nat} (h0 : 0 ≤ P) (hS : 0 ≤ S ∧ S ≤ 7) (hF : F = fromA P S) (h : P + (k : Int) ≤ F) (hk : P + (k : Int) = F) : (P + k).tmod 8 = S := by
  rw [tmA_pos (by omega)]; unfold fromA at hF; omega
theorem gu_not {P S F : Int} {k : Nat} (h0 : 0 ≤ P) (hS : 0 ≤ S ∧ S ≤ 7) (hF : F = fromA P S) (h : P + (k : Int) ≤ F) (hk : ¬ P + (k : Int) = F) : (∃ M, (P + k).tmod 8 = M ∧ ¬ M = S ∧ 0 ≤ M ∧ M ≤ 7) ∧ k < 8 := by
  rw [tmA_pos (by omega)]; unfold fromA at hF; exact ⟨⟨_, rfl, by omega, by omega, by omega⟩, by omega⟩

theorem refGuess16_some (l c b m : Int) (w : World) (hl : -9223372036854775808 ≤ l ∧ l ≤ 9223372036854775807) (hc : 0 ≤ c ∧ c ≤ 255) (h1 : 0 < b ∧ b ≤ 9223372036854775807) (h2 : 0 < m ∧ m ≤ 9223372036854775807) :
    Calls Try.prog 27 #[.int .i64 l, .int .u8 c, .int .i64 b, .int .i64 m] w fun e w' => e = .returned (.int .i64 (fromA (upA (capA b) m) (stpA l c))) ∧ w = w' := by
  have k1 := capA_bd b h1.1
  have hB : (1099511627776 < b ∧ capA b = 1099511627776) ∨ (¬ 1099511627776 < b ∧ capA b = b) := by unfold capA; split <;> simp_all
  generalize capA b = B at *
  have k2 := upA_bd k1.1 h2.1
  have k5 := td_bd k1.1 h2.1
  have U1 := Lib.hid (upA_less k1.1 h2.1)
  have U2 := Lib.hid (upA_same k1.1 h2.1)
  generalize upA B m = P at *
  obtain ⟨q, eq⟩ : ∃ q, B.tdiv m = q := ⟨_, rfl⟩
  rw [eq] at k5 U1 U2
  have eq' : B / m = q := by rw [← eq]; exact (Int.tdiv_eq_ediv_of_nonneg (by omega)).symm
  obtain ⟨p, ep⟩ : ∃ p, q * m = p := ⟨_, rfl⟩
  rw [ep] at k5 U1 U2
  have k3 := stpA_bd l c
  obtain ⟨S, eS⟩ : ∃ S, stpA l c = S := ⟨_, rfl⟩
  rw [eS] at k3
  have k4 := fromA_bd P S
  obtain ⟨F, eF⟩ : ∃ F, fromA P S = F := ⟨_, rfl⟩
  have HF : Hid (F = fromA P S) := Lib.hid eF.symm
  rw [eS, eF]
  rw [eF] at k4
  have ES := Lib.hid eS
  have m0 : ¬ m = 0 := by omega
  have m1 : ¬ m = -1 := by omega
  clear eS eF
  obtain ⟨c5, hc5⟩ : ∃ x : Bool, decide (p < B) = x := ⟨_, rfl⟩
  rcases hB with ⟨hb1, rfl⟩ | ⟨hb1, rfl⟩
  all_goals
   cases c5
   rotate_left
   · obtain rfl : P = q + 1 := U1.out (by simpa using hc5)
     clear U1 U2
     go_enter Try.func27, Try.ntmps27
     go_wp2_with (go_at_call 26; refine (refStep16_any _ _ _ (by omega) (by omega)).mono ?_; rintro e w' ⟨rfl, rfl⟩; rw [ES.out])
     go_loopg [11] 8 (fun gh v wr => GuA (q + 1) F w gh v wr)
     case atStart => exact ⟨0, rfl, by simp, by simp; omega, rfl⟩
     case round =>
       obtain ⟨k, rfl, rfl, hk, rfl⟩ := hrel
       by_cases hs : q + 1 + (k : Int) = F
       · have m := gu_hit (by omega) k3 HF.out hk hs
         have E := Lib.hid hs
         clear hs
         go_wp2_with fail
         go_ret
         exact ⟨ret_int E.out, rfl⟩
       · obtain ⟨⟨M, m1, m2, m3, m4⟩, m5⟩ := gu_not (by omega) k3 HF.out hk hs
         go_wp2_with fail
         go_roundg (8 - (k + 1))
         case measure => omega
         case rel => exact ⟨k + 1, rfl, by go_num, by omega, rfl⟩
   · obtain rfl : P = q := U2.out (by simpa using hc5)
     clear U1 U2
     go_enter Try.func27, Try.ntmps27
     go_wp2_with (go_at_call 26; refine (refStep16_any _ _ _ (by omega) (by omega)).mono ?_; rintro e w' ⟨rfl, rfl⟩; rw [ES.out])
     go_loopg [11] 8 (fun gh v wr => GuA P F w gh v wr)
     case atStart => exact ⟨0, rfl, by simp, by simp; omega, rfl⟩
     case round =>
       obtain ⟨k, rfl, rfl, hk, rfl⟩ := hrel
       by_cases hs : P + (k : Int) = F
       · have m := gu_hit (by omega) k3 HF.out hk hs
         have E := Lib.hid hs
         clear hs
         go_wp2_with fail
         go_ret
         exact ⟨ret_int E.out, rfl⟩
       · obtain ⟨⟨M, m1, m2, m3, m4⟩, m5⟩ := gu_not (by omega) k3 HF.out hk hs
         go_wp2_with fail
         go_roundg (8 - (k + 1))
         case measure => omega
         case rel => exact ⟨k + 1, rfl, by go_num, by omega, rfl⟩

theorem refGuess16_any (l c b m : Int) (w : World) (hl : -9223372036854775808 ≤ l ∧ l ≤ 9223372036854775807) (hc : 0 ≤ c ∧ c ≤ 255) (hb : -9223372036854775808 ≤ b ∧ b ≤ 9223372036854775807) (hm : -9223372036854775808 ≤ m ∧ m ≤ 9223372036854775807) :
    Calls Try.prog 27 #[.int .i64 l, .int .u8 c, .int .i64 b, .int .i64 m] w fun e w' => e = .returned (.int .i64 (gueA l c b m)) ∧ w = w' := by
  by_cases h : b ≤ 0 ∨ m ≤ 0
  · rw [show gueA l c b m = stpA l c by unfold gueA; rw [if_pos h]]
    by_cases h1 : b ≤ 0
    · go_enter Try.func27, Try.ntmps27
      go_wp2_with (go_at_call 26; refine (refStep16_any _ _ _ (by omega) (by omega)).mono ?_; rintro e w' ⟨rfl, rfl⟩)
      go_ret
      exact ⟨rfl, rfl⟩
    · have h2 : m ≤ 0 := by omega
      go_enter Try.func27, Try.ntmps27
      go_wp2_with (go_at_call 26; refine (refStep16_any _ _ _ (by omega) (by omega)).mono ?_; rintro e w' ⟨rfl, rfl⟩)
      go_ret
      exact ⟨rfl, rfl⟩
  · rw [show gueA l c b m = fromA (upA (capA b) m) (stpA l c) by unfold gueA; rw [if_neg h]]
    exact refGuess16_some l c b m w hl hc (by omega) (by omega)

theorem and7i (n : Int) : bits .and .i64 n 7 = n % 8 := by
  have h7 : (BitVec.ofInt 64 7).toNat = 2 ^ 3 - 1 := by decide
  have key : (BitVec.ofInt 64 n &&& BitVec.ofInt 64 7).toNat = (n % ((2 ^ 64 : Nat) : Int)).toNat % 2 ^ 3 := by
    rw [BitVec.toNat_and, BitVec.toNat_ofInt, h7, Nat.and_two_pow_sub_one_eq_mod]
  show IntKind.i64.wrap ((BitVec.ofInt 64 n &&& BitVec.ofInt 64 7).toNat : Nat) = n % 8
  rw [key, IntKind.wrap_i64]
  omega
theorem and7j (n : Int) : bits .and .i32 n 7 = n % 8 := by
  have h7 : (BitVec.ofInt 32 7).toNat = 2 ^ 3 - 1 := by decide
  have key : (BitVec.ofInt 32 n &&& BitVec.ofInt 32 7).toNat = (n % ((2 ^ 32 : Nat) : Int)).toNat % 2 ^ 3 := by
    rw [BitVec.toNat_and, BitVec.toNat_ofInt, h7, Nat.and_two_pow_sub_one_eq_mod]
  show IntKind.i32.wrap ((BitVec.ofInt 32 n &&& BitVec.ofInt 32 7).toNat : Nat) = n % 8
  rw [key, IntKind.wrap_i32]
  omega
end Go.Proofs.Ytfoonfmhamaclaa
