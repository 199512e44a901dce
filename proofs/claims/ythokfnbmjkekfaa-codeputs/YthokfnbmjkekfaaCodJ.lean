/- Package code: Text, New. -/
import Derived.Test.YthokfnbmjkekfaaCodH
namespace Go.Proofs.Ythokfnbmjkekfaa
open Go.RowKit
set_option linter.unusedVariables false

/-- At most so many: below 0 counts as 0. -/
def mx (m : Int) : Int := max m 0
theorem mx_bd {m : Int} (h : -9223372036854775808 ≤ m ∧ m ≤ 9223372036854775807) : 0 ≤ mx m ∧ mx m ≤ 9223372036854775807 := by unfold mx; omega
theorem mx_is (m : Int) : (m < 0 ∧ mx m = 0) ∨ (0 ≤ m ∧ mx m = m) := by unfold mx; omega
theorem text_nil (m : Int) (w : World) (h : -9223372036854775808 ≤ m ∧ m ≤ 9223372036854775807) : Calls Try.prog 19 #[.pointer none, .int .i64 m] w fun e w' => e = .returned (.string ⟨#[]⟩) ∧ w = w' := by
  go_enter Try.func19, Try.ntmps19
  go_wp2_with (first
    | (go_at_call 30; refine (peek_nil _ _).mono ?_; rintro e w' ⟨rfl, rfl⟩)
    | (go_at_call 31; refine (fail_nil 1 _).mono ?_; rintro e w' ⟨rfl, rfl⟩))
  all_goals go_ret
  all_goals exact ⟨rfl, rfl⟩
theorem text_no (b g : Nat) (bs : List Int) (a : Nat) (er m x : Int) (k : Nat) (E : Int) (w : World) (hm : -9223372036854775808 ≤ m ∧ m ≤ 9223372036854775807) (h : IsRd w b g bs a er) (hN : Nx bs er (mx m) x k E) (hE : E ≠ 0) : Calls Try.prog 19 #[.pointer (some ⟨b, 0, none⟩), .int .i64 m] w (RdTo w b g (.string ⟨#[]⟩) [] a E) := by
  have HR := Lib.hid h
  have e0 : (E != 0) = true := by simpa using hE
  have e1 : (E == 0) = false := by simpa using hE
  clear h
  obtain ⟨M, eM⟩ : ∃ M, mx m = M := ⟨_, rfl⟩
  have hM := mx_is m
  rw [eM] at hN hM
  have HN := Lib.hid hN
  clear hN eM
  rcases hM with ⟨h0, rfl⟩ | ⟨h0, rfl⟩
  all_goals
    go_enter Try.func19, Try.ntmps19
    go_wp2_with (first
      | (go_at_call 30; refine (peek_any b g bs a er _ x k E _ HR.out HN.out).mono ?_; rintro e w' ⟨rfl, rfl⟩)
      | (go_at_call 31; refine (fail_any b g bs a er E _ HR.out).mono ?_; rintro e w1 ⟨rfl, R1, o1⟩))
    go_ret
    exact ⟨rfl, R1, o1⟩
theorem text_short (b g : Nat) (bs : List Int) (a : Nat) (er m x : Int) (k : Nat) (w : World) (hm : -9223372036854775808 ≤ m ∧ m ≤ 9223372036854775807) (h : IsRd w b g bs a er) (hN : Nx bs er (mx m) x k 0) (hx : 0 ≤ x) (hs : ((bs.length - k : Nat) : Int) < x) : Calls Try.prog 19 #[.pointer (some ⟨b, 0, none⟩), .int .i64 m] w (RdTo w b g (.string ⟨#[]⟩) [] a 3) := by
  obtain ⟨rfl, hk, hk2, hxm⟩ := hN.ok
  have hbd := mx_bd hm
  have HR := Lib.hid h
  have hcap : bs.length ≤ 1000000000 := by obtain ⟨A, n, c, h⟩ := h; have := h.2.2.1; have := h.2.2.2.2.2.1; omega
  obtain ⟨L, hL⟩ : ∃ L, bs.length = L := ⟨_, rfl⟩
  rw [hL] at hs hk2 hcap
  have HL := Lib.hid hL
  have s1 : (L : Int) - (k : Int) < x := by omega
  have s2 : (0 : Int) ≤ (L : Int) - (k : Int) := by omega
  have s3 : (L : Int) ≤ 1000000000 := by omega
  have s4 : (0 : Int) ≤ (L : Int) := by omega
  have s5 : (0 : Int) ≤ (k : Int) := by omega
  clear h hL hs
  obtain ⟨M, eM⟩ : ∃ M, mx m = M := ⟨_, rfl⟩
  have hM := mx_is m
  rw [eM] at hN hM hxm hbd
  have HN := Lib.hid hN
  clear hN eM
  rcases hM with ⟨h0, rfl⟩ | ⟨h0, rfl⟩
  all_goals
    go_enter Try.func19, Try.ntmps19
    go_wp2_with (first
      | (go_at_call 30; refine (peek_any b g bs a 0 _ x k 0 _ HR.out HN.out).mono ?_; rintro e w' ⟨rfl, rfl⟩)
      | (go_at_call 22; refine (leftR b g bs a L 0 _ HR.out HL.out).mono ?_; rintro e w' ⟨rfl, rfl⟩)
      | (go_at_call 31; refine (fail_any b g bs a 0 3 _ HR.out).mono ?_; rintro e w1 ⟨rfl, R1, o1⟩))
    go_ret
    exact ⟨rfl, R1, o1⟩
theorem text_at {w : World} {g off n c : Nat} {zs : List Int} (h : LsK .u8 w g (some ⟨g, off, none⟩) zs) (hn : zs.length = n) : (convert 22 9 (.slice (some ⟨g, off, none⟩) n c)).run Try.prog w = .ok (.string (strOfNums zs)) w := by
  refine run_convert_bytes_arg w _ _ elB.und (by kernel_rfl) g off n c zs hn (fun i hi => ?_) _ (by kernel_rfl)
  rcases h with h | ⟨off', ho, h⟩
  · simp [h] at hn; omega
  · simp at ho
    subst ho
    rw [List.getD_eq_getElem?_getD]
    exact h i (by omega)
set_option maxRecDepth 100000 in
theorem text_yes (b g : Nat) (bs : List Int) (a : Nat) (er m : Int) (k l : Nat) (s : ByteArray) (w : World) (hm : -9223372036854775808 ≤ m ∧ m ≤ 9223372036854775807) (h : IsRd w b g bs a er) (hN : Nx bs er (mx m) (l : Int) k 0) (hs : l ≤ bs.length - k) (ht : strOfNums ((bs.drop k).take l) = s) : Calls Try.prog 19 #[.pointer (some ⟨b, 0, none⟩), .int .i64 m] w (RdTo w b g (.string s) (bs.drop (k + l)) (a + (k + l)) 0) := by
  obtain ⟨rfl, hk, hk2, hxm⟩ := hN.ok
  have hbd := mx_bd hm
  have HR := Lib.hid h
  obtain ⟨A, L, c, hR⟩ := h
  obtain ⟨off, rfl⟩ := hR.some (by omega)
  obtain ⟨hB, hV, hL, hc, hby, hmx, _⟩ := hR
  have c0 := hB.cell 0 rfl
  rw [hL] at hs hk2
  have HL := Lib.hid hL
  have HKL : Hid (k + l ≤ bs.length) := Lib.hid (by omega)
  have s2 : (0 : Int) ≤ (L : Int) - (k : Int) := by omega
  have s3 : (L : Int) ≤ 1000000000 := by omega
  have s4 : (0 : Int) ≤ (L : Int) := by omega
  have s5 : (0 : Int) ≤ (k : Int) := by omega
  have s6 : (0 : Int) ≤ (l : Int) := by omega
  have s7 : ¬ (L : Int) - (k : Int) < (l : Int) := by omega
  have s8 : (k : Int) + (l : Int) ≤ (c : Int) := by omega
  have s9 : k + l ≤ c := by omega
  have s10 : 1 ≤ k + l := by omega
  have ek : ((k : Int) + (l : Int)).toNat = k + l := by omega
  have HEK := Lib.hid ek
  have HT := Lib.hid ht
  clear hL hB ht ek
  obtain ⟨M, eM⟩ : ∃ M, mx m = M := ⟨_, rfl⟩
  have hM := mx_is m
  rw [eM] at hN hM hxm hbd
  have HN := Lib.hid hN
  clear hN eM
  have hV2 : LsK .u8 w g (some ⟨g, off + k, none⟩) ((bs.drop k).take l) := (hV.drop k).take l
  have hlen : ((bs.drop k).take l).length = l := by rw [List.length_take, List.length_drop, HL.out]; omega
  by_cases hkc : c = k
  · obtain rfl : l = 0 := by omega
    have e1 : strOfNums [] = s := by rw [← HT.out]; simp
    have hcv : (convert 22 9 (.slice (some ⟨g, off, none⟩) 0 0)).run Try.prog w = .ok (.string s) w := by rw [← e1]; exact text_at (.inl rfl) rfl
    clear hV hV2 hlen e1 hby
    subst hkc
    rcases hM with ⟨h0, rfl⟩ | ⟨h0, rfl⟩
    all_goals
      go_enter Try.func19, Try.ntmps19
      go_wp2_with (first
        | (go_at_call 30; refine (peek_any b g bs a 0 _ 0 c 0 _ HR.out HN.out).mono ?_; rintro e w' ⟨rfl, rfl⟩)
        | (go_at_call 22; refine (leftR b g bs a L 0 _ HR.out HL.out).mono ?_; rintro e w' ⟨rfl, rfl⟩)
        | (go_at_call 32; refine (pass_any b g bs a c 0 _ HR.out hk HKL.out).mono ?_; rintro e w1 ⟨rfl, R1, o1⟩))
      go_ret
      exact ⟨rfl, R1, o1⟩
  · have hcv : ∀ c', (convert 22 9 (.slice (some ⟨g, off + k, none⟩) l c')).run Try.prog w = .ok (.string s) w := fun c' => by rw [← HT.out]; exact text_at hV2 hlen
    have hkc2 : k < c := by omega
    clear hV hV2 hlen hby
    rcases hM with ⟨h0, rfl⟩ | ⟨h0, rfl⟩
    all_goals
      go_enter Try.func19, Try.ntmps19
      go_wp2_with (first
        | (go_at_call 30; refine (peek_any b g bs a 0 _ (l : Int) k 0 _ HR.out HN.out).mono ?_; rintro e w' ⟨rfl, rfl⟩)
        | (go_at_call 22; refine (leftR b g bs a L 0 _ HR.out HL.out).mono ?_; rintro e w' ⟨rfl, rfl⟩)
        | (go_at_call 32; rw [show ((k : Int) + (l : Int)) = ((k + l : Nat) : Int) from (Int.natCast_add k l).symm]; refine (pass_any b g bs a (k + l) 0 _ HR.out s10 HKL.out).mono ?_; rintro e w1 ⟨rfl, R1, o1⟩))
      go_ret
      exact ⟨rfl, R1, o1⟩
end Go.Proofs.Ythokfnbmjkekfaa
