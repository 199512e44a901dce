/- Package code: where a number ends (extent), and which one it is (join). -/
import Derived.Test.YthokfnbmjkekfaaCodC
namespace Go.Proofs.Ythokfnbmjkekfaa
open Go.RowKit
set_option linter.unusedVariables false

theorem ends_any (c : Int) (w : World) :
    Calls Try.prog 36 #[.int .u8 c] w fun e w' => e = .returned (.bool (decide (c < 128))) ∧ w = w' := by
  go_enter Try.func36, Try.ntmps36
  go_wp2
  go_ret
  exact ⟨rfl, rfl⟩
def IxInv (w : World) (bs : List Int) (n : Nat) (gh : Nat) (vi : Value) (wr : World) : Prop :=
  ∃ k : Nat, vi = .int .i64 (k : Int) ∧ n - k = gh ∧ k ≤ n ∧ (∀ i, i < k → 128 ≤ bs[i]?.getD 0) ∧ w = wr
theorem indexB_any (A : Option Addr) (g n c : Nat) (bs : List Int) (w : World) (h : LsK .u8 w g A bs) (hn : bs.length = n) (hm : n ≤ 1000000000) :
    Calls Try.prog 35 #[.slice A n c, .func (.func 36) #[] #[]] w fun e w' => e = .returned (.int .i64 ((ext bs : Int) - 1)) ∧ w = w' := by
  have HV := Lib.hid h
  have HN := Lib.hid hn
  clear h hn
  go_enter Try.func35, Try.ntmps35
  go_wp2_with fail
  go_loopg [8] n (fun gh vi wr => IxInv w bs n gh vi wr)
  case atStart => exact ⟨0, rfl, rfl, by omega, fun i hi => absurd hi (Nat.not_lt_zero _), rfl⟩
  case round =>
    obtain ⟨k, rfl, rfl, hk, ha, rfl⟩ := hrel
    have HA := Lib.hid ha
    clear ha
    by_cases hlt : k < n
    · have k0 : (0 : Int) ≤ (k : Int) := by omega
      have k1 : (k : Int) < (n : Int) := by omega
      have hk2 : k < bs.length := by rw [HN.out]; exact hlt
      rcases HV.out with h0 | ⟨off, rfl, hc⟩
      · simp [h0] at hk2
      have c0 := hc k hk2
      have HK := Lib.hid hk2
      clear hc hk2
      obtain ⟨x, hx⟩ : ∃ x, bs[k]?.getD 0 = x := ⟨_, rfl⟩
      rw [hx] at c0
      have HX := Lib.hid hx
      clear hx
      by_cases hq : x < 128
      · go_wp2_with (first
          | (go_at_call 36; refine (ends_any x _).mono ?_; rw [show decide (x < 128) = true from decide_eq_true hq]; rintro e w1 ⟨rfl, rfl⟩))
        go_ret
        exact ⟨ret_int (by rw [ext_at bs k HK.out HA.out (by rw [HX.out]; exact hq)]; omega), rfl⟩
      · go_wp2_with (first
          | (go_at_call 36; refine (ends_any x _).mono ?_; rw [show decide (x < 128) = false from decide_eq_false hq]; rintro e w1 ⟨rfl, rfl⟩))
        go_roundg (n - (k + 1))
        case measure => omega
        case rel =>
          refine ⟨k + 1, by go_num, rfl, by omega, fun i hi => ?_, rfl⟩
          by_cases e : i = k
          · subst e; rw [HX.out]; omega
          · exact HA.out i (by omega)
    · obtain rfl : k = n := by omega
      go_wp2_with fail
      go_ret
      exact ⟨ret_int (by rw [ext_none bs (by rw [HN.out]; exact HA.out)]; rfl), rfl⟩
theorem extent_any (A : Option Addr) (g n c : Nat) (bs : List Int) (w : World) (h : LsK .u8 w g A bs) (hn : bs.length = n) (hm : n ≤ 1000000000) :
    Calls Try.prog 33 #[.slice A n c] w fun e w' => e = .returned (.int .i64 (ext bs : Int)) ∧ w = w' := by
  have h1 := ext_le bs
  have h2 : ext bs ≤ n := by omega
  have HV := Lib.hid h
  have HN := Lib.hid hn
  clear h hn h1
  go_enter Try.func33, Try.ntmps33
  go_wp2_with (first
    | (go_at_call 35; refine (indexB_any A g n c bs _ HV.out HN.out hm).mono ?_; rintro e w1 ⟨rfl, rfl⟩))
  go_ret
  exact ⟨ret_int (by omega), rfl⟩

/-- Are they as few as can be, and not beyond the greatest number? -/
def fit (l : List Int) : Bool := decide (l.length ≤ 10) && (decide (l.length = 1) || !(lst l == 0)) && (!(decide (l.length = 10)) || decide (lst l ≤ 1))
theorem fit_nb {x : Nat} (h : x < 18446744073709551616) : fit (nb x) = true := by
  obtain ⟨h1, h2⟩ := nb_ten h
  have h3 := nb_pos x
  unfold fit
  by_cases h4 : (nb x).length = 1
  · simp [h4]
  · have h5 := nb_top (x := x) (by omega)
    by_cases h6 : (nb x).length = 10
    · simp [h6, h5, h2 h6]
    · simp [h1, h4, h5, h6]
def JnInv (w : World) (bs : List Int) (n : Nat) (gh : Nat) (vx vi : Value) (wr : World) : Prop :=
  ∃ k : Nat, vi = .int .i64 (k : Int) ∧ n - k = gh ∧ k ≤ n ∧ vx = .int .u64 (gval (bs.take k)) ∧ w = wr
set_option maxRecDepth 100000 in
set_option maxHeartbeats 1000000 in
theorem join_yes (g off n c : Nat) (bs : List Int) (w : World) (h : LsK .u8 w g (some ⟨g, off, none⟩) bs) (hn : bs.length = n) (h1 : 1 ≤ n) (hb : ∀ x ∈ bs, 0 ≤ x ∧ x ≤ 255) (hf : fit bs = true) :
    Calls Try.prog 34 #[.slice (some ⟨g, off, none⟩) n c] w fun e w' => e = .returned (.tuple #[.int .u64 (gval bs), .bool true]) ∧ w = w' := by
  have HB := Lib.hid hb
  have hl := lst_get (l := bs) (by omega)
  have HL := Lib.hid hl
  rcases h with h0 | ⟨off', ho, hc⟩
  · simp [h0] at hn; omega
  simp at ho
  subst ho
  have ct := hc (n - 1) (by omega)
  rw [← hn, hl, hn] at ct
  have HC := Lib.hid hc
  have HN := Lib.hid hn
  simp only [fit, hn, Bool.and_eq_true, Bool.or_eq_true, decide_eq_true_eq, Bool.not_eq_true', decide_eq_false_iff_not, beq_eq_false_iff_ne] at hf
  obtain ⟨⟨f1, f2⟩, f3⟩ := hf
  generalize lst bs = t at *
  clear hc hb hl
  obtain ⟨j, rfl⟩ : ∃ j, n = j + 1 := ⟨n - 1, by omega⟩
  rw [Nat.add_sub_cancel] at ct
  clear hn
  have j0 : (0 : Int) ≤ (j : Int) := by omega
  have j1 : (j : Int) ≤ 9 := by omega
  have j2 : j < j + 1 := by omega
  have hs : (¬ (0 : Int) < (j : Int) ∧ ((j : Int) == 9) = false) ∨ ((0 : Int) < (j : Int) ∧ ((j : Int) == 9) = false ∧ (t == 0) = false) ∨ ((0 : Int) < (j : Int) ∧ ((j : Int) == 9) = true ∧ (t == 0) = false ∧ ¬ 1 < t) := by
    simp only [beq_eq_false_iff_ne, beq_iff_eq, ne_eq]
    omega
  have d1 : ¬ (9 : Int) < (j : Int) := by omega
  have HF : Hid (j = 9 → t ≤ 1) := Lib.hid (by omega)
  clear f1 f2 f3 h1
  go_enter Try.func34, Try.ntmps34
  rcases hs with ⟨s1, s2⟩ | ⟨s1, s2, s3⟩ | ⟨s1, s2, s3, s4⟩
  all_goals
    go_wp2_with fail
    go_loopg [6, 36] (j + 1) (fun gh vx vi wr => JnInv w bs (j + 1) gh vx vi wr)
    case atStart => exact ⟨0, rfl, rfl, by omega, rfl, rfl⟩
    case round =>
      clear ct
      obtain ⟨k, rfl, rfl, hk, rfl, rfl⟩ := hrel
      by_cases hlt : k < j + 1
      · have k0 : (0 : Int) ≤ (k : Int) := by omega
        have k1 : (k : Int) < (j : Int) + 1 := by omega
        have k9 : k ≤ 9 := by omega
        have hk2 : k < bs.length := by rw [HN.out]; exact hlt
        have c0 := HC.out k hk2
        have hcb := HB.out (bs[k]?.getD 0) (by rw [List.getElem?_eq_getElem hk2]; exact List.getElem_mem _)
        have hv := gval_bd (bs.take k)
        have hl2 : (bs.take k).length = k := by rw [List.length_take]; omega
        rw [hl2] at hv
        have ex : gval (bs.take (k + 1)) = gval (bs.take k) + bs[k]?.getD 0 % 128 * p7 k := by rw [take_snoc7 hk2, gval_snoc, hl2]
        have ht : k = 9 → bs[k]?.getD 0 ≤ 1 := by
          intro e
          have e1 := HL.out
          have e2 := HN.out
          have e3 : bs.length - 1 = k := by omega
          rw [e3] at e1
          rw [e1]
          exact HF.out (by omega)
        generalize bs[k]?.getD 0 = x at c0 hcb ex ht
        have hp : x % 128 * p7 k < 18446744073709551616 := by
          by_cases e : k = 9
          · subst e
            have := ht rfl
            have e2 : p7 9 = 9223372036854775808 := by decide
            rw [e2]; omega
          · have h8 := p7_le8 (k := k) (by omega)
            have h9 : x % 128 * p7 k ≤ 127 * p7 k := Int.mul_le_mul_of_nonneg_right (by omega) (Int.le_of_lt (p7_pos k))
            omega
        have ho := or_group (gval (bs.take k)) (x % 128) k k9 hv (by omega) hp
        have h0 : 0 ≤ x % 128 * p7 k := Int.mul_nonneg (by omega) (Int.le_of_lt (p7_pos k))
        rw [← ex] at ho
        have EX := Lib.hid ho
        have hw : IntKind.u64.wrap (x % 128 * 2 ^ (7 * k)) = x % 128 * p7 k := by rw [p7_two, IntKind.wrap_u64]; omega
        clear ex ht hp ho hk2 hl2 hv h0
        obtain ⟨x0, x1⟩ := hcb
        have x2 : 0 ≤ x % 128 := by omega
        have x3 : x % 128 ≤ 127 := by omega
        go_wp2_with fail
        go_roundg (j + 1 - (k + 1))
        case measure => omega
        case rel => exact ⟨k + 1, by go_num, rfl, by omega, by rw [EX.out], rfl⟩
      · obtain rfl : k = j + 1 := by omega
        have e1 : bs.take (j + 1) = bs := List.take_of_length_le (by have := HN.out; omega)
        go_wp2_with fail
        go_ret2
        rw [e1]
        exact ⟨rfl, rfl⟩
set_option maxRecDepth 100000 in
theorem join_no (g off n c : Nat) (bs : List Int) (w : World) (h : LsK .u8 w g (some ⟨g, off, none⟩) bs) (hn : bs.length = n) (h1 : 1 ≤ n) (hm : n ≤ 1000000000) (hf : fit bs = false) :
    Calls Try.prog 34 #[.slice (some ⟨g, off, none⟩) n c] w fun e w' => e = .returned (.tuple #[.int .u64 0, .bool false]) ∧ w = w' := by
  have hl := lst_get (l := bs) (by omega)
  rcases h with h0 | ⟨off', ho, hc⟩
  · simp [h0] at hn; omega
  simp at ho
  subst ho
  have ct := hc (n - 1) (by omega)
  rw [← hn, hl, hn] at ct
  have hs : ((0 : Int) < ((n - 1 : Nat) : Int) ∧ (lst bs == 0) = true) ∨ ((lst bs == 0) = false ∧ (9 : Int) < ((n - 1 : Nat) : Int)) ∨ ((lst bs == 0) = false ∧ ¬ (9 : Int) < ((n - 1 : Nat) : Int) ∧ (((n - 1 : Nat) : Int) == 9) = true ∧ 1 < lst bs) := by
    simp only [fit, hn, Bool.and_eq_false_iff, Bool.or_eq_false_iff, decide_eq_false_iff_not, Bool.not_eq_false', decide_eq_true_eq, beq_iff_eq] at hf
    simp only [beq_eq_false_iff_ne, beq_iff_eq, ne_eq]
    omega
  generalize lst bs = t at *
  clear hc hl hn hf
  obtain ⟨j, rfl⟩ : ∃ j, n = j + 1 := ⟨n - 1, by omega⟩
  rw [Nat.add_sub_cancel] at ct hs
  have j0 : (0 : Int) ≤ (j : Int) := by omega
  have j1 : (j : Int) ≤ 1000000000 := by omega
  have j2 : j < j + 1 := by omega
  clear h1
  go_enter Try.func34, Try.ntmps34
  rcases hs with ⟨s1, s2⟩ | ⟨s1, s2⟩ | ⟨s1, s2, s3, s4⟩
  all_goals
    go_wp2_with fail
    all_goals go_ret2
    all_goals exact ⟨rfl, rfl⟩
end Go.Proofs.Ythokfnbmjkekfaa
