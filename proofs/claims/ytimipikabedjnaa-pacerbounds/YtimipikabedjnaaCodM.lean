/- Plain facts on numbers as groups of seven bits: what they are, where they end, which number they are. -/
import Derived.Lib.Hide
import Derived.Laws.BitsLemmas
import Derived.Laws.Bits64b
namespace Go.Proofs.Ytimipikabedjnaa
set_option linter.unusedVariables false

/-- A number's bytes. -/
def nb (x : Nat) : List Int := if x < 128 then [(x : Int)] else ((x % 128 + 128 : Nat) : Int) :: nb (x / 128)
  termination_by x
  decreasing_by omega
theorem nb_low {x : Nat} (h : x < 128) : nb x = [(x : Int)] := by rw [nb, if_pos h]
theorem nb_high {x : Nat} (h : ¬ x < 128) : nb x = ((x % 128 + 128 : Nat) : Int) :: nb (x / 128) := by rw [nb, if_neg h]
theorem nb_ind {P : Nat → Prop} (h0 : ∀ x, x < 128 → P x) (h1 : ∀ x, ¬ x < 128 → P (x / 128) → P x) (x : Nat) : P x := by
  induction x using Nat.strongRecOn with
  | _ x ih =>
    by_cases h : x < 128
    · exact h0 x h
    · exact h1 x h (ih (x / 128) (by omega))
theorem nb_pos (x : Nat) : 0 < (nb x).length := by
  by_cases h : x < 128
  · rw [nb_low h]; simp
  · rw [nb_high h]; simp
theorem nb_byte (x : Nat) : ∀ c ∈ nb x, 0 ≤ c ∧ c ≤ 255 := by
  refine nb_ind (P := fun x => ∀ c ∈ nb x, 0 ≤ c ∧ c ≤ 255) ?_ ?_ x
  · intro x h c hc
    rw [nb_low h] at hc
    simp at hc; omega
  · intro x h ih c hc
    rw [nb_high h] at hc
    rcases List.mem_cons.1 hc with rfl | hc
    · omega
    · exact ih c hc
/-- The last one. -/
def lst : List Int → Int
  | [] => 0
  | [c] => c
  | _ :: r => lst r
theorem lst_cons (c : Int) {r : List Int} (h : 0 < r.length) : lst (c :: r) = lst r := by
  cases r with
  | nil => simp at h
  | cons d r => rfl
theorem lst_get {l : List Int} (h : 0 < l.length) : l[l.length - 1]?.getD 0 = lst l := by
  induction l with
  | nil => simp at h
  | cons c r ih =>
    by_cases hr : 0 < r.length
    · rw [lst_cons c hr, ← ih hr]
      simp only [List.length_cons, Nat.add_sub_cancel]
      rw [List.getElem?_cons, if_neg (by omega)]
    · obtain rfl : r = [] := List.eq_nil_of_length_eq_zero (by omega)
      rfl
theorem nb_lst {x : Nat} (h : 1 ≤ x) : lst (nb x) ≠ 0 := by
  revert h
  refine nb_ind (P := fun x => 1 ≤ x → lst (nb x) ≠ 0) ?_ ?_ x
  · intro x h h1
    rw [nb_low h]
    simp [lst]; omega
  · intro x h ih _
    rw [nb_high h, lst_cons _ (nb_pos _)]
    exact ih (by omega)
theorem nb_top {x : Nat} (h : 1 < (nb x).length) : lst (nb x) ≠ 0 := by
  by_cases h1 : x < 128
  · rw [nb_low h1] at h; simp at h
  · exact nb_lst (by omega)
theorem nb_few : ∀ (k x : Nat), x < 2 * 128 ^ k → (nb x).length ≤ k + 1 ∧ ((nb x).length = k + 1 → lst (nb x) < 2)
  | 0, x, h => by
    have h1 : x < 128 := by simp at h; omega
    rw [nb_low h1]
    simp at h
    simp [lst]; omega
  | k + 1, x, h => by
    by_cases h1 : x < 128
    · rw [nb_low h1]; simp
    · have hx : x / 128 < 2 * 128 ^ k := by rw [Nat.pow_succ] at h; omega
      obtain ⟨a, b⟩ := nb_few k (x / 128) hx
      rw [nb_high h1, lst_cons _ (nb_pos _)]
      simp only [List.length_cons]
      exact ⟨by omega, fun e => b (by omega)⟩
theorem nb_ten {x : Nat} (h : x < 18446744073709551616) : (nb x).length ≤ 10 ∧ ((nb x).length = 10 → lst (nb x) ≤ 1) := by
  obtain ⟨a, b⟩ := nb_few 9 x (by simpa using h)
  exact ⟨a, fun e => by have := b e; omega⟩

/-- Of how many bytes the number is with which they begin; 0 if they end within it. -/
def ext : List Int → Nat
  | [] => 0
  | c :: r => if c < 128 then 1 else if ext r = 0 then 0 else ext r + 1
theorem ext_nb (x : Nat) (r : List Int) : ext (nb x ++ r) = (nb x).length := by
  refine nb_ind (P := fun x => ext (nb x ++ r) = (nb x).length) ?_ ?_ x
  · intro x h
    rw [nb_low h]
    simp [ext]; omega
  · intro x h ih
    rw [nb_high h, List.cons_append]
    have := nb_pos (x / 128)
    simp only [ext, List.length_cons]
    rw [if_neg (by omega), ih, if_neg (by omega)]
theorem ext_le : ∀ l : List Int, ext l ≤ l.length
  | [] => Nat.le_refl _
  | c :: r => by
    have := ext_le r
    simp only [ext, List.length_cons]
    split
    · omega
    · split <;> omega
/-- The first one below 128 stands there. -/
theorem ext_at : ∀ (l : List Int) (k : Nat), k < l.length → (∀ i, i < k → 128 ≤ l[i]?.getD 0) → l[k]?.getD 0 < 128 → ext l = k + 1
  | [], k, h, _, _ => by simp at h
  | c :: r, 0, _, _, h => by simp at h; simp [ext, h]
  | c :: r, k + 1, h, ha, hk => by
    have h0 : ¬ c < 128 := by have := ha 0 (by omega); simp at this; omega
    have := ext_at r k (by simpa using h) (fun i hi => by simpa using ha (i + 1) (by omega)) (by simpa using hk)
    simp [ext, h0, this]
theorem ext_none : ∀ (l : List Int), (∀ i, i < l.length → 128 ≤ l[i]?.getD 0) → ext l = 0
  | [], _ => rfl
  | c :: r, ha => by
    have h0 : ¬ c < 128 := by have := ha 0 (by simp); simp at this; omega
    have := ext_none r (fun i hi => by simpa using ha (i + 1) (by simpa using hi))
    simp [ext, h0, this]

/-- The number of these groups. -/
def gval : List Int → Int
  | [] => 0
  | c :: r => c % 128 + 128 * gval r
theorem gval_nb (x : Nat) : gval (nb x) = (x : Int) := by
  refine nb_ind (P := fun x => gval (nb x) = (x : Int)) ?_ ?_ x
  · intro x h
    rw [nb_low h]
    simp [gval]; omega
  · intro x h ih
    rw [nb_high h]
    simp only [gval, ih]
    omega
/-- 128 times itself, so many times. -/
def p7 (k : Nat) : Int := 128 ^ k
theorem p7_succ (k : Nat) : p7 (k + 1) = p7 k * 128 := Int.pow_succ _ _
theorem p7_two (k : Nat) : (2 : Int) ^ (7 * k) = p7 k := by unfold p7; rw [Int.pow_mul]; rfl
theorem p7_pos (k : Nat) : 0 < p7 k := Int.pow_pos (by decide)
theorem p7_le {k : Nat} (h : k ≤ 9) : p7 k ≤ 9223372036854775808 := by
  match k, h with
  | 0, _ | 1, _ | 2, _ | 3, _ | 4, _ | 5, _ | 6, _ | 7, _ | 8, _ | 9, _ => decide
theorem p7_le8 {k : Nat} (h : k ≤ 8) : p7 k ≤ 72057594037927936 := by
  match k, h with
  | 0, _ | 1, _ | 2, _ | 3, _ | 4, _ | 5, _ | 6, _ | 7, _ | 8, _ => decide
theorem gval_snoc : ∀ (l : List Int) (c : Int), gval (l ++ [c]) = gval l + c % 128 * p7 l.length
  | [], c => by simp [gval, p7]
  | d :: l, c => by
    simp only [List.cons_append, gval, List.length_cons, p7_succ, gval_snoc l c, Int.mul_add]
    rw [← Int.mul_assoc, Int.mul_comm 128 (c % 128), Int.mul_assoc, Int.mul_comm 128 (p7 _)]
    omega
theorem gval_bd : ∀ l : List Int, 0 ≤ gval l ∧ gval l < p7 l.length
  | [] => by simp [gval, p7]
  | c :: l => by
    obtain ⟨a, b⟩ := gval_bd l
    simp only [gval, List.length_cons, p7_succ]
    omega
theorem take_snoc7 {l : List Int} {k : Nat} (h : k < l.length) : l.take (k + 1) = l.take k ++ [l[k]?.getD 0] := by
  rw [List.take_succ_eq_append_getElem h, List.getElem?_eq_getElem h]; rfl

theorem or_comm (k : IntKind) (x y : Int) : bits .or k x y = bits .or k y x := by
  unfold bits
  simp only [BitVec.or_comm]
theorem wraps_u64 (n : Int) (h₀ : 0 ≤ n) (h₁ : n < 2 ^ 64) : IntKind.u64.wrap n = n := by rw [IntKind.wrap_u64]; omega
/-- A group is put above those that are there. -/
theorem or_group (x c : Int) (k : Nat) (hk : k ≤ 9) (h : 0 ≤ x ∧ x < p7 k) (hc : 0 ≤ c) (hs : c * p7 k < 18446744073709551616) : bits .or .u64 x (c * p7 k) = x + c * p7 k := by
  have e := p7_two k
  have h0 : 0 ≤ c * p7 k := Int.mul_nonneg hc (Int.le_of_lt (p7_pos k))
  rw [or_comm, bits_join .u64 64 (by decide) wraps_u64 (7 * k) (c * p7 k) x h0 (by rw [e]; exact Int.mul_emod_left _ _) (by simpa using hs) h.1 (by rw [e]; exact h.2) ?_, Int.add_comm]
  have := p7_le hk
  omega
theorem or_more (x : Int) (h : 0 ≤ x ∧ x ≤ 255) : bits .or .u8 x 128 = x % 128 + 128 := by
  rcases Int.lt_or_le x 128 with hx | hx
  · rw [or_comm, bits_join .u8 8 (by decide) wraps_u8 7 128 x (by decide) (by decide) (by decide) h.1 (by omega) (by omega)]; omega
  · obtain ⟨a, rfl⟩ : ∃ a : Nat, x = a := ⟨x.toNat, by omega⟩
    have e := (bits_nat .u8 8 (by decide) wraps_u8 a 128 (by omega) (by omega)).2
    have e2 : a ||| 128 = a := by
      obtain ⟨b, rfl⟩ : ∃ b, a = 128 + b := ⟨a - 128, by omega⟩
      have h3 := Nat.two_pow_add_eq_or_of_lt (show b < 2 ^ 7 by omega) 1
      simp only [Nat.mul_one] at h3
      rw [show 128 + b = 2 ^ 7 + b from rfl, h3, Nat.or_comm, ← Nat.or_assoc]
      simp
    rw [show ((128 : Nat) : Int) = 128 from rfl] at e
    rw [e, e2]
    omega

/-- All bits turned. -/
theorem not_i64 (x : Int) (h : -9223372036854775808 ≤ x ∧ x ≤ 9223372036854775807) : bits .xor .i64 (-1) x = -x - 1 := by
  have e1 : BitVec.ofInt 64 (-1) = BitVec.allOnes 64 := by decide
  have e2 : (BitVec.ofInt 64 x).toNat = (x % 18446744073709551616).toNat := by simp [BitVec.toNat_ofInt]
  show IntKind.i64.wrap (((BitVec.ofInt 64 (-1) ^^^ BitVec.ofInt 64 x).toNat : Nat) : Int) = _
  rw [e1, BitVec.allOnes_xor, BitVec.toNat_not, e2, IntKind.wrap_i64]
  omega
theorem or_one (x : Int) (h : 0 ≤ x ∧ 2 * x ≤ 18446744073709551614) : bits .or .u64 (2 * x) 1 = 2 * x + 1 :=
  bits_join .u64 64 (by decide) wraps_u64 1 (2 * x) 1 (by omega) (by omega) (by omega) (by decide) (by decide) (by decide)
theorem and_one (x : Int) (h : 0 ≤ x ∧ x ≤ 18446744073709551615) : bits .and .u64 x 1 = x % 2 :=
  bits_mask .u64 64 (by decide) wraps_u64 1 (by decide) x h.1 (by omega)
/-- A signed number, without its sign; and back. -/
def zz (x : Int) : Int := if x < 0 then -2 * x - 1 else 2 * x
def sg (x : Int) : Int := if x % 2 = 1 then -(x / 2) - 1 else x / 2
theorem sg_zz (x : Int) : sg (zz x) = x := by unfold sg zz; split <;> split <;> omega
theorem zz_bd {x : Int} (h : -9223372036854775808 ≤ x ∧ x ≤ 9223372036854775807) : 0 ≤ zz x ∧ zz x ≤ 18446744073709551615 := by unfold zz; split <;> omega
end Go.Proofs.Ytimipikabedjnaa
