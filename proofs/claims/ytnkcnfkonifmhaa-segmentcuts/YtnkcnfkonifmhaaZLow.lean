/- Plain facts on numbers as groups of seven bits: what they are, where they end, which number they are. -/
import Derived.Lib.Hide
import Derived.Laws.BitsLemmas
import Derived.Laws.Bits64b
import Derived.Laws.BitsAllLaws
import Derived.Test.YtnkcnfkonifmhaaRows
import Derived.WalkKit
import Derived.ProofKit
import Derived.OpenShut
import Derived.ShutString
import Derived.ChangeOld
import Derived.Below
import Derived.Deep.Draws
import Derived.Laws.Rows
import Derived.Laws.OwnMore
import Derived.OwnWalk
import Derived.Deep.AppendLies
import Derived.Deep.LoopGhost
import Derived.Deep.Onto
import Derived.Deep.OwnRows
import Derived.Deep.RegionHeld3
import Derived.Lib.SliceRun
import Derived.WalkMore
import Derived.Lib.AppendStr
import Derived.Laws.BytesArg
namespace Go.Proofs.Ytnkcnfkonifmhaa
set_option linter.unusedVariables false

/-- A number's bytes. -/
def nb (x : Nat) : List Int := if x < 128 then [(x : Int)] else ((x % 128 + 128 : Nat) : Int) :: nb (x / 128)
  termination_by x
  decreasing_by omega
theorem nb_low {x : Nat} (h : x < 128) : nb x = [(x : Int)] := by rw [nb, if_pos h]
theorem nb_high {x : Nat} (h : ¬ x < 128) : nb x = ((x % 128 + 128 : Nat) : Int) :: nb (x / 128) := by rw [nb, if_neg h]
theorem nb_ind {P : Nat → Prop} (h0 : ∀ x, x < 128 → P x) (h1 : ∀ x, ¬ x < 128 → P (x / 128) → P x) (x : Nat) : P x := by
  induction x using Nat.strongRecOn with
  | _ x ih =>
    by_cases h : x < 128
    · exact h0 x h
    · exact h1 x h (ih (x / 128) (by omega))
theorem nb_pos (x : Nat) : 0 < (nb x).length := by
  by_cases h : x < 128
  · rw [nb_low h]; simp
  · rw [nb_high h]; simp
theorem nb_byte (x : Nat) : ∀ c ∈ nb x, 0 ≤ c ∧ c ≤ 255 := by
  refine nb_ind (P := fun x => ∀ c ∈ nb x, 0 ≤ c ∧ c ≤ 255) ?_ ?_ x
  · intro x h c hc
    rw [nb_low h] at hc
    simp at hc; omega
  · intro x h ih c hc
    rw [nb_high h] at hc
    rcases List.mem_cons.1 hc with rfl | hc
    · omega
    · exact ih c hc
/-- The last one. -/
def lst : List Int → Int
  | [] => 0
  | [c] => c
  | _ :: r => lst r
theorem lst_cons (c : Int) {r : List Int} (h : 0 < r.length) : lst (c :: r) = lst r := by
  cases r with
  | nil => simp at h
  | cons d r => rfl
theorem lst_get {l : List Int} (h : 0 < l.length) : l[l.length - 1]?.getD 0 = lst l := by
  induction l with
  | nil => simp at h
  | cons c r ih =>
    by_cases hr : 0 < r.length
    · rw [lst_cons c hr, ← ih hr]
      simp only [List.length_cons, Nat.add_sub_cancel]
      rw [List.getElem?_cons, if_neg (by omega)]
    · obtain rfl : r = [] := List.eq_nil_of_length_eq_zero (by omega)
      rfl
theorem nb_lst {x : Nat} (h : 1 ≤ x) : lst (nb x) ≠ 0 := by
  revert h
  refine nb_ind (P := fun x => 1 ≤ x → lst (nb x) ≠ 0) ?_ ?_ x
  · intro x h h1
    rw [nb_low h]
    simp [lst]; omega
  · intro x h ih _
    rw [nb_high h, lst_cons _ (nb_pos _)]
    exact ih (by omega)
theorem nb_top {x : Nat} (h : 1 < (nb x).length) : lst (nb x) ≠ 0 := by
  by_cases h1 : x < 128
  · rw [nb_low h1] at h; simp at h
  · exact nb_lst (by omega)
theorem nb_few : ∀ (k x : Nat), x < 2 * 128 ^ k → (nb x).length ≤ k + 1 ∧ ((nb x).length = k + 1 → lst (nb x) < 2)
  | 0, x, h => by
    have h1 : x < 128 := by simp at h; omega
    rw [nb_low h1]
    simp at h
    simp [lst]; omega
  | k + 1, x, h => by
    by_cases h1 : x < 128
    · rw [nb_low h1]; simp
    · have hx : x / 128 < 2 * 128 ^ k := by rw [Nat.pow_succ] at h; omega
      obtain ⟨a, b⟩ := nb_few k (x / 128) hx
      rw [nb_high h1, lst_cons _ (nb_pos _)]
      simp only [List.length_cons]
      exact ⟨by omega, fun e => b (by omega)⟩
theorem nb_ten {x : Nat} (h : x < 18446744073709551616) : (nb x).length ≤ 10 ∧ ((nb x).length = 10 → lst (nb x) ≤ 1) := by
  obtain ⟨a, b⟩ := nb_few 9 x (by simpa using h)
  exact ⟨a, fun e => by have := b e; omega⟩

/-- Of how many bytes the number is with which they begin; 0 if they end within it. -/
def ext : List Int → Nat
  | [] => 0
  | c :: r => if c < 128 then 1 else if ext r = 0 then 0 else ext r + 1
theorem ext_nb (x : Nat) (r : List Int) : ext (nb x ++ r) = (nb x).length := by
  refine nb_ind (P := fun x => ext (nb x ++ r) = (nb x).length) ?_ ?_ x
  · intro x h
    rw [nb_low h]
    simp [ext]; omega
  · intro x h ih
    rw [nb_high h, List.cons_append]
    have := nb_pos (x / 128)
    simp only [ext, List.length_cons]
    rw [if_neg (by omega), ih, if_neg (by omega)]
theorem ext_le : ∀ l : List Int, ext l ≤ l.length
  | [] => Nat.le_refl _
  | c :: r => by
    have := ext_le r
    simp only [ext, List.length_cons]
    split
    · omega
    · split <;> omega
/-- The first one below 128 stands there. -/
theorem ext_at : ∀ (l : List Int) (k : Nat), k < l.length → (∀ i, i < k → 128 ≤ l[i]?.getD 0) → l[k]?.getD 0 < 128 → ext l = k + 1
  | [], k, h, _, _ => by simp at h
  | c :: r, 0, _, _, h => by simp at h; simp [ext, h]
  | c :: r, k + 1, h, ha, hk => by
    have h0 : ¬ c < 128 := by have := ha 0 (by omega); simp at this; omega
    have := ext_at r k (by simpa using h) (fun i hi => by simpa using ha (i + 1) (by omega)) (by simpa using hk)
    simp [ext, h0, this]
theorem ext_none : ∀ (l : List Int), (∀ i, i < l.length → 128 ≤ l[i]?.getD 0) → ext l = 0
  | [], _ => rfl
  | c :: r, ha => by
    have h0 : ¬ c < 128 := by have := ha 0 (by simp); simp at this; omega
    have := ext_none r (fun i hi => by simpa using ha (i + 1) (by simpa using hi))
    simp [ext, h0, this]

/-- The number of these groups. -/
def gval : List Int → Int
  | [] => 0
  | c :: r => c % 128 + 128 * gval r
theorem gval_nb (x : Nat) : gval (nb x) = (x : Int) := by
  refine nb_ind (P := fun x => gval (nb x) = (x : Int)) ?_ ?_ x
  · intro x h
    rw [nb_low h]
    simp [gval]; omega
  · intro x h ih
    rw [nb_high h]
    simp only [gval, ih]
    omega
/-- 128 times itself, so many times. -/
def p7 (k : Nat) : Int := 128 ^ k
theorem p7_succ (k : Nat) : p7 (k + 1) = p7 k * 128 := Int.pow_succ _ _
theorem p7_two (k : Nat) : (2 : Int) ^ (7 * k) = p7 k := by unfold p7; rw [Int.pow_mul]; rfl
theorem p7_pos (k : Nat) : 0 < p7 k := Int.pow_pos (by decide)
theorem p7_le {k : Nat} (h : k ≤ 9) : p7 k ≤ 9223372036854775808 := by
  match k, h with
  | 0, _ | 1, _ | 2, _ | 3, _ | 4, _ | 5, _ | 6, _ | 7, _ | 8, _ | 9, _ => decide
theorem p7_le8 {k : Nat} (h : k ≤ 8) : p7 k ≤ 72057594037927936 := by
  match k, h with
  | 0, _ | 1, _ | 2, _ | 3, _ | 4, _ | 5, _ | 6, _ | 7, _ | 8, _ => decide
theorem gval_snoc : ∀ (l : List Int) (c : Int), gval (l ++ [c]) = gval l + c % 128 * p7 l.length
  | [], c => by simp [gval, p7]
  | d :: l, c => by
    simp only [List.cons_append, gval, List.length_cons, p7_succ, gval_snoc l c, Int.mul_add]
    rw [← Int.mul_assoc, Int.mul_comm 128 (c % 128), Int.mul_assoc, Int.mul_comm 128 (p7 _)]
    omega
theorem gval_bd : ∀ l : List Int, 0 ≤ gval l ∧ gval l < p7 l.length
  | [] => by simp [gval, p7]
  | c :: l => by
    obtain ⟨a, b⟩ := gval_bd l
    simp only [gval, List.length_cons, p7_succ]
    omega
theorem take_snoc7 {l : List Int} {k : Nat} (h : k < l.length) : l.take (k + 1) = l.take k ++ [l[k]?.getD 0] := by
  rw [List.take_succ_eq_append_getElem h, List.getElem?_eq_getElem h]; rfl

theorem or_comm (k : IntKind) (x y : Int) : bits .or k x y = bits .or k y x := by
  unfold bits
  simp only [BitVec.or_comm]
theorem wraps_u64 (n : Int) (h₀ : 0 ≤ n) (h₁ : n < 2 ^ 64) : IntKind.u64.wrap n = n := by rw [IntKind.wrap_u64]; omega
/-- A group is put above those that are there. -/
theorem or_group (x c : Int) (k : Nat) (hk : k ≤ 9) (h : 0 ≤ x ∧ x < p7 k) (hc : 0 ≤ c) (hs : c * p7 k < 18446744073709551616) : bits .or .u64 x (c * p7 k) = x + c * p7 k := by
  have e := p7_two k
  have h0 : 0 ≤ c * p7 k := Int.mul_nonneg hc (Int.le_of_lt (p7_pos k))
  rw [or_comm, bits_join .u64 64 (by decide) wraps_u64 (7 * k) (c * p7 k) x h0 (by rw [e]; exact Int.mul_emod_left _ _) (by simpa using hs) h.1 (by rw [e]; exact h.2) ?_, Int.add_comm]
  have := p7_le hk
  omega
theorem or_more (x : Int) (h : 0 ≤ x ∧ x ≤ 255) : bits .or .u8 x 128 = x % 128 + 128 := by
  rcases Int.lt_or_le x 128 with hx | hx
  · rw [or_comm, bits_join .u8 8 (by decide) wraps_u8 7 128 x (by decide) (by decide) (by decide) h.1 (by omega) (by omega)]; omega
  · obtain ⟨a, rfl⟩ : ∃ a : Nat, x = a := ⟨x.toNat, by omega⟩
    have e := (bits_nat .u8 8 (by decide) wraps_u8 a 128 (by omega) (by omega)).2
    have e2 : a ||| 128 = a := by
      obtain ⟨b, rfl⟩ : ∃ b, a = 128 + b := ⟨a - 128, by omega⟩
      have h3 := Nat.two_pow_add_eq_or_of_lt (show b < 2 ^ 7 by omega) 1
      simp only [Nat.mul_one] at h3
      rw [show 128 + b = 2 ^ 7 + b from rfl, h3, Nat.or_comm, ← Nat.or_assoc]
      simp
    rw [show ((128 : Nat) : Int) = 128 from rfl] at e
    rw [e, e2]
    omega

/-- All bits turned. -/
theorem not_i64 (x : Int) (h : -9223372036854775808 ≤ x ∧ x ≤ 9223372036854775807) : bits .xor .i64 (-1) x = -x - 1 := by
  have e1 : BitVec.ofInt 64 (-1) = BitVec.allOnes 64 := by decide
  have e2 : (BitVec.ofInt 64 x).toNat = (x % 18446744073709551616).toNat := by simp [BitVec.toNat_ofInt]
  show IntKind.i64.wrap (((BitVec.ofInt 64 (-1) ^^^ BitVec.ofInt 64 x).toNat : Nat) : Int) = _
  rw [e1, BitVec.allOnes_xor, BitVec.toNat_not, e2, IntKind.wrap_i64]
  omega
theorem or_one (x : Int) (h : 0 ≤ x ∧ 2 * x ≤ 18446744073709551614) : bits .or .u64 (2 * x) 1 = 2 * x + 1 :=
  bits_join .u64 64 (by decide) wraps_u64 1 (2 * x) 1 (by omega) (by omega) (by omega) (by decide) (by decide) (by decide)
theorem and_one (x : Int) (h : 0 ≤ x ∧ x ≤ 18446744073709551615) : bits .and .u64 x 1 = x % 2 :=
  bits_mask .u64 64 (by decide) wraps_u64 1 (by decide) x h.1 (by omega)
/-- A signed number, without its sign; and back. -/
def zz (x : Int) : Int := if x < 0 then -2 * x - 1 else 2 * x
def sg (x : Int) : Int := if x % 2 = 1 then -(x / 2) - 1 else x / 2
theorem sg_zz (x : Int) : sg (zz x) = x := by unfold sg zz; split <;> split <;> omega
theorem zz_bd {x : Int} (h : -9223372036854775808 ≤ x ∧ x ≤ 9223372036854775807) : 0 ≤ zz x ∧ zz x ≤ 18446744073709551615 := by unfold zz; split <;> omega
end Go.Proofs.Ytnkcnfkonifmhaa
namespace Go.Proofs.Ytnkcnfkonifmhaa
set_option linter.unusedVariables false

/-- They are bytes. -/
def bytS (xs : List Int) : Prop := ∀ x ∈ xs, 0 ≤ x ∧ x ≤ 255
theorem byt_take {xs : List Int} (h : bytS xs) (n : Nat) : bytS (xs.take n) := fun x hx => h x (List.mem_of_mem_take hx)
theorem byt_drop {xs : List Int} (h : bytS xs) (n : Nat) : bytS (xs.drop n) := fun x hx => h x (List.mem_of_mem_drop hx)
theorem byt_app {xs ys : List Int} (h : bytS xs) (h' : bytS ys) : bytS (xs ++ ys) := fun x hx => by
  rw [List.mem_append] at hx
  rcases hx with hx | hx
  · exact h x hx
  · exact h' x hx
theorem byt_at {xs : List Int} (h : bytS xs) {k : Nat} (hk : k < xs.length) : 0 ≤ xs[k]?.getD 0 ∧ xs[k]?.getD 0 ≤ 255 := by
  rw [List.getElem?_eq_getElem hk]
  exact h _ (List.getElem_mem _)
end Go.Proofs.Ytnkcnfkonifmhaa
namespace Go.Proofs.Ytnkcnfkonifmhaa
set_option linter.unusedVariables false

/-- A header's numbers. -/
structure Hd where
  src : Int
  dst : Int
  seq : Int
  ack : Int
  off : Int
  ace : Int
  fl : Int
  win : Int
  sum : Int
  urg : Int
/-- They are numbers of their types. -/
structure HdOk (h : Hd) : Prop where
  src : 0 ≤ h.src ∧ h.src ≤ 65535
  dst : 0 ≤ h.dst ∧ h.dst ≤ 65535
  seq : 0 ≤ h.seq ∧ h.seq ≤ 4294967295
  ack : 0 ≤ h.ack ∧ h.ack ≤ 4294967295
  off : 0 ≤ h.off ∧ h.off ≤ 255
  ace : 0 ≤ h.ace ∧ h.ace ≤ 255
  fl : 0 ≤ h.fl ∧ h.fl ≤ 255
  win : 0 ≤ h.win ∧ h.win ≤ 65535
  sum : 0 ≤ h.sum ∧ h.sum ≤ 65535
  urg : 0 ≤ h.urg ∧ h.urg ≤ 65535
/-- May it be encoded? -/
def fitF (h : Hd) : Prop := 5 ≤ h.off ∧ h.off ≤ 15 ∧ h.ace ≤ 7 ∧ h.fl ≤ 63
/-- Two bytes of a number, the highest one first. -/
def twoF (x : Int) : List Int := [x / 256, x % 256]
def twosF (xs : List Int) : List Int := xs.flatMap twoF
def fourF (x : Int) : List Int := twosF [x / 65536, x % 65536]
def foursF (xs : List Int) : List Int := xs.flatMap fourF
/-- A header's bytes. -/
def hdF (h : Hd) : List Int := twosF [h.src, h.dst] ++ foursF [h.seq, h.ack] ++ [h.off * 16 + h.ace / 4, h.ace % 4 * 64 + h.fl] ++ twosF [h.win, h.sum, h.urg]
theorem hdF_len (h : Hd) : (hdF h).length = 20 := rfl
theorem twos_len (xs : List Int) : (twosF xs).length = 2 * xs.length := by
  induction xs with
  | nil => rfl
  | cons x xs ih => simp only [twosF, List.flatMap_cons, List.length_append, List.length_cons] at *; rw [ih]; simp [twoF]; omega
theorem fours_len (xs : List Int) : (foursF xs).length = 4 * xs.length := by
  induction xs with
  | nil => rfl
  | cons x xs ih => simp only [foursF, List.flatMap_cons, List.length_append, List.length_cons] at *; rw [ih]; simp [fourF, twosF, twoF]; omega
theorem twos_take {xs : List Int} {k : Nat} (h : k < xs.length) : twosF (xs.take (k + 1)) = twosF (xs.take k) ++ [(xs[k]?.getD 0) / 256, (xs[k]?.getD 0) % 256] := by
  rw [take_snoc7 h]; simp [twosF, twoF]
theorem fours_take {xs : List Int} {k : Nat} (h : k < xs.length) : foursF (xs.take (k + 1)) = foursF (xs.take k) ++ twosF [(xs[k]?.getD 0) / 65536, (xs[k]?.getD 0) % 65536] := by
  rw [take_snoc7 h]; simp [foursF, fourF]

/-- A number's bytes, as the document puts them. -/
def putF (n : Int) : Nat → List Int
  | 0 => []
  | k + 1 => putF (n / 256) k ++ [n % 256]
theorem putF_len (n : Int) (k : Nat) : (putF n k).length = k := by
  induction k generalizing n with
  | zero => rfl
  | succ k ih => simp [putF, ih]
theorem putF_two {x : Int} (h : 0 ≤ x ∧ x ≤ 65535) : putF x 2 = twoF x := by
  have e : x / 256 % 256 = x / 256 := by omega
  simp [putF, twoF, e]
theorem putF_four {x : Int} (h : 0 ≤ x ∧ x ≤ 4294967295) : putF x 4 = fourF x := by
  simp only [putF, fourF, twosF, twoF, List.flatMap_cons, List.flatMap_nil, List.nil_append, List.cons_append, List.append_nil, List.cons.injEq, and_true]
  omega

theorem and15_n : ∀ n : Nat, n < 256 → bits .and .u8 (n : Int) 15 = (n : Int) % 16 := by decide +kernel
theorem and7_n : ∀ n : Nat, n < 256 → bits .and .u8 (n : Int) 7 = (n : Int) % 8 := by decide +kernel
theorem and63_n : ∀ n : Nat, n < 256 → bits .and .u8 (n : Int) 63 = (n : Int) % 64 := by decide +kernel
theorem and3F_n : ∀ n : Nat, n < 256 → bits .and .u8 (n : Int) 3 = (n : Int) % 4 := by decide +kernel
theorem and14_n : ∀ n : Nat, n < 256 → bits .and .u8 (n : Int) 14 = (n : Int) % 16 - (n : Int) % 2 := by decide +kernel
theorem and1_n : ∀ n : Nat, n < 256 → bits .and .u8 (n : Int) 1 = (n : Int) % 2 := by decide +kernel
theorem byteF {P : Int → Prop} (h : ∀ n : Nat, n < 256 → P (n : Int)) {x : Int} (hx : 0 ≤ x ∧ x ≤ 255) : P x := by
  have := h x.toNat (by omega)
  rwa [Int.toNat_of_nonneg hx.1] at this
theorem and15F {x : Int} (hx : 0 ≤ x ∧ x ≤ 255) : bits .and .u8 x 15 = x % 16 := byteF (P := fun x => bits .and .u8 x 15 = x % 16) and15_n hx
theorem and7F {x : Int} (hx : 0 ≤ x ∧ x ≤ 255) : bits .and .u8 x 7 = x % 8 := byteF (P := fun x => bits .and .u8 x 7 = x % 8) and7_n hx
theorem and63F {x : Int} (hx : 0 ≤ x ∧ x ≤ 255) : bits .and .u8 x 63 = x % 64 := byteF (P := fun x => bits .and .u8 x 63 = x % 64) and63_n hx
theorem and3F {x : Int} (hx : 0 ≤ x ∧ x ≤ 255) : bits .and .u8 x 3 = x % 4 := byteF (P := fun x => bits .and .u8 x 3 = x % 4) and3F_n hx
theorem and14F {x : Int} (hx : 0 ≤ x ∧ x ≤ 255) : bits .and .u8 x 14 = x % 16 - x % 2 := byteF (P := fun x => bits .and .u8 x 14 = x % 16 - x % 2) and14_n hx
theorem and1F {x : Int} (hx : 0 ≤ x ∧ x ≤ 255) : bits .and .u8 x 1 = x % 2 := byteF (P := fun x => bits .and .u8 x 1 = x % 2) and1_n hx
theorem wrapsF_u16 (n : Int) (h₀ : 0 ≤ n) (h₁ : n < 2 ^ 16) : IntKind.u16.wrap n = n := by rw [IntKind.wrap_u16]; omega
theorem wrapsF_u32 (n : Int) (h₀ : 0 ≤ n) (h₁ : n < 2 ^ 32) : IntKind.u32.wrap n = n := by rw [IntKind.wrap_u32]; omega
theorem or16F {x y : Int} (hx : 0 ≤ x ∧ x ≤ 15) (hy : 0 ≤ y ∧ y ≤ 15) : bits .or .u8 (x * 16) y = x * 16 + y := bits_join .u8 8 (by decide) wraps_u8 4 (x * 16) y (by omega) (by omega) (by omega) hy.1 (by omega) (by omega)
theorem or64F {x y : Int} (hx : 0 ≤ x ∧ x ≤ 3) (hy : 0 ≤ y ∧ y ≤ 63) : bits .or .u8 (x * 64) y = x * 64 + y := bits_join .u8 8 (by decide) wraps_u8 6 (x * 64) y (by omega) (by omega) (by omega) hy.1 (by omega) (by omega)
theorem or4F {x y : Int} (hx : 0 ≤ x ∧ x ≤ 1) (hy : 0 ≤ y ∧ y ≤ 3) : bits .or .u8 (x * 4) y = x * 4 + y := bits_join .u8 8 (by decide) wraps_u8 2 (x * 4) y (by omega) (by omega) (by omega) hy.1 (by omega) (by omega)
theorem or256F {x y : Int} (hx : 0 ≤ x ∧ x ≤ 255) (hy : 0 ≤ y ∧ y ≤ 255) : bits .or .u16 (x * 256) y = x * 256 + y := bits_join .u16 16 (by decide) wrapsF_u16 8 (x * 256) y (by omega) (by omega) (by omega) hy.1 (by omega) (by omega)
theorem or65536F {x y : Int} (hx : 0 ≤ x ∧ x ≤ 65535) (hy : 0 ≤ y ∧ y ≤ 65535) : bits .or .u32 (x * 65536) y = x * 65536 + y := bits_join .u32 32 (by decide) wrapsF_u32 16 (x * 65536) y (by omega) (by omega) (by omega) hy.1 (by omega) (by omega)
end Go.Proofs.Ytnkcnfkonifmhaa
namespace Go.Proofs.Ytnkcnfkonifmhaa
open Go.ChangeShapes Go.WideShapes Go.ChangeAt Go.RowKit

theorem ret_int {k : IntKind} {a b : Int} (h : a = b) : Ending.returned (.int k a) = .returned (.int k b) := by rw [h]
theorem ret_bool {a b : Bool} (h : a = b) : Ending.returned (.bool a) = .returned (.bool b) := by rw [h]
theorem ret_pair {k l : IntKind} {a b c d : Int} (h : a = b) (h' : c = d) : Ending.returned (.tuple #[.int k a, .int l c]) = .returned (.tuple #[.int k b, .int l d]) := by rw [h, h']
theorem ret_pair_i {a b c d : Int} (h : a = b) (h' : c = d) : Ending.returned (.tuple #[.int .i64 a, .int .i64 c]) = .returned (.tuple #[.int .i64 b, .int .i64 d]) := by rw [h, h']
/-- In a quiet region: a callee that leaves the world alone. -/
theorem quiet_as {P : Program} {f : FuncId} {args : Array Value} {w : World} {n : Nat} {v : Value}
    (h : Calls P f args (w.drewN n) fun e w' => e = .returned v ∧ w.drewN n = w') : Calls P f args (w.drewN n) fun e w'' => e = .returned v ∧ ∃ m, w'' = w.drewN m :=
  h.mono fun _ _ ⟨he, hm⟩ => ⟨he, n, hm.symm⟩

theorem new_refl (a : World) : Below a.heap.size a a := Below.refl _ _
theorem new_then {a b c : World} (h : Below a.heap.size a b) (k : Below b.heap.size b c) : Below a.heap.size a c := h.trans (k.mono h.size)
theorem new_alloc {a w : World} (h : Below a.heap.size a w) (o : Obj) : Below a.heap.size a (w.alloc o) := h.alloc h.size o
theorem new_set {a w : World} (h : Below a.heap.size a w) {p : Addr} (hp : a.heap.size ≤ p.block) (u : Value) : Below a.heap.size a (w.setCell p u) := h.setCell hp u
theorem new_draw {B : Nat} {a w : World} (h : Below B a w) (n : Nat) : Below B a (w.drewN n) := ⟨h.os, h.tape, h.output, h.size, h.block⟩
theorem new_drew {B : Nat} {a w : World} (h : Below B a w) : Below B a w.drew := ⟨h.os, h.tape, h.output, h.size, h.block⟩
theorem new_undrew {a w : World} (h : Below a.drew.heap.size a.drew w) : Below a.heap.size a w := ⟨h.os, h.tape, h.output, h.size, h.block⟩
/-- Behind a call: the old cells and marks read as before, and there are not fewer blocks. -/
theorem behind {W w1 : World} (hb : Below W.heap.size W w1) : (∀ b o, b < W.heap.size → w1.cell? ⟨b, o, none⟩ = W.cell? ⟨b, o, none⟩) ∧ (∀ b o, b < W.heap.size → w1.frozen? ⟨b, o, none⟩ = W.frozen? ⟨b, o, none⟩) ∧ W.heap.size ≤ w1.heap.size :=
  ⟨fun b o h => hb.cell (p := ⟨b, o, none⟩) h, fun b o h => hb.frozen (p := ⟨b, o, none⟩) h, hb.size⟩
theorem cell_kept {W w1 : World} {p : Addr} {v : Value} (hb : Below W.heap.size W w1) (h : W.cell? p = some v) : w1.cell? p = some v := (hb.cell (World.block_lt_of_cell? W _ h)).trans h

theorem two_kept {W w1 : World} {p q : Addr} {u v : Value} (hb : Below W.heap.size W w1) (h : W.cell? p = some u ∧ W.cell? q = some v) : w1.cell? p = some u ∧ w1.cell? q = some v := ⟨cell_kept hb h.1, cell_kept hb h.2⟩

/-- Block g holds these cells, from its first on. -/
def At (w : World) (g : Nat) (vs : List Value) : Prop := g < w.heap.size ∧ ∀ i v, vs[i]? = some v → w.cell? ⟨g, i, none⟩ = some v
theorem At.cell {w : World} {g : Nat} {vs : List Value} (h : At w g vs) (i : Nat) {v : Value} (hv : vs[i]? = some v) : w.cell? ⟨g, i, none⟩ = some v := h.2 i v hv
theorem At.kept {w w1 : World} {g : Nat} {vs : List Value} (h : At w g vs) (hb : Below w.heap.size w w1) : At w1 g vs := ⟨Nat.lt_of_lt_of_le h.1 hb.size, fun i v hv => cell_kept hb (h.2 i v hv)⟩
theorem At.alloc {w : World} {g : Nat} {vs : List Value} (h : At w g vs) (o : Obj) : At (w.alloc o) g vs := h.kept (new_alloc (new_refl w) o)
theorem At.draw {w : World} {g : Nat} {vs : List Value} (h : At w g vs) (n : Nat) : At (w.drewN n) g vs := h
theorem At.new (w : World) (vs : List Value) (t : TypeId) : At (w.alloc (.cells vs.toArray t)) w.heap.size vs :=
  ⟨by simp, fun i v hv => (cell_of_row (w.alloc (.cells vs.toArray t)) w.heap.size i vs.toArray t (0, 0) (heap_alloc_new w _)).trans (by simpa using hv)⟩
theorem At.far {w : World} {g : Nat} {vs : List Value} (h : At w g vs) {p : Addr} (hp : g ≠ p.block) (u : Value) : At (w.setCell p u) g vs :=
  ⟨by simpa [World.setCell] using h.1, fun i v hv => (World.cell?_setCell_other w p ⟨g, i, none⟩ u (fun e => hp (by rw [e]))).trans (h.2 i v hv)⟩
theorem at_two {w : World} {g : Nat} {u v : Value} (h : g < w.heap.size) (hu : w.cell? ⟨g, 0, none⟩ = some u) (hv : w.cell? ⟨g, 1, none⟩ = some v) : At w g [u, v] :=
  ⟨h, fun i x hx => match i, hx with
    | 0, hx => by simp at hx; subst hx; exact hu
    | 1, hx => by simp at hx; subst hx; exact hv
    | n + 2, hx => by simp at hx⟩
theorem At.newAt {w : World} {g : Nat} (h : w.heap.size = g) (vs : List Value) (t : TypeId) : At (w.alloc (.cells vs.toArray t)) g vs := by
  subst h; exact At.new w vs t
theorem at_new2 {w : World} {g : Nat} {u v : Value} {t : TypeId} (h : w.heap.size = g) : At (w.alloc (.cells #[u, v] t)) g [u, v] := by
  subst h; exact At.new w [u, v] t
theorem At.set2 {w : World} {g : Nat} {u0 v0 u v : Value} (h : At w g [u0, v0]) : At ((w.setCell ⟨g, 0, none⟩ u).setCell ⟨g, 1, none⟩ v) g [u, v] := by
  have h0 := h.cell 0 rfl
  have h1 := h.cell 1 rfl
  refine at_two (by simpa [World.setCell] using h.1) ?_ ?_
  · rw [World.cell?_setCell_other _ _ _ _ (by simp)]
    exact World.cell?_setCell_same _ _ _ h0
  · exact World.cell?_setCell_same _ _ _ ((World.cell?_setCell_other _ _ _ _ (by simp)).trans h1)
end Go.Proofs.Ytnkcnfkonifmhaa
namespace Go.Proofs.Ytnkcnfkonifmhaa
open Go.RowKit
set_option linter.unusedVariables false

/-- But for the blocks F, and for new ones, the world is as it was. -/
structure Out (F : Nat → Prop) (w w' : World) : Prop where
  os : w'.os = w.os
  tape : w'.tape = w.tape
  output : w'.output = w.output
  size : w.heap.size ≤ w'.heap.size
  block : ∀ k, k < w.heap.size → ¬ F k → w'.heap[k]? = w.heap[k]?

theorem Out.refl (F : Nat → Prop) (w : World) : Out F w w := ⟨rfl, rfl, rfl, Nat.le_refl _, fun _ _ _ => rfl⟩
theorem Out.mono {F G : Nat → Prop} {w w' : World} (h : Out F w w') (hF : ∀ k, F k → G k) : Out G w w' := ⟨h.os, h.tape, h.output, h.size, fun k hk hg => h.block k hk fun hf => hg (hF k hf)⟩
/-- Two steps; what the second one may write is what the first one may, or came in between. -/
theorem Out.trans {F G : Nat → Prop} {a b c : World} (h : Out F a b) (k : Out G b c) (hG : ∀ i, i < a.heap.size → G i → F i) : Out F a c :=
  ⟨k.os.trans h.os, k.tape.trans h.tape, k.output.trans h.output, Nat.le_trans h.size k.size, fun i hi hf => (k.block i (Nat.lt_of_lt_of_le hi h.size) fun hg => hf (hG i hi hg)).trans (h.block i hi hf)⟩
theorem Out.alloc {F : Nat → Prop} {a w : World} (h : Out F a w) (o : Obj) : Out F a (w.alloc o) :=
  ⟨h.os, h.tape, h.output, Nat.le_trans h.size (by simp), fun k hk hf => (Below.heap_alloc _ _ _ (Nat.lt_of_lt_of_le hk h.size)).trans (h.block k hk hf)⟩
theorem Out.set {F : Nat → Prop} {a w : World} (h : Out F a w) {p : Addr} (hp : F p.block ∨ a.heap.size ≤ p.block) (u : Value) : Out F a (w.setCell p u) :=
  ⟨h.os, h.tape, h.output, Nat.le_trans h.size (by simp [World.setCell]), fun k hk hf => (Below.heap_setCell _ _ _ _ (by rintro rfl; rcases hp with hp | hp; exact hf hp; omega)).trans (h.block k hk hf)⟩
theorem Out.draw {F : Nat → Prop} {a w : World} (h : Out F a w) (n : Nat) : Out F a (w.drewN n) := ⟨h.os, h.tape, h.output, h.size, h.block⟩
theorem Out.drew {F : Nat → Prop} {a w : World} (h : Out F a w) : Out F a w.drew := ⟨h.os, h.tape, h.output, h.size, h.block⟩
theorem Out.new {F : Nat → Prop} {a w w' : World} (h : Out F a w) (k : Below w.heap.size w w') : Out F a w' :=
  ⟨k.os.trans h.os, k.tape.trans h.tape, k.output.trans h.output, Nat.le_trans h.size k.size, fun i hi hf => (k.block i (Nat.lt_of_lt_of_le hi h.size)).trans (h.block i hi hf)⟩
theorem Out.below {F : Nat → Prop} {w w' : World} {B : Nat} (h : Out F w w') (hB : B ≤ w.heap.size) (hF : ∀ k, F k → B ≤ k) : Below B w w' :=
  ⟨h.os, h.tape, h.output, h.size, fun k hk => h.block k (Nat.lt_of_lt_of_le hk hB) fun hf => by have := hF k hf; omega⟩
theorem Out.of {w w' : World} (h : Below w.heap.size w w') (F : Nat → Prop) : Out F w w' := ⟨h.os, h.tape, h.output, h.size, fun k hk _ => h.block k hk⟩

theorem alloc_le {a : Nat} {W : World} (h : a ≤ W.heap.size) (o : Obj) : a ≤ (W.alloc o).heap.size := Nat.le_trans h (by simp)
theorem alloc_size (W : World) (o : Obj) : (W.alloc o).heap.size = W.heap.size + 1 := by simp

/-- Block g holds just these cells. -/
def Blk (w : World) (g : Nat) (vs : List Value) (t : TypeId) : Prop := w.heap[g]? = some (.cells vs.toArray t (0, 0))
theorem Blk.lt {w : World} {g : Nat} {vs : List Value} {t : TypeId} (h : Blk w g vs t) : g < w.heap.size := by
  rcases Nat.lt_or_ge g w.heap.size with hlt | hge
  · exact hlt
  · rw [Blk, Array.getElem?_eq_none hge] at h; cases h
theorem Blk.cell {w : World} {g : Nat} {vs : List Value} {t : TypeId} (h : Blk w g vs t) (i : Nat) {v : Value} (hv : vs[i]? = some v) : w.cell? ⟨g, i, none⟩ = some v := by
  rw [cell_of_row w g i _ t _ h]; simpa using hv
theorem Blk.frozen {w : World} {g : Nat} {vs : List Value} {t : TypeId} (h : Blk w g vs t) (i : Nat) : w.frozen? ⟨g, i, none⟩ = false := frozen_of_row w g i _ t h
theorem Blk.out {F : Nat → Prop} {w w' : World} {g : Nat} {vs : List Value} {t : TypeId} (h : Blk w g vs t) (o : Out F w w') (hg : ¬ F g) : Blk w' g vs t := (o.block g h.lt hg).trans h
theorem Blk.kept {w w' : World} {g : Nat} {vs : List Value} {t : TypeId} (h : Blk w g vs t) (o : Below w.heap.size w w') : Blk w' g vs t := (o.block g h.lt).trans h
theorem Blk.alloc {w : World} {g : Nat} {vs : List Value} {t : TypeId} (h : Blk w g vs t) (o : Obj) : Blk (w.alloc o) g vs t := (Below.heap_alloc _ _ _ h.lt).trans h
theorem Blk.draw {w : World} {g : Nat} {vs : List Value} {t : TypeId} (h : Blk w g vs t) (n : Nat) : Blk (w.drewN n) g vs t := h
theorem Blk.drew {w : World} {g : Nat} {vs : List Value} {t : TypeId} (h : Blk w g vs t) : Blk w.drew g vs t := h
theorem Blk.new (w : World) (vs : List Value) (t : TypeId) : Blk (w.alloc (.cells vs.toArray t)) w.heap.size vs t := heap_alloc_new w _
theorem Blk.newAt {w : World} {g : Nat} (h : w.heap.size = g) (vs : List Value) (t : TypeId) : Blk (w.alloc (.cells vs.toArray t)) g vs t := by subst h; exact Blk.new w vs t
theorem Blk.set {w : World} {g : Nat} {vs : List Value} {t : TypeId} (h : Blk w g vs t) (j : Nat) (v : Value) : Blk (w.setCell ⟨g, j, none⟩ v) g (vs.set j v) t := by
  have := heap_setCell_same w g j _ t v h
  rw [Blk, this]
  simp
theorem Blk.far {w : World} {g : Nat} {vs : List Value} {t : TypeId} (h : Blk w g vs t) {p : Addr} (hp : g ≠ p.block) (u : Value) : Blk (w.setCell p u) g vs t := (Below.heap_setCell _ _ _ _ hp).trans h

/-- A call that only reads, in an open order. -/
def Reads (w : World) (v : Value) (e : Ending) (w' : World) : Prop := e = .returned v ∧ ∃ n, w' = w.drewN n
theorem Reads.quiet {P : Program} {f : FuncId} {args : Array Value} {w : World} {n : Nat} {v : Value}
    (h : Calls P f args (w.drewN n) (Reads (w.drewN n) v)) : Calls P f args (w.drewN n) fun e w'' => e = .returned v ∧ ∃ m, w'' = w.drewN m :=
  h.mono fun _ _ ⟨he, m, hm⟩ => ⟨he, n + m, by rw [hm]; exact World.drewN_drewN _ _ _⟩
end Go.Proofs.Ytnkcnfkonifmhaa
namespace Go.Proofs.Ytnkcnfkonifmhaa
open Go.RowKit
set_option linter.unusedVariables false

/-- t is a slice of e, and e an integer of kind k, of so many bytes. -/
structure IsElem (k : IntKind) (t e : TypeId) (bytes : Nat) : Prop where
  und : Try.prog.underlying t = some (.slice e)
  info : (Try.prog.info? e).map (fun i => (i.zero, i.size, i.bytes)) = some (some (.int k 0), 1, bytes)
  le : bytes ≤ 8

/-- The slice v holds the numbers zs, in a row of its own among the blocks from 'base' on. -/
def OwnK (k : IntKind) (e : TypeId) (w : World) (base : Nat) (v : Value) (zs : List Int) : Prop := w.ownsRow base e 1 v zs.length (zs.map (Value.int k))

section
variable {k : IntKind} {t e : TypeId} {bytes : Nat}
theorem OwnK.nil (k : IntKind) (e : TypeId) (w : World) (base : Nat) : OwnK k e w base (.slice none 0 0) [] := World.ownsRow_nil _ _ _ _
theorem OwnK.mono {w : World} {base base' : Nat} {v : Value} {zs : List Int} (h : OwnK k e w base v zs) (hb : base' ≤ base) : OwnK k e w base' v zs := World.ownsRow.mono h hb
theorem OwnK.alloc {w : World} {base : Nat} {v : Value} {zs : List Int} (h : OwnK k e w base v zs) (o : Obj) : OwnK k e (w.alloc o) base v zs := World.ownsRow.alloc h o
theorem OwnK.draw {w : World} {base : Nat} {v : Value} {zs : List Int} (h : OwnK k e w base v zs) (n : Nat) : OwnK k e (w.drewN n) base v zs := h
theorem OwnK.drew {w : World} {base : Nat} {v : Value} {zs : List Int} (h : OwnK k e w base v zs) : OwnK k e w.drew base v zs := h
theorem OwnK.out {F : Nat → Prop} {w w' : World} {base : Nat} {v : Value} {zs : List Int} (h : OwnK k e w base v zs) (o : Out F w w') (hF : ∀ g, v.ownBlock = some g → ¬ F g) : OwnK k e w' base v zs := by
  refine ⟨h.1, ?_⟩
  rcases h.2 with h' | ⟨g, cap, cur, h1, h2, h3, h4⟩
  · exact .inl h'
  · have hg : g < w.heap.size := Blk.lt (vs := cur.toList) (t := e) (by simpa [Blk] using h3)
    exact .inr ⟨g, cap, cur, h1, h2, (o.block g hg (hF g (by rw [h1]; rfl))).trans h3, h4⟩
theorem OwnK.kept {w w' : World} {base : Nat} {v : Value} {zs : List Int} (h : OwnK k e w base v zs) (hb : Below w.heap.size w w') : OwnK k e w' base v zs := h.out (F := fun _ => False) (Out.of hb _) (fun _ _ h => h)
/-- Its block, whole. -/
theorem OwnK.blk {w : World} {base g n cap : Nat} {zs : List Int} (h : OwnK k e w base (.slice (some ⟨g, 0, none⟩) n cap) zs) : n = zs.length ∧ n ≤ cap ∧ cap ≤ maxLen ∧ base ≤ g ∧ ∃ cur, cur.length = cap ∧ Blk w g cur e ∧ cur.take n = zs.map (Value.int k) := by
  rcases h.2 with ⟨h', _⟩ | ⟨g', cap', cur, h1, h2, h3, h4, h5, h6, h7⟩
  · cases h'
  · simp only [Value.slice.injEq, Option.some.injEq, Addr.mk.injEq, and_true] at h1
    obtain ⟨rfl, rfl, rfl⟩ := h1
    exact ⟨rfl, h4, h5, h2, cur.toList, by simpa using h6, by simpa [Blk] using h3, by simpa using h7⟩
theorem OwnK.at_ {w : World} {base g n cap : Nat} {zs : List Int} (h : OwnK k e w base (.slice (some ⟨g, 0, none⟩) n cap) zs) : At w g (zs.map (Value.int k)) := by
  obtain ⟨rfl, _, _, _, cur, hl, hb, ht⟩ := h.blk
  refine ⟨hb.lt, fun i v hv => hb.cell i ?_⟩
  rw [← ht, List.getElem?_take] at hv
  split at hv
  · exact hv
  · cases hv
theorem OwnK.cell {w : World} {base g n cap : Nat} {zs : List Int} (h : OwnK k e w base (.slice (some ⟨g, 0, none⟩) n cap) zs) {i : Nat} (hi : i < zs.length) : w.cell? ⟨g, i, none⟩ = some (.int k (zs[i]?.getD 0)) :=
  h.at_.cell i (by simp [List.getElem?_map, List.getElem?_eq_getElem hi])

/-- 'make([]T, n)'. -/
theorem make_k (E : IsElem k t e bytes) (n : Nat) (h : n ≤ 1000000) (w : World) :
    (Instr.makeSlice t (.int .i64 (n : Int)) (.int .i64 (n : Int))).run Try.prog w = .ok (.slice (some ⟨w.heap.size, 0, none⟩) n n) (w.alloc (.cells (madeCells #[.int k 0] n) e)) :=
  run_make_row' t e (.int k 0) bytes E.und E.info rfl .i64 .i64 n (by have := Nat.mul_le_mul E.le h; omega) (by omega) w
/-- 'make([]T, 0, n)'. -/
theorem make_room (E : IsElem k t e bytes) (n : Nat) (h : n ≤ 1000000) (w : World) :
    (Instr.makeSlice t (.int .i64 0) (.int .i64 (n : Int))).run Try.prog w = .ok (.slice (some ⟨w.heap.size, 0, none⟩) 0 n) (w.alloc (.cells (madeCells #[.int k 0] n) e)) := by
  obtain ⟨i, hi, hzz⟩ := Option.map_eq_some_iff.1 E.info
  simp only [Prod.mk.injEq] at hzz
  obtain ⟨hz, hs, hb⟩ := hzz
  have hb' : (i.bytes : Int) * (n : Int) ≤ 281474976710656 := by
    have h1 : i.bytes * n ≤ 8 * 1000000 := Nat.mul_le_mul (by rw [hb]; exact E.le) h
    have h2 : ((i.bytes * n : Nat) : Int) ≤ 281474976710656 := by omega
    rwa [Int.natCast_mul] at h2
  have hr := run_make (P := Try.prog) w t e i _ E.und hi hz .i64 .i64 0 (n : Int) (Int.le_refl _) (by omega) hb' (by omega)
  simp only [Int.toNat_zero, Int.toNat_natCast, hs, Nat.mul_one] at hr
  exact hr
theorem madeL (k : IntKind) (n : Nat) : madeCells #[.int k 0] n = ((List.replicate n (0 : Int)).map (Value.int k)).toArray := by
  apply Array.toList_inj.1
  rw [toList_madeCells_one]; simp
theorem OwnK.room {w : World} {base n : Nat} (hb : base ≤ w.heap.size) (h : n ≤ 1000000) : OwnK k e (w.alloc (.cells (madeCells #[.int k 0] n) e)) base (.slice (some ⟨w.heap.size, 0, none⟩) 0 n) [] :=
  World.ownsRow_made w _ n hb (by unfold maxLen; omega) (by rw [size_madeCells]; omega)

theorem wp_pushK (E : IsElem k t e bytes) {ops : Array Oper} {rest : List Oper} {o : Oper} {a : Act} {Q : Exit → Act → World → Prop} {W : World} (hgd : o.guard = none) (s x : Operand)
    (ho : o.op = .call { callee := .builtin .append, args := #[s, x], argTypes := #[t, t] })
    (base : Nat) (v : Value) (zs : List Int) (z : Int) (nb cb : Nat) (hs : a.eval s = v) (hx : a.eval x = .slice (some ⟨nb, 0, none⟩) 1 cb) (hz : W.cell? ⟨nb, 0, none⟩ = some (.int k z)) (hown : OwnK k e W base v zs) (n1 : Nat) (hn1 : zs.length + 1 = n1) (hlen : n1 ≤ 1000000000) (hbase : base ≤ W.heap.size) (H : Nat) (hH : W.heap.size = H)
    (h : ∀ g cap w', OwnK k e w' base (.slice (some ⟨g, 0, none⟩) n1 cap) (zs ++ [z]) → W.grownBy w' v.ownBlock → (v.ownBlock = some g ∨ g = H) → g < w'.heap.size → wpList Try.prog ops Q rest (a.put o.dst (.slice (some ⟨g, 0, none⟩) n1 cap)) w') :
    wpList Try.prog ops Q (o :: rest) a W := by
  obtain ⟨i0, hi, hz0, hz1, hz2⟩ := info_parts E.info
  refine wpList_append_lies _ hgd s x t ho base e i0 (.int k 0) 1 bytes E.und hi hz0 hz1 hz2 rfl (by decide) v zs.length (zs.map (Value.int k)) hs hown ⟨nb, 0, none⟩ 1 cb [.int k z] hx rfl ?_ ?_ (by decide) ?_ ?_ hbase H hH ?_
  · intro j u hj
    match j, hj with
    | 0, hj => simp at hj; subst hj; exact hz
  · intro u hu; simp at hu; subst hu; rfl
  · unfold maxLen; omega
  · have := Nat.mul_le_mul (show zs.length + 1 ≤ 1000000000 by omega) E.le; omega
  · intro g cap w' h1 h2 h3 h4
    rw [hn1] at h1 ⊢
    refine h g cap w' ?_ h2 h3 h4
    unfold OwnK; rw [List.map_append, List.length_append, show zs.length + [z].length = n1 from hn1]; exact h1

/-- The same as a step of a region that draws its order. -/
theorem step_pushK (E : IsElem k t e bytes) {ops : Array Oper} {o : Oper} {a : Act} {K : Act → World → Prop} {Q : Exit → Act → World → Prop} {X : Prop} {W : World} (hgd : o.guard = none) (s x : Operand)
    (ho : o.op = .call { callee := .builtin .append, args := #[s, x], argTypes := #[t, t] })
    (base : Nat) (v : Value) (zs : List Int) (z : Int) (nb cb : Nat) (hs : a.eval s = v) (hx : a.eval x = .slice (some ⟨nb, 0, none⟩) 1 cb) (hz : W.cell? ⟨nb, 0, none⟩ = some (.int k z)) (hown : OwnK k e W base v zs) (n1 : Nat) (hn1 : zs.length + 1 = n1) (hlen : n1 ≤ 1000000000) (hbase : base ≤ W.heap.size) (H : Nat) (hH : W.heap.size = H)
    (h : ∀ g cap w', OwnK k e w' base (.slice (some ⟨g, 0, none⟩) n1 cap) (zs ++ [z]) → W.grownBy w' v.ownBlock → (v.ownBlock = some g ∨ g = H) → g < w'.heap.size → K (a.put o.dst (.slice (some ⟨g, 0, none⟩) n1 cap)) w') :
    if Region.wanted o (yielded ops a.tmps) = true then Oper.wp Try.prog o a W K Q else X := by
  obtain ⟨i0, hi, hz0, hz1, hz2⟩ := info_parts E.info
  refine step_append_lies _ hgd s x t ho base e i0 (.int k 0) 1 bytes E.und hi hz0 hz1 hz2 rfl (by decide) v zs.length (zs.map (Value.int k)) hs hown ⟨nb, 0, none⟩ 1 cb [.int k z] hx rfl ?_ ?_ (by decide) ?_ ?_ hbase H hH ?_
  · intro j u hj
    match j, hj with
    | 0, hj => simp at hj; subst hj; exact hz
  · intro u hu; simp at hu; subst hu; rfl
  · unfold maxLen; omega
  · have := Nat.mul_le_mul (show zs.length + 1 ≤ 1000000000 by omega) E.le; omega
  · intro g cap w' h1 h2 h3 h4
    rw [hn1] at h1 ⊢
    refine h g cap w' ?_ h2 h3 h4
    unfold OwnK; rw [List.map_append, List.length_append, show zs.length + [z].length = n1 from hn1]; exact h1
/-- Numbers that are read: nil, or they lie from an address on. -/
def Src (k : IntKind) (w : World) (A : Option Addr) (m c : Nat) (ys : List Int) : Prop :=
  m = ys.length ∧ ((A = none ∧ m = 0 ∧ c = 0) ∨ ∃ a, A = some a ∧ ∀ j, j < ys.length → w.cell? (a.add j) = some (.int k (ys[j]?.getD 0)))
theorem Src.kept {k : IntKind} {w w' : World} {A : Option Addr} {m c : Nat} {ys : List Int} (h : Src k w A m c ys) (o : Below w.heap.size w w') : Src k w' A m c ys := by
  obtain ⟨rfl, h⟩ := h
  refine ⟨rfl, ?_⟩
  rcases h with h | ⟨a, rfl, h⟩
  · exact .inl h
  · exact .inr ⟨a, rfl, fun j hj => cell_kept o (h j hj)⟩
theorem run_catK (E : IsElem k t e bytes) (ty : TypeId) (W : World) (base : Nat) (v : Value) (zs : List Int) (A : Option Addr) (m c : Nat) (ys : List Int) (hown : OwnK k e W base v zs) (hs : Src k W A m c ys) (hlen : zs.length + ys.length ≤ 1000000000) (hbase : base ≤ W.heap.size) :
    ∃ v' w', (Builtin.append_ #[t, t] ty #[v, .slice A m c]).run Try.prog W = .ok v' w' ∧ OwnK k e w' base v' (zs ++ ys) ∧ W.grownBy w' v.ownBlock ∧ (v'.ownBlock = v.ownBlock ∨ v'.ownBlock = some W.heap.size) := by
  obtain ⟨i0, hi, hz0, hz1, hz2⟩ := info_parts E.info
  obtain ⟨rfl, hs⟩ := hs
  rcases hs with ⟨rfl, h0, rfl⟩ | ⟨a, rfl, hc⟩
  · obtain rfl : ys = [] := List.eq_nil_of_length_eq_zero h0
    exact ⟨v, W, run_append_owned_none (P := Try.prog) (w := W) base t ty e i0 1 E.und hi v _ _ hown, by simpa using hown, ⟨rfl, rfl, rfl, Nat.le_refl _, fun _ _ _ => rfl⟩, .inl rfl⟩
  · obtain ⟨v', w', h1, h2, h3, _, h5⟩ := run_append_own_at (P := Try.prog) W base t ty e i0 (.int k 0) 1 bytes E.und hi hz0 hz1 hz2 rfl (by decide) v zs.length (zs.map (Value.int k)) hown a ys.length c (ys.map (Value.int k)) (by simp)
      (fun j u hj => by
        rw [List.getElem?_map] at hj
        obtain ⟨z, hz, rfl⟩ := Option.map_eq_some_iff.1 hj
        have hlt : j < ys.length := (List.getElem?_eq_some_iff.1 hz).1
        rw [hc j hlt, hz]; rfl)
      (fun u hu => by
        rw [List.mem_map] at hu
        obtain ⟨z, _, rfl⟩ := hu
        rfl)
      (by unfold maxLen; omega) (by have := Nat.mul_le_mul hlen E.le; omega) hbase
    refine ⟨v', w', h1, ?_, h3, h5⟩
    unfold OwnK
    rw [List.length_append, List.map_append]
    exact h2
/-- 'append(out, more...)' as a step of a region that draws its order. -/
theorem step_catK (E : IsElem k t e bytes) {ops : Array Oper} {o : Oper} {a : Act} {K : Act → World → Prop} {Q : Exit → Act → World → Prop} {X : Prop} {W : World} (hgd : o.guard = none) (s x : Operand)
    (ho : o.op = .call { callee := .builtin .append, args := #[s, x], argTypes := #[t, t] })
    (base : Nat) (v : Value) (zs : List Int) (A : Option Addr) (m c : Nat) (ys : List Int) (hs : a.eval s = v) (hx : a.eval x = .slice A m c) (hsrc : Src k W A m c ys) (hown : OwnK k e W base v zs) (hlen : zs.length + ys.length ≤ 1000000000) (hbase : base ≤ W.heap.size) (H : Nat) (hH : W.heap.size = H)
    (h : ∀ v' w', OwnK k e w' base v' (zs ++ ys) → W.grownBy w' v.ownBlock → (v'.ownBlock = v.ownBlock ∨ v'.ownBlock = some H) → K (a.put o.dst v') w') :
    if Region.wanted o (yielded ops a.tmps) = true then Oper.wp Try.prog o a W K Q else X := by
  have hw : Region.wanted o (yielded ops a.tmps) = true := by simp [Region.wanted, hgd]
  rw [if_pos hw]
  obtain ⟨v', w', hr, h2, h3, h4⟩ := run_catK E o.type W base v zs A m c ys hown hsrc hlen hbase
  unfold Oper.wp execOp
  simp only [ho, resolve, invoke, builtin, Sem.run_bind, Sem.run_pure, Result.andThen_ok, List.map_toArray, List.map_cons, List.map_nil, hs, hx, hr]
  exact h v' w' h2 h3 (by rw [← hH]; exact h4)
/-- Behind an append: nothing below 'base' has turned. -/
theorem below_push {W w' : World} {base : Nat} {v : Value} {zs : List Int} (hown : OwnK k e W base v zs) (hg : W.grownBy w' v.ownBlock) (hbase : base ≤ W.heap.size) : Below base W w' :=
  (Below.refl _ _).grown hg hbase (fun j hj => (World.ownsRow.lt hown j hj).1)
theorem push_below {wr w' : World} {base m : Nat} {v : Value} {zs : List Int} {o : Obj} (hown : OwnK k e wr base v zs) (hg : ((wr.drewN m).alloc o).grownBy w' v.ownBlock) (hbase : base ≤ wr.heap.size) : Below base wr w' :=
  Below.trans (Below.alloc (w := wr.drewN m) (new_draw (Below.refl base wr) m) hbase o) (below_push ((hown.draw m).alloc o) hg (alloc_le (W := wr.drewN m) hbase o))
end
theorem cell_low {B : Nat} {w w' : World} {p : Addr} {v : Value} (hb : Below B w w') (hp : p.block < B) (h : w.cell? p = some v) : w'.cell? p = some v := (hb.cell hp).trans h
end Go.Proofs.Ytnkcnfkonifmhaa
namespace Go.Proofs.Ytnkcnfkonifmhaa
open Go.RowKit
set_option linter.unusedVariables false

theorem elB : IsElem .u8 32 5 1 := ⟨by kernel_rfl, by kernel_rfl, by decide⟩
abbrev OwnB (w : World) (base : Nat) (v : Value) (zs : List Int) : Prop := OwnK .u8 5 w base v zs

section
variable {k : IntKind} {t e : TypeId} {bytes : Nat}
/-- 'append(out, more...)' in a plain region. -/
theorem wp_catK (E : IsElem k t e bytes) {ops : Array Oper} {rest : List Oper} {o : Oper} {a : Act} {Q : Exit → Act → World → Prop} {W : World} (hgd : o.guard = none) (s x : Operand)
    (ho : o.op = .call { callee := .builtin .append, args := #[s, x], argTypes := #[t, t] })
    (base : Nat) (v : Value) (zs : List Int) (A : Option Addr) (m c : Nat) (ys : List Int) (hs : a.eval s = v) (hx : a.eval x = .slice A m c) (hsrc : Src k W A m c ys) (hown : OwnK k e W base v zs) (hlen : zs.length + ys.length ≤ 1000000000) (hbase : base ≤ W.heap.size)
    (h : ∀ v' w', OwnK k e w' base v' (zs ++ ys) → W.grownBy w' v.ownBlock → (v'.ownBlock = v.ownBlock ∨ v'.ownBlock = some W.heap.size) → wpList Try.prog ops Q rest (a.put o.dst v') w') : wpList Try.prog ops Q (o :: rest) a W := by
  refine wpList_plain hgd fun K hK => ?_
  obtain ⟨v', w', hr, h2, h3, h4⟩ := run_catK E o.type W base v zs A m c ys hown hsrc hlen hbase
  unfold Oper.wp execOp
  simp only [ho, resolve, invoke, builtin, Sem.run_bind, Sem.run_pure, Result.andThen_ok, List.map_toArray, List.map_cons, List.map_nil, hs, hx, hr]
  exact hK _ _ (h v' w' h2 h3 h4)
/-- An empty list, made. -/
theorem OwnK.made0 {w : World} {base : Nat} (hb : base ≤ w.heap.size) : OwnK k e (w.alloc (.cells #[] e)) base (.slice (some ⟨w.heap.size, 0, none⟩) 0 0) [] :=
  World.ownsRow_made w _ 0 hb (by unfold maxLen; omega) rfl
theorem OwnK.form {w : World} {base : Nat} {v : Value} {zs : List Int} (h : OwnK k e w base v zs) : (v = .slice none 0 0 ∧ zs = []) ∨ ∃ g c, v = .slice (some ⟨g, 0, none⟩) zs.length c := by
  rcases h.2 with ⟨h1, h2⟩ | ⟨g, cap, cur, h1, _⟩
  · exact .inl ⟨h1, List.eq_nil_of_length_eq_zero h2⟩
  · exact .inr ⟨g, cap, h1⟩
theorem OwnK.some {w : World} {base : Nat} {v : Value} {zs : List Int} {n : Nat} (h : OwnK k e w base v zs) (hn : zs.length = n) (h0 : 0 < n) : ∃ g c, v = .slice (some ⟨g, 0, none⟩) n c ∧ base ≤ g ∧ g < w.heap.size := by
  rcases h.form with ⟨_, rfl⟩ | ⟨g, c, rfl⟩
  · simp at hn; omega
  · obtain ⟨_, _, _, hb, cur, _, hB, _⟩ := h.blk
    subst hn
    exact ⟨g, c, rfl, hb, hB.lt⟩
/-- What a call made may be read. -/
theorem OwnK.src {w : World} {base : Nat} {A : Option Addr} {n c : Nat} {zs : List Int} (h : OwnK k e w base (.slice A n c) zs) : Src k w A n c zs := by
  rcases h.form with ⟨h1, rfl⟩ | ⟨g, c', h1⟩
  · simp at h1
    obtain ⟨rfl, rfl, rfl⟩ := h1
    exact ⟨rfl, .inl ⟨rfl, rfl, rfl⟩⟩
  · simp at h1
    obtain ⟨rfl, rfl, rfl⟩ := h1
    refine ⟨rfl, .inr ⟨_, rfl, fun j hj => ?_⟩⟩
    have := h.cell hj
    unfold Addr.add
    split
    · simp_all
    · simpa using this
end
/-- A list of its own. -/
def ListOf (w : World) (zs : List Int) (e : Ending) (w' : World) : Prop := ∃ v, e = .returned v ∧ OwnB w' w.heap.size v zs ∧ Below w.heap.size w w'
end Go.Proofs.Ytnkcnfkonifmhaa
namespace Go.Proofs.Ytnkcnfkonifmhaa
open Go.RowKit
set_option linter.unusedVariables false

/-- Numbers that are only read: nothing, or they lie in block g from some place on. -/
def LsK (k : IntKind) (w : World) (g : Nat) (A : Option Addr) (zs : List Int) : Prop := zs = [] ∨ ∃ off, A = some ⟨g, off, none⟩ ∧ ∀ i, i < zs.length → w.cell? ⟨g, off + i, none⟩ = some (.int k (zs[i]?.getD 0))
theorem LsK.kept {k : IntKind} {w w' : World} {g : Nat} {A : Option Addr} {zs : List Int} (h : LsK k w g A zs) (o : Below w.heap.size w w') : LsK k w' g A zs := by
  rcases h with h | ⟨off, rfl, h⟩
  · exact .inl h
  · exact .inr ⟨off, rfl, fun i hi => cell_kept o (h i hi)⟩
/-- The bytes of numbers. -/
def puts (xs : List Int) : List Int := xs.flatMap fun x => nb x.toNat
theorem puts_take {xs : List Int} {k : Nat} (h : k < xs.length) : puts (xs.take (k + 1)) = puts (xs.take k) ++ nb (xs[k]?.getD 0).toNat := by
  rw [take_snoc7 h]; simp [puts]
theorem puts_few : ∀ (xs : List Int), (∀ x ∈ xs, 0 ≤ x ∧ x ≤ 18446744073709551615) → (puts xs).length ≤ 10 * xs.length
  | [], _ => by simp [puts]
  | x :: xs, h => by
    have h1 := puts_few xs (fun y hy => h y (List.mem_cons_of_mem _ hy))
    have h2 := (nb_ten (x := x.toNat) (by have := h x (by simp); omega)).1
    have e : puts (x :: xs) = nb x.toNat ++ puts xs := rfl
    rw [e, List.length_append, List.length_cons]
    omega
theorem nbi_low {y : Int} (h : 0 ≤ y) (h1 : y < 128) : nb y.toNat = [y] := by rw [nb_low (by omega)]; congr 1; omega
theorem nbi_high {y : Int} (h1 : 128 ≤ y) : nb y.toNat = (y % 128 + 128) :: nb (y / 128).toNat := by
  rw [nb_high (by omega)]; congr 1
  · omega
  · congr 1; omega

def PutInv (w : World) (ys xs : List Int) (L : Nat) (gh : Nat) (vo vi : Value) (wr : World) : Prop :=
  ∃ k : Nat, vi = .int .i64 (k : Int) ∧ L - k = gh ∧ k ≤ L ∧ OwnB wr w.heap.size vo (ys ++ puts (xs.take k)) ∧ Below w.heap.size w wr
def GrpInv (w : World) (T : List Int) (gh : Nat) (vo vx : Value) (wr : World) : Prop :=
  ∃ (y : Int) (zs : List Int), vx = .int .u64 y ∧ y.toNat = gh ∧ 0 ≤ y ∧ y ≤ 18446744073709551615 ∧ zs ++ nb y.toNat = T ∧ OwnB wr w.heap.size vo zs ∧ Below w.heap.size w wr
end Go.Proofs.Ytnkcnfkonifmhaa
namespace Go.Proofs.Ytnkcnfkonifmhaa
open Go.RowKit
set_option linter.unusedVariables false

/-- A text's bytes. -/
def sb (s : ByteArray) : List Int := s.data.toList.map fun b => (b.toNat : Int)
theorem sb_len (s : ByteArray) : (sb s).length = s.size := by rw [sb, List.length_map, Array.length_toList]; rfl
theorem sb_byte (s : ByteArray) : ∀ c ∈ sb s, 0 ≤ c ∧ c ≤ 255 := by
  intro c hc
  simp only [sb, List.mem_map] at hc
  obtain ⟨b, _, rfl⟩ := hc
  have := b.toNat_lt
  omega
theorem sb_back (s : ByteArray) : strOfNums (sb s) = s := by
  obtain ⟨⟨l⟩⟩ := s
  have e : ((fun n : Int => UInt8.ofNat n.toNat) ∘ fun b : UInt8 => (b.toNat : Int)) = id := by funext b; simp
  simp [strOfNums, sb, e]
theorem strCells_sb (s : ByteArray) : Lib.strCells s = (sb s).map (Value.int .u8) := by simp [Lib.strCells, sb]

/-- 'append(out, s...)', s a text. -/
theorem wp_strB {ops : Array Oper} {rest : List Oper} {o : Oper} {a : Act} {Q : Exit → Act → World → Prop} {W : World} (hgd : o.guard = none) (sl x : Operand)
    (ho : o.op = .call { callee := .builtin .append, args := #[sl, x], argTypes := #[32, 9] })
    (base : Nat) (v : Value) (zs : List Int) (s : ByteArray) (hs : a.eval sl = v) (hx : a.eval x = .string s) (hown : OwnB W base v zs) (hlen : zs.length + s.size ≤ 1000000000) (hbase : base ≤ W.heap.size)
    (h : ∀ v' w', OwnB w' base v' (zs ++ sb s) → W.grownBy w' v.ownBlock → wpList Try.prog ops Q rest (a.put o.dst v') w') : wpList Try.prog ops Q (o :: rest) a W := by
  obtain ⟨i0, hi, hz0, hz1, hz2⟩ := info_parts elB.info
  refine Lib.wpList_append_own_string _ hgd sl x _ _ ho base 5 i0 elB.und (by kernel_rfl) hi hz0 hz1 hz2 v zs.length (zs.map (Value.int .u8)) hs hown s hx (by unfold maxLen; omega) (by omega) hbase ?_
  intro v' w' h1 h2 _
  refine h v' w' ?_ h2
  unfold OwnB OwnK
  rw [List.map_append, List.length_append, sb_len, ← strCells_sb]
  exact h1
/-- Bytes as a text. -/
theorem text_own {w : World} {base g n c : Nat} {zs : List Int} (h : OwnB w base (.slice (some ⟨g, 0, none⟩) n c) zs) : (convert 32 9 (.slice (some ⟨g, 0, none⟩) n c)).run Try.prog w = .ok (.string (strOfNums zs)) w := by
  obtain ⟨hn, _, _, _, cur, _, _, _⟩ := h.blk
  refine run_convert_bytes_arg w _ _ elB.und (by kernel_rfl) g 0 n c zs hn.symm (fun i hi => ?_) _ (by kernel_rfl)
  rw [Nat.zero_add, List.getD_eq_getElem?_getD]
  exact h.cell (by omega)

/-- A list of its own, which is not empty. -/
def BytesOf (w : World) (zs : List Int) (n : Nat) (e : Ending) (w' : World) : Prop :=
  ∃ g c, e = .returned (.slice (some ⟨g, 0, none⟩) n c) ∧ OwnB w' w.heap.size (.slice (some ⟨g, 0, none⟩) n c) zs ∧ Below w.heap.size w w'
theorem ListOf.bytes {w w' : World} {zs : List Int} {n : Nat} {e : Ending} (h : ListOf w zs e w') (hn : zs.length = n) (h0 : 0 < n) : BytesOf w zs n e w' := by
  obtain ⟨v, rfl, O, B⟩ := h
  obtain ⟨g, c, rfl, _, _⟩ := O.some hn h0
  exact ⟨g, c, rfl, O, B⟩
end Go.Proofs.Ytnkcnfkonifmhaa
