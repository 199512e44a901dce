/- Plain facts on a header and its bytes. -/
import Derived.Test.YtdibhpiafipibaaBytM
import Derived.Laws.BitsAllLaws
namespace Go.Proofs.Ytdibhpiafipibaa
set_option linter.unusedVariables false

/-- A header's numbers. -/
structure Hd where
  src : Int
  dst : Int
  seq : Int
  ack : Int
  off : Int
  ace : Int
  fl : Int
  win : Int
  sum : Int
  urg : Int
/-- They are numbers of their types. -/
structure HdOk (h : Hd) : Prop where
  src : 0 ≤ h.src ∧ h.src ≤ 65535
  dst : 0 ≤ h.dst ∧ h.dst ≤ 65535
  seq : 0 ≤ h.seq ∧ h.seq ≤ 4294967295
  ack : 0 ≤ h.ack ∧ h.ack ≤ 4294967295
  off : 0 ≤ h.off ∧ h.off ≤ 255
  ace : 0 ≤ h.ace ∧ h.ace ≤ 255
  fl : 0 ≤ h.fl ∧ h.fl ≤ 255
  win : 0 ≤ h.win ∧ h.win ≤ 65535
  sum : 0 ≤ h.sum ∧ h.sum ≤ 65535
  urg : 0 ≤ h.urg ∧ h.urg ≤ 65535
/-- May it be encoded? -/
def fitF (h : Hd) : Prop := 5 ≤ h.off ∧ h.off ≤ 15 ∧ h.ace ≤ 7 ∧ h.fl ≤ 63
/-- Two bytes of a number, the highest one first. -/
def twoF (x : Int) : List Int := [x / 256, x % 256]
def twosF (xs : List Int) : List Int := xs.flatMap twoF
def fourF (x : Int) : List Int := twosF [x / 65536, x % 65536]
def foursF (xs : List Int) : List Int := xs.flatMap fourF
/-- A header's bytes. -/
def hdF (h : Hd) : List Int := twosF [h.src, h.dst] ++ foursF [h.seq, h.ack] ++ [h.off * 16 + h.ace / 4, h.ace % 4 * 64 + h.fl] ++ twosF [h.win, h.sum, h.urg]
theorem hdF_len (h : Hd) : (hdF h).length = 20 := rfl
theorem twos_len (xs : List Int) : (twosF xs).length = 2 * xs.length := by
  induction xs with
  | nil => rfl
  | cons x xs ih => simp only [twosF, List.flatMap_cons, List.length_append, List.length_cons] at *; rw [ih]; simp [twoF]; omega
theorem fours_len (xs : List Int) : (foursF xs).length = 4 * xs.length := by
  induction xs with
  | nil => rfl
  | cons x xs ih => simp only [foursF, List.flatMap_cons, List.length_append, List.length_cons] at *; rw [ih]; simp [fourF, twosF, twoF]; omega
theorem twos_take {xs : List Int} {k : Nat} (h : k < xs.length) : twosF (xs.take (k + 1)) = twosF (xs.take k) ++ [(xs[k]?.getD 0) / 256, (xs[k]?.getD 0) % 256] := by
  rw [take_snoc7 h]; simp [twosF, twoF]
theorem fours_take {xs : List Int} {k : Nat} (h : k < xs.length) : foursF (xs.take (k + 1)) = foursF (xs.take k) ++ twosF [(xs[k]?.getD 0) / 65536, (xs[k]?.getD 0) % 65536] := by
  rw [take_snoc7 h]; simp [foursF, fourF]

/-- A number's bytes, as the document puts them. -/
def putF (n : Int) : Nat → List Int
  | 0 => []
  | k + 1 => putF (n / 256) k ++ [n % 256]
theorem putF_len (n : Int) (k : Nat) : (putF n k).length = k := by
  induction k generalizing n with
  | zero => rfl
  | succ k ih => simp [putF, ih]
theorem putF_two {x : Int} (h : 0 ≤ x ∧ x ≤ 65535) : putF x 2 = twoF x := by
  have e : x / 256 % 256 = x / 256 := by omega
  simp [putF, twoF, e]
theorem putF_four {x : Int} (h : 0 ≤ x ∧ x ≤ 4294967295) : putF x 4 = fourF x := by
  simp only [putF, fourF, twosF, twoF, List.flatMap_cons, List.flatMap_nil, List.nil_append, List.cons_append, List.append_nil, List.cons.injEq, and_true]
  omega

theorem and15_n : ∀ n : Nat, n < 256 → bits .and .u8 (n : Int) 15 = (n : Int) % 16 := by decide +kernel
theorem and7_n : ∀ n : Nat, n < 256 → bits .and .u8 (n : Int) 7 = (n : Int) % 8 := by decide +kernel
theorem and63_n : ∀ n : Nat, n < 256 → bits .and .u8 (n : Int) 63 = (n : Int) % 64 := by decide +kernel
theorem and3F_n : ∀ n : Nat, n < 256 → bits .and .u8 (n : Int) 3 = (n : Int) % 4 := by decide +kernel
theorem and14_n : ∀ n : Nat, n < 256 → bits .and .u8 (n : Int) 14 = (n : Int) % 16 - (n : Int) % 2 := by decide +kernel
theorem and1_n : ∀ n : Nat, n < 256 → bits .and .u8 (n : Int) 1 = (n : Int) % 2 := by decide +kernel
theorem byteF {P : Int → Prop} (h : ∀ n : Nat, n < 256 → P (n : Int)) {x : Int} (hx : 0 ≤ x ∧ x ≤ 255) : P x := by
  have := h x.toNat (by omega)
  rwa [Int.toNat_of_nonneg hx.1] at this
theorem and15F {x : Int} (hx : 0 ≤ x ∧ x ≤ 255) : bits .and .u8 x 15 = x % 16 := byteF (P := fun x => bits .and .u8 x 15 = x % 16) and15_n hx
theorem and7F {x : Int} (hx : 0 ≤ x ∧ x ≤ 255) : bits .and .u8 x 7 = x % 8 := byteF (P := fun x => bits .and .u8 x 7 = x % 8) and7_n hx
theorem and63F {x : Int} (hx : 0 ≤ x ∧ x ≤ 255) : bits .and .u8 x 63 = x % 64 := byteF (P := fun x => bits .and .u8 x 63 = x % 64) and63_n hx
theorem and3F {x : Int} (hx : 0 ≤ x ∧ x ≤ 255) : bits .and .u8 x 3 = x % 4 := byteF (P := fun x => bits .and .u8 x 3 = x % 4) and3F_n hx
theorem and14F {x : Int} (hx : 0 ≤ x ∧ x ≤ 255) : bits .and .u8 x 14 = x % 16 - x % 2 := byteF (P := fun x => bits .and .u8 x 14 = x % 16 - x % 2) and14_n hx
theorem and1F {x : Int} (hx : 0 ≤ x ∧ x ≤ 255) : bits .and .u8 x 1 = x % 2 := byteF (P := fun x => bits .and .u8 x 1 = x % 2) and1_n hx
theorem wrapsF_u16 (n : Int) (h₀ : 0 ≤ n) (h₁ : n < 2 ^ 16) : IntKind.u16.wrap n = n := by rw [IntKind.wrap_u16]; omega
theorem wrapsF_u32 (n : Int) (h₀ : 0 ≤ n) (h₁ : n < 2 ^ 32) : IntKind.u32.wrap n = n := by rw [IntKind.wrap_u32]; omega
theorem or16F {x y : Int} (hx : 0 ≤ x ∧ x ≤ 15) (hy : 0 ≤ y ∧ y ≤ 15) : bits .or .u8 (x * 16) y = x * 16 + y := bits_join .u8 8 (by decide) wraps_u8 4 (x * 16) y (by omega) (by omega) (by omega) hy.1 (by omega) (by omega)
theorem or64F {x y : Int} (hx : 0 ≤ x ∧ x ≤ 3) (hy : 0 ≤ y ∧ y ≤ 63) : bits .or .u8 (x * 64) y = x * 64 + y := bits_join .u8 8 (by decide) wraps_u8 6 (x * 64) y (by omega) (by omega) (by omega) hy.1 (by omega) (by omega)
theorem or4F {x y : Int} (hx : 0 ≤ x ∧ x ≤ 1) (hy : 0 ≤ y ∧ y ≤ 3) : bits .or .u8 (x * 4) y = x * 4 + y := bits_join .u8 8 (by decide) wraps_u8 2 (x * 4) y (by omega) (by omega) (by omega) hy.1 (by omega) (by omega)
theorem or256F {x y : Int} (hx : 0 ≤ x ∧ x ≤ 255) (hy : 0 ≤ y ∧ y ≤ 255) : bits .or .u16 (x * 256) y = x * 256 + y := bits_join .u16 16 (by decide) wrapsF_u16 8 (x * 256) y (by omega) (by omega) (by omega) hy.1 (by omega) (by omega)
theorem or65536F {x y : Int} (hx : 0 ≤ x ∧ x ≤ 65535) (hy : 0 ≤ y ∧ y ≤ 65535) : bits .or .u32 (x * 65536) y = x * 65536 + y := bits_join .u32 32 (by decide) wrapsF_u32 16 (x * 65536) y (by omega) (by omega) (by omega) hy.1 (by omega) (by omega)
end Go.Proofs.Ytdibhpiafipibaa
