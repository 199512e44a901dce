/- Plain facts of layer 20: an estimate of a round trip behind a sample, its parts, how long to wait; between which numbers it lies, and where it settles. -/
import Derived.Test.YtlfckllbpkehlaaSatE
namespace Go.Proofs.Ytlfckllbpkehlaa
set_option linter.unusedVariables false

/-- An estimate's two numbers, and is there one. -/
structure Rtx where
  a : Int
  v : Int
  s : Bool
deriving DecidableEq
structure RtOk (c : Rtx) : Prop where
  a : -9223372036854775808 ≤ c.a ∧ c.a ≤ 9223372036854775807
  v : -9223372036854775808 ≤ c.v ∧ c.v ≤ 9223372036854775807
/-- As what a number of an estimate counts, as what a sample does. -/
def rtIn (x : Int) : Int := clampI x 0 9007199254741000
def rtR (x : Int) : Int := clampI x 1 1125899906842624
theorem rtIn_bd (x : Int) : 0 ≤ rtIn x ∧ rtIn x ≤ 9007199254741000 := by unfold rtIn clampI; split <;> (try split) <;> omega
theorem rtR_bd (x : Int) : 1 ≤ rtR x ∧ rtR x ≤ 1125899906842624 := by unfold rtR clampI; split <;> (try split) <;> omega
def rtSm (c : Rtx) : Int := rtIn c.a / 8
def rtVa (c : Rtx) : Int := rtIn c.v / 4
def rtD (c : Rtx) (r : Int) : Int := rtR r - rtSm c
def rtAbs (d : Int) : Int := if d < 0 then -d else d
/-- An estimate behind a sample. -/
def rtSam (c : Rtx) (r : Int) : Rtx := if c.s then ⟨rtIn c.a + rtD c r, rtIn c.v + (rtAbs (rtD c r) - rtVa c), true⟩ else ⟨rtR r * 8, rtR r * 2, true⟩
def rtAll (c : Rtx) (l : List Int) : Rtx := l.foldl (fun c r => rtSam c r) c
theorem rtSm_bd (c : Rtx) : 0 ≤ rtSm c ∧ rtSm c ≤ 1125899906842625 := by have := rtIn_bd c.a; unfold rtSm; omega
theorem rtVa_bd (c : Rtx) : 0 ≤ rtVa c ∧ rtVa c ≤ 2251799813685250 := by have := rtIn_bd c.v; unfold rtVa; omega
theorem rtD_bd (c : Rtx) (r : Int) : -1125899906842624 ≤ rtD c r ∧ rtD c r ≤ 1125899906842624 := by have := rtSm_bd c; have := rtR_bd r; unfold rtD; omega
theorem rtAbs_bd {d : Int} (h : -1125899906842624 ≤ d ∧ d ≤ 1125899906842624) : 0 ≤ rtAbs d ∧ rtAbs d ≤ 1125899906842624 := by unfold rtAbs; split <;> omega
theorem rtSam_ok (c : Rtx) (r : Int) : RtOk (rtSam c r) := by
  have h1 := rtIn_bd c.a
  have h2 := rtIn_bd c.v
  have h3 := rtR_bd r
  have h4 := rtD_bd c r
  have h5 := rtAbs_bd h4
  have h6 := rtVa_bd c
  unfold rtSam
  split
  · constructor <;> (simp only; omega)
  · constructor <;> (simp only; omega)
theorem rtAll_ok {c : Rtx} (h : RtOk c) (l : List Int) : RtOk (rtAll c l) := by
  induction l generalizing c with
  | nil => exact h
  | cons r l ih => exact ih (rtSam_ok c r)
theorem rtAll_nil (c : Rtx) (l : List Int) : rtAll c (l.take 0) = c := by simp [rtAll]
theorem rtAll_snoc (c : Rtx) (l : List Int) {i : Nat} (h : i < l.length) : rtAll c (l.take (i + 1)) = rtSam (rtAll c (l.take i)) (l[i]?.getD 0) := by
  rw [rtAll, List.take_add_one, List.getElem?_eq_getElem h, List.foldl_append]
  rfl
/-- How long to wait. -/
def rtRto (c : Rtx) (tick least most : Int) : Int := if c.s then clampI (sat64 (rtSm c + (if tick < rtIn c.v then rtIn c.v else tick))) least most else most

/-- Behind samples from lo to hi. -/
structure RtIn (c : Rtx) (lo hi : Int) : Prop where
  a : lo * 8 ≤ c.a ∧ c.a ≤ hi * 8 + 7
  v : 0 ≤ c.v ∧ c.v ≤ 4 * hi + 3
  s : c.s = true
theorem rtIn_mid {x : Int} (h : 0 ≤ x ∧ x ≤ 9007199254741000) : rtIn x = x := by unfold rtIn clampI; rw [if_neg (by omega), if_neg (by omega)]
theorem rtR_mid {x : Int} (h : 1 ≤ x ∧ x ≤ 1125899906842624) : rtR x = x := by unfold rtR clampI; rw [if_neg (by omega), if_neg (by omega)]
theorem rtIn_first {c : Rtx} {r : Int} (h : c.s = false) (hr : 1 ≤ r ∧ r ≤ 1125899906842624) : RtIn (rtSam c r) r r := by
  unfold rtSam
  rw [h, rtR_mid hr]
  exact ⟨⟨by first | (simp; done) | (simp; omega), by first | (simp; done) | (simp; omega)⟩, ⟨by first | (simp; done) | (simp; omega), by first | (simp; done) | (simp; omega)⟩, rfl⟩
theorem rtIn_more {c : Rtx} {lo hi r : Int} (C : RtIn c lo hi) (hl : 1 ≤ lo ∧ hi ≤ 4294967296) (hr : 1 ≤ r ∧ r ≤ 4294967296) : RtIn (rtSam c r) (min lo r) (max hi r) := by
  obtain ⟨⟨a1, a2⟩, ⟨v1, v2⟩, s⟩ := C
  have e1 := rtIn_mid (x := c.a) (by omega)
  have e2 := rtIn_mid (x := c.v) (by omega)
  have e3 := rtR_mid (x := r) (by omega)
  unfold rtSam rtD rtSm rtVa rtAbs
  rw [s, e1, e2, e3]
  refine ⟨⟨?_, ?_⟩, ⟨?_, ?_⟩, rfl⟩ <;> simp only [if_true] <;> (try split) <;> omega
theorem rtIn_sm {c : Rtx} {lo hi : Int} (C : RtIn c lo hi) (hl : 1 ≤ lo ∧ hi ≤ 4294967296) : lo ≤ rtSm c ∧ rtSm c ≤ hi := by
  obtain ⟨⟨a1, a2⟩, ⟨v1, v2⟩, s⟩ := C
  have e1 := rtIn_mid (x := c.a) (by omega)
  unfold rtSm
  rw [e1]
  omega

/-- r came again and again: k times since the first one. -/
structure RtSet (c : Rtx) (r : Int) (k : Nat) : Prop where
  a : c.a = r * 8
  v : 0 ≤ c.v ∧ c.v ≤ 2 * r + 3
  far : (c.v - 3) * 4 ^ k ≤ 3 ^ k * (2 * r)
  s : c.s = true
theorem rtSet_first {c : Rtx} {r : Int} (h : c.s = false) (hr : 1 ≤ r ∧ r ≤ 4294967296) : RtSet (rtSam c r) r 0 := by
  unfold rtSam
  rw [h, rtR_mid (by omega)]
  exact ⟨rfl, ⟨by first | (simp; done) | (simp; omega), by first | (simp; done) | (simp; omega)⟩, by first | (simp; done) | (simp; omega), rfl⟩
theorem rtSet_more {c : Rtx} {r : Int} {k : Nat} (C : RtSet c r k) (hr : 1 ≤ r ∧ r ≤ 4294967296) : RtSet (rtSam c r) r (k + 1) ∧ (rtSam c r).v ≤ c.v := by
  obtain ⟨a, ⟨v1, v2⟩, far, s⟩ := C
  have e1 := rtIn_mid (x := c.a) (by omega)
  have e2 := rtIn_mid (x := c.v) (by omega)
  have e3 := rtR_mid (x := r) (by omega)
  have e : rtSam c r = ⟨r * 8, c.v - c.v / 4, true⟩ := by
    unfold rtSam rtD rtSm rtVa rtAbs
    rw [s, e1, e2, e3, a]
    simp only [if_true, Rtx.mk.injEq]
    refine ⟨by omega, ?_, trivial⟩
    split <;> omega
  rw [e]
  refine ⟨⟨rfl, ⟨by simp only; omega, by simp only; omega⟩, ?_, rfl⟩, by simp only; omega⟩
  simp only
  have p : (0 : Int) < 4 ^ k := Int.pow_pos (by decide)
  have h1 : (c.v - c.v / 4 - 3) * 4 ≤ (c.v - 3) * 3 := by omega
  have h2 : (c.v - c.v / 4 - 3) * 4 * 4 ^ k ≤ (c.v - 3) * 3 * 4 ^ k := Int.mul_le_mul_of_nonneg_right h1 (by omega)
  have h3 : (c.v - 3) * 3 * 4 ^ k = 3 * ((c.v - 3) * 4 ^ k) := by rw [Int.mul_comm (c.v - 3) 3, Int.mul_assoc]
  have h4 : 3 * ((c.v - 3) * 4 ^ k) ≤ 3 * (3 ^ k * (2 * r)) := Int.mul_le_mul_of_nonneg_left far (by decide)
  have h5 : (c.v - c.v / 4 - 3) * 4 ^ (k + 1) = (c.v - c.v / 4 - 3) * 4 * 4 ^ k := by rw [Int.pow_succ, Int.mul_comm (4 ^ k) 4, Int.mul_assoc]
  have h6 : (3 : Int) ^ (k + 1) * (2 * r) = 3 * (3 ^ k * (2 * r)) := by rw [Int.pow_succ, Int.mul_comm (3 ^ k) 3, Int.mul_assoc]
  omega
theorem rtSet_sm {c : Rtx} {r : Int} {k : Nat} (C : RtSet c r k) (hr : 1 ≤ r ∧ r ≤ 4294967296) : rtSm c = r := by
  have := C.a
  unfold rtSm
  rw [rtIn_mid (by omega)]
  omega
theorem rtSet_end {c : Rtx} {r : Int} (C : RtSet c r 119) (hr : 1 ≤ r ∧ r ≤ 4294967296) : c.v ≤ 3 ∧ rtVa c = 0 := by
  obtain ⟨a, ⟨v1, v2⟩, far, s⟩ := C
  have h : c.v ≤ 3 := by
    rcases Int.lt_or_le 3 c.v with h | h
    · exfalso
      have h1 : 1 * (4 : Int) ^ 119 ≤ (c.v - 3) * 4 ^ 119 := Int.mul_le_mul_of_nonneg_right (by omega) (by decide +kernel)
      have h2 : (3 : Int) ^ 119 * (2 * r) ≤ 3 ^ 119 * (2 * 4294967296) := Int.mul_le_mul_of_nonneg_left (by omega) (by decide +kernel)
      have h3 : (3 : Int) ^ 119 * (2 * 4294967296) < 1 * 4 ^ 119 := by decide +kernel
      omega
    · exact h
  refine ⟨h, ?_⟩
  unfold rtVa
  rw [rtIn_mid (by omega)]
  omega
end Go.Proofs.Ytlfckllbpkehlaa
