/- Plain facts of layer 27: whether a queue marks late. -/
import Derived.Test.YtmmccaaocfbdlaaAlpM
namespace Go.Proofs.Ytmmccaaocfbdlaa
open Go.ChangeShapes Go.WideShapes Go.ChangeAt Go.RowKit
set_option linter.unusedVariables false

/-- A score within its ends; the limit that counts; by how much a deep round raises it; one more round. -/
def clS (s : Int) : Int := clampI s 0 2097152
def clL (l : Int) : Int := if l < 1 then 1 else l
def clBy (d l : Int) : Int := rto (sat64 (d - clL l)) (clL l) / 4
def clUp (s d l : Int) : Int := if 2097152 < clS s + clBy d l then 2097152 else clS s + clBy d l
def clR (s : Int) (m : Bool) (d l : Int) : Int := if m = true then (if d ≤ clL l then twd (clS s) 0 3 else clUp s d l) else twd (clS s) 0 6
def clOld (s : Int) : Bool := decide (1048576 ≤ s)

theorem clS_bd (s : Int) : 0 ≤ clS s ∧ clS s ≤ 2097152 := clampP_bd s (by decide)
theorem clS_in {s : Int} (h : 0 ≤ s ∧ s ≤ 2097152) : clS s = s := clampP_in h.1 h.2
theorem clL_bd (l : Int) (h : -9223372036854775808 ≤ l ∧ l ≤ 9223372036854775807) : 1 ≤ clL l ∧ clL l ≤ 9223372036854775807 := by unfold clL; split <;> omega
theorem clBy_bd (d l : Int) : 0 ≤ clBy d l ∧ clBy d l ≤ 262144 := by
  have := rto_bd (sat64 (d - clL l)) (clL l)
  unfold clBy
  omega
theorem clUp_bd (s d l : Int) : clS s ≤ clUp s d l ∧ clUp s d l ≤ 2097152 ∧ clUp s d l ≤ clS s + 262144 := by
  have := clS_bd s
  have := clBy_bd d l
  unfold clUp
  split <;> omega
theorem clUp_is (s d l : Int) : clampI (clS s + clBy d l) 0 2097152 = clUp s d l := by
  have := clS_bd s
  have := clBy_bd d l
  unfold clUp clampI
  split <;> (try split) <;> (try split) <;> omega
theorem clFall_bd (s n : Int) : 0 ≤ twd (clS s) 0 n ∧ twd (clS s) 0 n ≤ clS s := by
  have b := clS_bd s
  exact (twd_between (clS s) 0 n (by omega) (by decide)).2 b.1
theorem clFall_is (s n : Int) : clampI (twd (clS s) 0 n) 0 2097152 = twd (clS s) 0 n := by
  have b := clS_bd s
  have c := clFall_bd s n
  exact clampP_in c.1 (by omega)
theorem clR_not (s d l : Int) : clR s false d l = twd (clS s) 0 6 := rfl
theorem clR_shallow {s d l : Int} (h : d ≤ clL l) : clR s true d l = twd (clS s) 0 3 := by unfold clR; rw [if_pos rfl, if_pos h]
theorem clR_deep {s d l : Int} (h : ¬ d ≤ clL l) : clR s true d l = clUp s d l := by unfold clR; rw [if_pos rfl, if_neg h]
/-- Is a round a deep one? -/
def clDeep (m : Bool) (d l : Int) : Bool := m && !decide (d ≤ clL l)
/-- Behind one more round, of a score that so many deep ones can have made. -/
structure ClNext (s : Int) (k : Nat) (t : Int) (f : Bool) : Prop where
  lo : 0 ≤ t
  hi : t ≤ 2097152
  up : f = true → s ≤ t ∧ t ≤ 262144 * ((k : Int) + 1)
  down : f = false → t ≤ s ∧ t ≤ 262144 * (k : Int)
theorem cl_next {s d l : Int} {k : Nat} (m : Bool) (h0 : 0 ≤ s) (h1 : s ≤ 2097152) (hk : s ≤ 262144 * (k : Int)) : ClNext s k (clR s m d l) (clDeep m d l) := by
  have e := clS_in ⟨h0, h1⟩
  have f3 := clFall_bd s 3
  have f6 := clFall_bd s 6
  have u := clUp_bd s d l
  rw [e] at f3 f6 u
  cases m with
  | false =>
    rw [clR_not, e]
    exact ⟨f6.1, by omega, (fun h => by cases h), fun _ => by omega⟩
  | true =>
    by_cases h : d ≤ clL l
    · rw [clR_shallow h, e]
      have hf : clDeep true d l = false := by simp [clDeep, h]
      rw [hf]
      exact ⟨f3.1, by omega, (fun h => by cases h), fun _ => by omega⟩
    · rw [clR_deep h]
      have hf : clDeep true d l = true := by simp [clDeep, h]
      rw [hf]
      exact ⟨by omega, u.2.1, fun _ => by omega, (fun h => by cases h)⟩
theorem hlv_two (x : Int) : hlv x (upto 2 63) = x / 4 := by
  have : upto 2 63 = 2 := by decide
  rw [this]; rfl
end Go.Proofs.Ytmmccaaocfbdlaa
