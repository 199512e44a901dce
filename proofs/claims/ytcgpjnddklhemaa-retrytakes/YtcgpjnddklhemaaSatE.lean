/- What is kept between two ends, and what is summed up one by one, in package sat and in the document's own answers. -/
import Derived.Test.YtcgpjnddklhemaaSatB
import Derived.LoopTactic
namespace Go.Proofs.Ytcgpjnddklhemaa
open Go.ChangeShapes Go.WideShapes Go.ChangeAt Go.RowKit

/-- The document's Clamp. -/
def clampI (x lo hi : Int) : Int := if x < lo ∨ hi < lo then lo else if hi < x then hi else x
/-- The document's Sum: one by one, each step at its end. -/
def sumS (l : List Int) : Int := l.foldl (fun s x => sat64 (s + x)) 0

theorem sumS_bd (l : List Int) : -9223372036854775808 ≤ sumS l ∧ sumS l ≤ 9223372036854775807 := by
  unfold sumS
  rcases List.eq_nil_or_concat l with h | ⟨l', x, h⟩
  · subst h; simp
  · subst h; rw [List.concat_eq_append, List.foldl_append]; exact sat64_bd _
theorem sumS_snoc (l : List Int) (k : Nat) (h : k < l.length) : sumS (l.take (k + 1)) = sat64 (sumS (l.take k) + l[k]?.getD 0) := by
  unfold sumS
  rw [List.take_succ_eq_append_getElem h, List.foldl_append, List.getElem?_eq_getElem h]
  rfl
end Go.Proofs.Ytcgpjnddklhemaa
