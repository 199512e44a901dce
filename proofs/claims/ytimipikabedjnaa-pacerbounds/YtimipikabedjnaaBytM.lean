/- Plain facts: lists of bytes. -/
import Derived.Test.YtimipikabedjnaaCodM
namespace Go.Proofs.Ytimipikabedjnaa
set_option linter.unusedVariables false

/-- They are bytes. -/
def bytS (xs : List Int) : Prop := ∀ x ∈ xs, 0 ≤ x ∧ x ≤ 255
theorem byt_take {xs : List Int} (h : bytS xs) (n : Nat) : bytS (xs.take n) := fun x hx => h x (List.mem_of_mem_take hx)
theorem byt_drop {xs : List Int} (h : bytS xs) (n : Nat) : bytS (xs.drop n) := fun x hx => h x (List.mem_of_mem_drop hx)
theorem byt_app {xs ys : List Int} (h : bytS xs) (h' : bytS ys) : bytS (xs ++ ys) := fun x hx => by
  rw [List.mem_append] at hx
  rcases hx with hx | hx
  · exact h x hx
  · exact h' x hx
theorem byt_at {xs : List Int} (h : bytS xs) {k : Nat} (hk : k < xs.length) : 0 ≤ xs[k]?.getD 0 ∧ xs[k]?.getD 0 ≤ 255 := by
  rw [List.getElem?_eq_getElem hk]
  exact h _ (List.getElem_mem _)
end Go.Proofs.Ytimipikabedjnaa
