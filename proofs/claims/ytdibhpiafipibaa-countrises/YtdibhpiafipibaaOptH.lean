/- Package option: put. -/
import Derived.Test.YtdibhpiafipibaaOptG
namespace Go.Proofs.Ytdibhpiafipibaa
open Go.RowKit
set_option linter.unusedVariables false

theorem three_grown {w w' : World} {b : Option Nat} {g i j k : Nat} {x y z : Value} (G : w.grownBy w' b) (hg : some g ≠ b) (h : w.cell? ⟨g, i, none⟩ = some x ∧ w.cell? ⟨g, j, none⟩ = some y ∧ w.cell? ⟨g, k, none⟩ = some z) : w'.cell? ⟨g, i, none⟩ = some x ∧ w'.cell? ⟨g, j, none⟩ = some y ∧ w'.cell? ⟨g, k, none⟩ = some z :=
  ⟨G.cell h.1 hg, G.cell h.2.1 hg, G.cell h.2.2 hg⟩
theorem puts_take12 {m : Nat} {zs : List Int} {i : Nat} (h : i < zs.length) : (zs.take (i + 1)).flatMap (fun z => putF z m) = (zs.take i).flatMap (fun z => putF z m) ++ putF (bF zs i) m := by
  rw [List.take_succ_eq_append_getElem h, List.flatMap_append, List.flatMap_cons, List.flatMap_nil, List.append_nil, bF, List.getElem?_eq_getElem h]; rfl
def PutO (W : World) (base : Nat) (v : Value) (ys nums : List Int) (n m gh : Nat) (vo vi : Value) (wr : World) : Prop :=
  ∃ i : Nat, vi = .int .i64 (i : Int) ∧ n - i = gh ∧ i ≤ n ∧ MoreI W base v (ys ++ (nums.take i).flatMap (fun z => putF z m)) vo wr
def PutB (W : World) (base : Nat) (v : Value) (ys : List Int) (z : Int) (m gh : Nat) (vo vi : Value) (wr : World) : Prop :=
  ∃ (j : Nat) (t : Int), vi = .int .i64 t ∧ t = (j : Int) - 1 ∧ j = gh ∧ j ≤ m ∧ MoreI W base v (ys ++ putF (z / 256 ^ j) (m - j)) vo wr
theorem put_next {z : Int} {j m : Nat} (h : j + 1 ≤ m) : putF (z / 256 ^ j) (m - j) = putF (z / 256 ^ (j + 1)) (m - (j + 1)) ++ [z / 256 ^ j % 256] := by
  obtain ⟨q, hq⟩ : ∃ q, m - (j + 1) = q := ⟨_, rfl⟩
  have e : m - j = q + 1 := by omega
  rw [e, hq, putF, Int.pow_succ, Int.ediv_ediv_of_nonneg (by exact Int.le_of_lt (Int.pow_pos (by decide)))]
theorem more_below {w w' : World} {base : Nat} {v v' : Value} {zs0 zs : List Int} (O : OwnB w base v zs0) (h : MoreI w base v zs v' w') (hb : base ≤ w.heap.size) : Below base w w' :=
  h.2.1.below hb (fun k e => (World.ownsRow.lt O k e).1)
end Go.Proofs.Ytdibhpiafipibaa
