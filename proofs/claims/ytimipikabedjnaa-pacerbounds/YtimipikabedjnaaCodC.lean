/- Package code: Put. -/
import Derived.Test.YtimipikabedjnaaCodB
import Derived.WalkMore
namespace Go.Proofs.Ytimipikabedjnaa
open Go.RowKit
set_option linter.unusedVariables false

/-- Numbers that are only read: nothing, or they lie in block g from some place on. -/
def LsK (k : IntKind) (w : World) (g : Nat) (A : Option Addr) (zs : List Int) : Prop := zs = [] ∨ ∃ off, A = some ⟨g, off, none⟩ ∧ ∀ i, i < zs.length → w.cell? ⟨g, off + i, none⟩ = some (.int k (zs[i]?.getD 0))
theorem LsK.kept {k : IntKind} {w w' : World} {g : Nat} {A : Option Addr} {zs : List Int} (h : LsK k w g A zs) (o : Below w.heap.size w w') : LsK k w' g A zs := by
  rcases h with h | ⟨off, rfl, h⟩
  · exact .inl h
  · exact .inr ⟨off, rfl, fun i hi => cell_kept o (h i hi)⟩
/-- The bytes of numbers. -/
def puts (xs : List Int) : List Int := xs.flatMap fun x => nb x.toNat
theorem puts_take {xs : List Int} {k : Nat} (h : k < xs.length) : puts (xs.take (k + 1)) = puts (xs.take k) ++ nb (xs[k]?.getD 0).toNat := by
  rw [take_snoc7 h]; simp [puts]
theorem puts_few : ∀ (xs : List Int), (∀ x ∈ xs, 0 ≤ x ∧ x ≤ 18446744073709551615) → (puts xs).length ≤ 10 * xs.length
  | [], _ => by simp [puts]
  | x :: xs, h => by
    have h1 := puts_few xs (fun y hy => h y (List.mem_cons_of_mem _ hy))
    have h2 := (nb_ten (x := x.toNat) (by have := h x (by simp); omega)).1
    have e : puts (x :: xs) = nb x.toNat ++ puts xs := rfl
    rw [e, List.length_append, List.length_cons]
    omega
theorem nbi_low {y : Int} (h : 0 ≤ y) (h1 : y < 128) : nb y.toNat = [y] := by rw [nb_low (by omega)]; congr 1; omega
theorem nbi_high {y : Int} (h1 : 128 ≤ y) : nb y.toNat = (y % 128 + 128) :: nb (y / 128).toNat := by
  rw [nb_high (by omega)]; congr 1
  · omega
  · congr 1; omega

def PutInv (w : World) (ys xs : List Int) (L : Nat) (gh : Nat) (vo vi : Value) (wr : World) : Prop :=
  ∃ k : Nat, vi = .int .i64 (k : Int) ∧ L - k = gh ∧ k ≤ L ∧ OwnB wr w.heap.size vo (ys ++ puts (xs.take k)) ∧ Below w.heap.size w wr
def GrpInv (w : World) (T : List Int) (gh : Nat) (vo vx : Value) (wr : World) : Prop :=
  ∃ (y : Int) (zs : List Int), vx = .int .u64 y ∧ y.toNat = gh ∧ 0 ≤ y ∧ y ≤ 18446744073709551615 ∧ zs ++ nb y.toNat = T ∧ OwnB wr w.heap.size vo zs ∧ Below w.heap.size w wr
end Go.Proofs.Ytimipikabedjnaa
