/- Package option: Find (slices.IndexFunc, slices.Clone of uint32). -/
import Derived.Test.YtdibhpiafipibaaOptI
namespace Go.Proofs.Ytdibhpiafipibaa
open Go.RowKit
set_option linter.unusedVariables false
def FndI (w : World) (xs : List OC) (kind : Int) (n gh : Nat) (vi : Value) (wr : World) : Prop :=
  ∃ i : Nat, vi = .int .i64 (i : Int) ∧ n - i = gh ∧ i ≤ n ∧ (∀ j, j < i → (nthO xs j).o.k ≠ kind) ∧ Below w.heap.size w wr
/-- Where the first option of a kind stands. -/
def FndTo (w : World) (xs : List OC) (kind : Int) (n : Nat) (e : Ending) (w' : World) : Prop :=
  ((e = .returned (.int .i64 (-1)) ∧ ∀ i, i < n → (nthO xs i).o.k ≠ kind) ∨ ∃ i : Nat, e = .returned (.int .i64 (i : Int)) ∧ i < n ∧ (∀ j, j < i → (nthO xs j).o.k ≠ kind) ∧ (nthO xs i).o.k = kind) ∧ Below w.heap.size w w'

/-- A copy of an option's numbers. -/
def CloTo (w : World) (x : OC) (e : Ending) (w' : World) : Prop := ∃ A c, e = .returned (.slice A x.n c) ∧ HasO w' ⟨x.o, A, x.n, c⟩ ∧ Below w.heap.size w w'
theorem hasO_own {w : World} {base : Nat} {o : Opt} {A : Option Addr} {n c : Nat} (h : OwnN w base (.slice A n c) o.zs) (hu : ∀ z ∈ o.zs, 0 ≤ z ∧ z ≤ 4294967295) (hf : n ≤ 100) (hs : o.s.size ≤ 100) : HasO w ⟨o, A, n, c⟩ := by
  rcases h.form with ⟨e, hz⟩ | ⟨g, c', e⟩
  · simp at e
    obtain ⟨rfl, rfl, rfl⟩ := e
    exact ⟨by simp [hz], ⟨0, .inl hz⟩, hu, hf, hs, Nat.le_refl _⟩
  · simp at e
    obtain ⟨rfl, rfl, rfl⟩ := e
    obtain ⟨_, h2, _, _, _⟩ := h.blk
    exact ⟨rfl, ⟨g, own_ls h⟩, hu, hf, hs, h2⟩
end Go.Proofs.Ytdibhpiafipibaa
