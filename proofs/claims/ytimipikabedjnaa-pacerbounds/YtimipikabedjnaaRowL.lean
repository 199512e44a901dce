/- The first elements of a slice of integers that came in: as numbers that are read. -/
import Derived.Test.YtimipikabedjnaaKit
import Derived.Test.YtimipikabedjnaaCodC
namespace Go.Proofs.Ytimipikabedjnaa
open Go.RowKit
set_option linter.unusedVariables false

theorem row_low {k : IntKind} {w : World} {a : Option Addr} {len cap : Nat} {zs : List Int} (h : IsRow k w a len cap zs) : len ≤ cap ∧ cap ≤ maxLen := by
  rcases h with ⟨_, rfl, rfl, rfl⟩ | ⟨x, rfl, hl, hm, hz, hc, hw⟩
  · exact ⟨Nat.le_refl _, Nat.zero_le _⟩
  · exact ⟨hl, hm⟩
theorem row_take {k : IntKind} {w : World} {a : Option Addr} {len cap : Nat} {zs : List Int} (h : IsRow k w a len cap zs) (n : Nat) (hn : n ≤ len) : (zs.take n).length = n := by
  have := row_len h
  rw [List.length_take]; omega
theorem row_src {k : IntKind} {w : World} {a : Option Addr} {len cap : Nat} {zs : List Int} (h : IsRow k w a len cap zs) (n : Nat) (hn : n ≤ len) : Src k w a n cap (zs.take n) := by
  refine ⟨(row_take h n hn).symm, ?_⟩
  rcases h with ⟨rfl, rfl, rfl, rfl⟩ | ⟨x, rfl, hl, hm, hz, hc, hw⟩
  · exact .inl ⟨rfl, by omega, rfl⟩
  · refine .inr ⟨x, rfl, fun j hj => ?_⟩
    rw [List.length_take] at hj
    rw [hc j (by omega), List.getElem?_take, if_pos (by omega), List.getD_eq_getElem?_getD]
theorem row_ls {k : IntKind} {w : World} {a : Option Addr} {len cap : Nat} {zs : List Int} (h : IsRow k w a len cap zs) (n : Nat) (hn : n ≤ len) : ∃ g, LsK k w g a (zs.take n) := by
  by_cases h0 : n = 0
  · subst h0; exact ⟨0, .inl (by simp)⟩
  · obtain ⟨b, off, rfl, _, _, _⟩ := row_at h (i := 0) (by omega)
    refine ⟨b, .inr ⟨off, rfl, fun i hi => ?_⟩⟩
    rw [row_take h n hn] at hi
    obtain ⟨b', off', e, h1, _, _⟩ := row_at h (i := i) (by omega)
    cases e
    rw [h1, List.getElem?_take, if_pos hi]
theorem row_wf {k : IntKind} {w : World} {a : Option Addr} {len cap : Nat} {zs : List Int} (h : IsRow k w a len cap zs) (n : Nat) : ∀ x ∈ zs.take n, (Lit.int k x).wf = true := by
  intro x hx
  rcases h with ⟨rfl, rfl, rfl, rfl⟩ | ⟨y, rfl, hl, hm, hz, hc, hw⟩
  · simp at hx
  · exact hw x (List.mem_of_mem_take hx)
end Go.Proofs.Ytimipikabedjnaa
