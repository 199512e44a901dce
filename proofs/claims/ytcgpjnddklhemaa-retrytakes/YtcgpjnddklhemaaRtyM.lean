/- Plain facts of layer 28: what acknowledgements say of losses. -/
import Derived.Test.YtcgpjnddklhemaaRenM
namespace Go.Proofs.Ytcgpjnddklhemaa
open Go.ChangeShapes Go.WideShapes Go.ChangeAt Go.RowKit

/-- A state: Acked, Dups, Point, In. -/
structure Ry where
  a : Int
  d : Int
  p : Int
  i : Bool
  deriving DecidableEq
/-- How often it was told again, with once more. -/
def ryD (d : Int) : Int := clampI d 0 999 + 1
/-- More is there than was. -/
def RyAhead (p : Int) (i : Bool) (u : Int) (D : Ry) (x : Int) : Prop :=
  (i = false ∧ D = ⟨u, 0, p, false⟩ ∧ x = 1) ∨ (i = true ∧ u < p ∧ D = ⟨u, 0, p, true⟩ ∧ x = 3) ∨ (i = true ∧ ¬ u < p ∧ D = ⟨u, 0, p, false⟩ ∧ x = 4)
/-- The same was told again. -/
def RyRep (a d p : Int) (i : Bool) (s : Int) (D : Ry) (x : Int) : Prop :=
  (ryD d = 3 ∧ i = false ∧ D = ⟨a, 3, s, true⟩ ∧ x = 2) ∨ (ryD d ≠ 3 ∧ D = ⟨a, ryD d, p, i⟩ ∧ x = 0) ∨ (ryD d = 3 ∧ i = true ∧ D = ⟨a, 3, p, true⟩ ∧ x = 0)
/-- What a state is behind one more acknowledgement, and what happened by it. -/
def RyIs (c : Ry) (u s : Int) (D : Ry) (x : Int) : Prop :=
  (c.a < u ∧ RyAhead c.p c.i u D x) ∨ (u = c.a ∧ u < s ∧ RyRep c.a c.d c.p c.i s D x) ∨ (u = c.a ∧ ¬ u < s ∧ D = c ∧ x = 0) ∨ (u < c.a ∧ D = c ∧ x = 0)

theorem ryD_bd (d : Int) : 1 ≤ ryD d ∧ ryD d ≤ 1000 := by
  have : 0 ≤ clampI d 0 999 ∧ clampI d 0 999 ≤ 999 := clampP_bd _ (by decide)
  unfold ryD; omega
theorem ryD_low {d : Int} (h : d < 0) : ryD d = 1 := by unfold ryD clampI; split <;> (try split) <;> omega
theorem ryD_high {d : Int} (h : 999 < d) : ryD d = 1000 := by unfold ryD clampI; split <;> (try split) <;> omega
theorem ryD_mid {d : Int} (h0 : ¬ d < 0) (h1 : ¬ 999 < d) : ryD d = d + 1 := by unfold ryD clampI; split <;> (try split) <;> omega
theorem ry_there (c : Ry) (u s : Int) : ∃ D x, RyIs c u s D x := by
  unfold RyIs RyAhead RyRep
  by_cases h1 : c.a < u
  · cases hi : c.i
    · exact ⟨_, _, .inl ⟨h1, .inl ⟨rfl, rfl, rfl⟩⟩⟩
    · by_cases h2 : u < c.p
      · exact ⟨_, _, .inl ⟨h1, .inr (.inl ⟨rfl, h2, rfl, rfl⟩)⟩⟩
      · exact ⟨_, _, .inl ⟨h1, .inr (.inr ⟨rfl, h2, rfl, rfl⟩)⟩⟩
  · by_cases h2 : u = c.a
    · by_cases h3 : u < s
      · by_cases h4 : ryD c.d = 3
        · cases hi : c.i
          · exact ⟨_, _, .inr (.inl ⟨h2, h3, .inl ⟨h4, rfl, rfl, rfl⟩⟩)⟩
          · exact ⟨_, _, .inr (.inl ⟨h2, h3, .inr (.inr ⟨h4, rfl, rfl, rfl⟩)⟩)⟩
        · exact ⟨_, _, .inr (.inl ⟨h2, h3, .inr (.inl ⟨h4, rfl, rfl⟩)⟩)⟩
      · exact ⟨_, _, .inr (.inr (.inl ⟨h2, h3, rfl, rfl⟩))⟩
    · exact ⟨_, _, .inr (.inr (.inr ⟨by omega, rfl, rfl⟩))⟩
/-- What one more acknowledgement tells of a state beside the one that it was; e: one was entered, P: up to where was sent when it was. -/
structure RyNext (c : Ry) (s : Int) (D : Ry) (x : Int) : Prop where
  up : c.a ≤ D.a
  one : x = 1 → c.a < D.a
  two : x = 2 → c.i = false ∧ D.i = true ∧ D.p = s
  keep : ∀ P, (c.i = true ∧ c.p = P) ∨ P ≤ c.a → x ≠ 2 → (D.i = true ∧ D.p = P) ∨ P ≤ D.a
theorem ry_next {c : Ry} {u s : Int} {D : Ry} {x : Int} (h : RyIs c u s D x) : RyNext c s D x := by
  obtain ⟨a, d, p, i⟩ := c
  rcases h with ⟨h, k⟩ | ⟨h, h2, k⟩ | ⟨h, h2, rfl, rfl⟩ | ⟨h, rfl, rfl⟩
  · dsimp only at h k
    rcases k with ⟨rfl, rfl, rfl⟩ | ⟨rfl, h3, rfl, rfl⟩ | ⟨rfl, h3, rfl, rfl⟩
    · refine ⟨by dsimp only; omega, fun _ => h, fun h => absurd h (by decide), fun P hP _ => .inr ?_⟩
      rcases hP with ⟨hf, _⟩ | hP
      · cases hf
      · dsimp only at hP ⊢; omega
    · refine ⟨by dsimp only; omega, fun h => absurd h (by decide), fun h => absurd h (by decide), fun P hP _ => ?_⟩
      rcases hP with ⟨_, hP⟩ | hP
      · exact .inl ⟨rfl, hP⟩
      · right; dsimp only at hP ⊢; omega
    · refine ⟨by dsimp only; omega, fun h => absurd h (by decide), fun h => absurd h (by decide), fun P hP _ => .inr ?_⟩
      rcases hP with ⟨_, hP⟩ | hP
      · dsimp only at hP ⊢; omega
      · dsimp only at hP ⊢; omega
  · dsimp only at h k
    rcases k with ⟨_, rfl, rfl, rfl⟩ | ⟨_, rfl, rfl⟩ | ⟨_, rfl, rfl, rfl⟩
    · exact ⟨Int.le_refl _, fun h => absurd h (by decide), fun _ => ⟨rfl, rfl, rfl⟩, fun _ _ h => absurd rfl h⟩
    · exact ⟨Int.le_refl _, fun h => absurd h (by decide), fun h => absurd h (by decide), fun _ hP _ => hP⟩
    · exact ⟨Int.le_refl _, fun h => absurd h (by decide), fun h => absurd h (by decide), fun _ hP _ => hP⟩
  · exact ⟨Int.le_refl _, fun h => absurd h (by decide), fun h => absurd h (by decide), fun _ hP _ => hP⟩
  · exact ⟨Int.le_refl _, fun h => absurd h (by decide), fun h => absurd h (by decide), fun _ hP _ => hP⟩
/-- The chapter's example: five states in a row, what is told and what happens. -/
def ryEx : Nat → Ry
  | 0 => ⟨5, 0, 0, false⟩
  | 1 => ⟨5, 1, 0, false⟩
  | 2 => ⟨5, 2, 0, false⟩
  | 3 => ⟨5, 3, 9, true⟩
  | 4 => ⟨7, 0, 9, true⟩
  | _ => ⟨9, 0, 9, false⟩
theorem ry_ex {k : Nat} (h : k < 5) : ∃ u x, ([5, 5, 5, 7, 9] : List Int)[k]? = some u ∧ ([0, 0, 2, 3, 4] : List Int)[k]? = some x ∧ RyIs (ryEx k) u 9 (ryEx (k + 1)) x := by
  obtain rfl | rfl | rfl | rfl | rfl : k = 0 ∨ k = 1 ∨ k = 2 ∨ k = 3 ∨ k = 4 := by omega
  · exact ⟨5, 0, rfl, rfl, .inr (.inl ⟨rfl, by decide, .inr (.inl ⟨by decide, rfl, rfl⟩)⟩)⟩
  · exact ⟨5, 0, rfl, rfl, .inr (.inl ⟨rfl, by decide, .inr (.inl ⟨by decide, rfl, rfl⟩)⟩)⟩
  · exact ⟨5, 2, rfl, rfl, .inr (.inl ⟨rfl, by decide, .inl ⟨by decide, rfl, rfl, rfl⟩⟩)⟩
  · exact ⟨7, 3, rfl, rfl, .inl ⟨by decide, .inr (.inl ⟨rfl, by decide, rfl, rfl⟩)⟩⟩
  · exact ⟨9, 4, rfl, rfl, .inl ⟨by decide, .inr (.inr ⟨rfl, by decide, rfl, rfl⟩)⟩⟩
end Go.Proofs.Ytcgpjnddklhemaa
