/- Slices of integers of any kind that the call owns: made, of one element, stored into; where they lie. -/
import Derived.Test.YtimipikabedjnaaCodC
namespace Go.Proofs.Ytimipikabedjnaa
open Go.RowKit
set_option linter.unusedVariables false

section
variable {k : IntKind} {t e : TypeId} {bytes : Nat}
theorem ownMade {w : World} (n : Nat) (h : n ≤ 1000000) : OwnK k e (w.alloc (.cells (madeCells #[.int k 0] n) e)) w.heap.size (.slice (some ⟨w.heap.size, 0, none⟩) n n) (List.replicate n 0) := by
  have h1 := World.ownsRow_lit (base := w.heap.size) (size := 1) (e := e) w (madeCells #[.int k 0] n) n (Nat.le_refl _) (by unfold maxLen; omega) (by rw [size_madeCells]; omega)
  rw [toList_madeCells_one] at h1
  unfold OwnK
  rw [List.length_replicate, List.map_replicate]
  exact h1
theorem ownOne (w : World) (z : Int) : OwnK k e (w.alloc (.cells #[.int k z] e)) w.heap.size (.slice (some ⟨w.heap.size, 0, none⟩) 1 1) [z] :=
  World.ownsRow_lit (base := w.heap.size) (size := 1) (e := e) w #[.int k z] 1 (Nat.le_refl _) (by unfold maxLen; omega) rfl
theorem ownSet {w : World} {base g n c : Nat} {zs : List Int} (h : OwnK k e w base (.slice (some ⟨g, 0, none⟩) n c) zs) (j : Nat) (z : Int) :
    OwnK k e (w.setCell ⟨g, j, none⟩ (.int k z)) base (.slice (some ⟨g, 0, none⟩) n c) (zs.set j z) := by
  have e1 := h.blk.1
  have h' : w.ownsRow base e 1 (.slice (some ⟨g, 0, none⟩) n c) n (zs.map (Value.int k)) := by rw [e1]; unfold OwnK at h; rw [e1] at h; exact h
  have := (World.ownsRow.stored h' j (.int k z)).1
  unfold OwnK
  rw [List.length_set, List.map_set, ← e1]
  exact this
theorem ownFroz {w : World} {base g n c : Nat} {zs : List Int} (h : OwnK k e w base (.slice (some ⟨g, 0, none⟩) n c) zs) (j : Nat) : w.frozen? ⟨g, j, none⟩ = false := by
  obtain ⟨_, _, _, _, cur, _, hB, _⟩ := h.blk
  exact hB.frozen j
theorem ownLow {w : World} {base g n c : Nat} {zs : List Int} (h : OwnK k e w base (.slice (some ⟨g, 0, none⟩) n c) zs) : base ≤ g ∧ g < w.heap.size := by
  obtain ⟨_, _, _, hb, cur, _, hB, _⟩ := h.blk
  exact ⟨hb, hB.lt⟩
end
end Go.Proofs.Ytimipikabedjnaa
