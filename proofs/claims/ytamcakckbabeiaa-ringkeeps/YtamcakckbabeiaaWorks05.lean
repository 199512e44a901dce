/- leatlaw05.works: the chapter's example. -/
import Derived.Test.YtamcakckbabeiaaRingIE
namespace Go.Proofs.Ytamcakckbabeiaa
open Go.RowKit
set_option linter.unusedVariables false

theorem works05_any (w : World) : Calls Try.prog 13 #[] w fun e w' => e = .returned (.bool true) ∧ Below w.heap.size w w' := by
  have e1 : R0.mst 1 = 1 := rfl
  go_enter Try.func13, Try.ntmps13
  go_wp2_with (first
    | (go_at_call 25; refine (R0.new_ring 1 w).mono ?_; rw [e1]; rintro e w0 ⟨rfl, Q0, B0⟩)
    | (go_at_call 26; have h := o1; clear h; refine (R0.push_full _ _ 6 [5] 1 _ R1 rfl).mono ?_; rintro e w2 ⟨rfl, m, rfl⟩)
    | (go_at_call 26; refine (R0.push_any _ _ 5 [] 1 _ Q0 (by decide)).mono ?_; rintro e w1 ⟨g1, rfl, R1, hg1, o1⟩)
    | (go_at_call 27; refine (R0.pop_some _ g1 5 [] 1 _ (R1.draw m)).mono ?_; rintro e w3 ⟨g3, rfl, R3, hg3, o3⟩)
    | (go_at_call 28; refine (R0.len_ring _ g3 [] 1 _ R3).mono ?_; rintro e w4 ⟨rfl, rfl⟩))
  go_ret
  have s1 := o1.size
  have s3 := o3.size
  have b0 := B0.size
  have l1 := R0.slot_low hg1 (Nat.le_refl w.heap.size) b0
  exact ⟨rfl, (B0.trans (R0.foot_below o1 b0 (Nat.le_refl _) (Nat.le_refl _))).trans (R0.foot_below (w := w1) ⟨o3.os, o3.tape, o3.output, o3.size, o3.block⟩ (by omega) (Nat.le_refl _) l1)⟩
end Go.Proofs.Ytamcakckbabeiaa
