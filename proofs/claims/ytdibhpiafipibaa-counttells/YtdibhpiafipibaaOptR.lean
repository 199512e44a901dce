/- The chapter's example of layer 12 (works); what Print leaves, as a text. -/
import Derived.Test.YtdibhpiafipibaaOptP
namespace Go.Proofs.Ytdibhpiafipibaa
open Go.RowKit
set_option linter.unusedVariables false
/-- One option in a list of its own. -/
theorem opts_one {w : World} {x : OC} (h : HasO w x) : OptsAt (w.alloc (.cells #[.int .i64 x.o.k, .slice x.a x.n x.c, .string x.o.s] 32)) (some ⟨w.heap.size, 0, none⟩) 1 [x] := by
  have A1 := At.new w [.int .i64 x.o.k, .slice x.a x.n x.c, .string x.o.s] 32
  refine ⟨⟨w.heap.size, .inr ⟨0, rfl, fun i hi => ?_⟩⟩, rfl, fun y hy => ?_⟩
  · obtain rfl : i = 0 := by simp at hi; omega
    exact ⟨A1.cell 0 rfl, A1.cell 1 rfl, A1.cell 2 rfl⟩
  · obtain rfl : y = x := by simpa using hy
    exact h.kept (new_alloc (new_refl w) _)
def exO : Opt := accO 172 1 0 1 (mnA 3)
theorem ex_chk : chkO [] [exO] 0 = 0 := by decide +kernel
theorem ex_str : strOfNums (prO [exO]) = ⟨#[172, 11, 0, 0, 1, 0, 0, 0, 0, 0, 1, 0]⟩ := by
  have h : prO [exO] = [172, 11, 0, 0, 1, 0, 0, 0, 0, 0, 1, 0] := by decide +kernel
  rw [h]; rfl
end Go.Proofs.Ytdibhpiafipibaa
