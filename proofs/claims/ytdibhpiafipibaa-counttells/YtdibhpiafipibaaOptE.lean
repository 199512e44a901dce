/- Package option: are all bytes 0 (slices.ContainsFunc); may an option be (within). The document's fine. -/
import Derived.Test.YtdibhpiafipibaaOptD
namespace Go.Proofs.Ytdibhpiafipibaa
open Go.RowKit
set_option linter.unusedVariables false
def ZerI (w : World) (bs : List Int) (n gh : Nat) (vi : Value) (wr : World) : Prop := ∃ i : Nat, vi = .int .i64 (i : Int) ∧ n - i = gh ∧ i ≤ n ∧ (bs.take i).all (fun x => x == 0) = true ∧ w = wr
theorem all_step {bs : List Int} {i : Nat} (h : i < bs.length) : (bs.take (i + 1)).all (fun x => x == 0) = ((bs.take i).all (fun x => x == 0) && (bF bs i == 0)) := by
  rw [List.take_succ_eq_append_getElem h, List.all_append, bF, List.getElem?_eq_getElem h]; simp
theorem all_less {bs : List Int} {i : Nat} (h : (bs.take i).all (fun x => x == 0) = false) : bs.all (fun x => x == 0) = false := by
  simp only [List.all_eq_false] at h ⊢
  obtain ⟨x, hx, h1⟩ := h
  exact ⟨x, List.mem_of_mem_take hx, h1⟩
def ZeroTo (w : World) (bs : List Int) (e : Ending) (w' : World) : Prop := ∃ r : Int, e = .returned (.int .i64 r) ∧ decide (0 ≤ r) = !(bs.all fun x => x == 0) ∧ w = w'

/-- Is a number too great for so many bytes? -/
def grO (W : Nat) (z : Int) : Bool := !decide (z < 256 ^ W)
def GrI (w : World) (zs : List Int) (W n gh : Nat) (vi : Value) (wr : World) : Prop := ∃ i : Nat, vi = .int .i64 (i : Int) ∧ n - i = gh ∧ i ≤ n ∧ (zs.take i).any (grO W) = false ∧ w = wr
theorem gr_step {zs : List Int} {W i : Nat} (h : i < zs.length) : (zs.take (i + 1)).any (grO W) = ((zs.take i).any (grO W) || grO W (bF zs i)) := by
  rw [List.take_succ_eq_append_getElem h, List.any_append, bF, List.getElem?_eq_getElem h]; simp
theorem gr_more {zs : List Int} {W i : Nat} (h : (zs.take i).any (grO W) = true) : zs.any (grO W) = true := by
  simp only [List.any_eq_true] at h ⊢
  obtain ⟨x, hx, h1⟩ := h
  exact ⟨x, List.mem_of_mem_take hx, h1⟩
def GreatTo (w : World) (W : Nat) (zs : List Int) (e : Ending) (w' : World) : Prop := ∃ r : Int, e = .returned (.int .i64 r) ∧ decide (0 ≤ r) = zs.any (grO W) ∧ w = w'
end Go.Proofs.Ytdibhpiafipibaa
