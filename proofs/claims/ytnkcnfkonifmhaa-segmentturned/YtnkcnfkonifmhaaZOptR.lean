/- The chapter's example of layer 12 (works); what Print leaves, as a text. -/
import Derived.Test.YtnkcnfkonifmhaaZOptX
namespace Go.Proofs.Ytnkcnfkonifmhaa
open Go.RowKit
set_option linter.unusedVariables false

theorem own_text {w w2 : World} {base n c : Nat} {A : Option Addr} {zs : List Int} (h : OwnB w base (.slice A n c) zs) (B : Below w.heap.size w w2) : (convert 32 9 (.slice A n c)).run Try.prog w2 = .ok (.string (strOfNums zs)) w2 := by
  rcases h.form with ⟨e, rfl⟩ | ⟨g, c', e⟩
  · simp at e
    obtain ⟨rfl, rfl, rfl⟩ := e
    exact textNil w2
  · simp at e
    obtain ⟨rfl, rfl, rfl⟩ := e
    exact text_own (h.kept B)
/-- One option in a list of its own. -/
theorem opts_one {w : World} {x : OC} (h : HasO w x) : OptsAt (w.alloc (.cells #[.int .i64 x.o.k, .slice x.a x.n x.c, .string x.o.s] 76)) (some ⟨w.heap.size, 0, none⟩) 1 [x] := by
  have A1 := At.new w [.int .i64 x.o.k, .slice x.a x.n x.c, .string x.o.s] 76
  refine ⟨⟨w.heap.size, .inr ⟨0, rfl, fun i hi => ?_⟩⟩, rfl, fun y hy => ?_⟩
  · obtain rfl : i = 0 := by simp at hi; omega
    exact ⟨A1.cell 0 rfl, A1.cell 1 rfl, A1.cell 2 rfl⟩
  · obtain rfl : y = x := by simpa using hy
    exact h.kept (new_alloc (new_refl w) _)
def exO : Opt := accO 172 1 0 1 (mnA 3)
theorem ex_chk : chkO [] [exO] 0 = 0 := by decide +kernel
theorem ex_str : strOfNums (prO [exO]) = ⟨#[172, 11, 0, 0, 1, 0, 0, 0, 0, 0, 1, 0]⟩ := by
  have h : prO [exO] = [172, 11, 0, 0, 1, 0, 0, 0, 0, 0, 1, 0] := by decide +kernel
  rw [h]; rfl
/-- A list that is this text, and an error. -/
def PrnT (w : World) (T : ByteArray) (q : Int) (e : Ending) (w' : World) : Prop :=
  ∃ A n c, e = .returned (.tuple #[.slice A n c, .int .i64 q]) ∧ (∀ w2, Below w'.heap.size w' w2 → (convert 32 9 (.slice A n c)).run Try.prog w2 = .ok (.string T) w2) ∧ Below w.heap.size w w'
theorem PrnTo.txt {w w' : World} {os : List Opt} {e : Ending} (h : PrnTo w os e w') : PrnT w (strOfNums (prO os)) (chkO [] os 0) e w' := by
  obtain ⟨A, n, c, rfl, O, B⟩ := h
  exact ⟨A, n, c, rfl, fun w2 B2 => own_text O B2, B⟩
theorem print_ex (A : Option Addr) (n c : Nat) (w : World) (h : HasO w ⟨exO, A, n, c⟩) :
    Calls Try.prog 19 #[.slice (some ⟨w.heap.size, 0, none⟩) 1 1] (w.alloc (.cells #[.int .i64 exO.k, .slice A n c, .string exO.s] 76)) (PrnT (w.alloc (.cells #[.int .i64 exO.k, .slice A n c, .string exO.s] 76)) ⟨#[172, 11, 0, 0, 1, 0, 0, 0, 0, 0, 1, 0]⟩ 0) :=
  (print_any _ 1 1 [⟨exO, A, n, c⟩] _ (opts_one h) (by decide)).mono fun e w' k => by
    have := k.txt
    rw [List.map_cons, List.map_nil, ex_chk, ex_str] at this
    exact this
end Go.Proofs.Ytnkcnfkonifmhaa
