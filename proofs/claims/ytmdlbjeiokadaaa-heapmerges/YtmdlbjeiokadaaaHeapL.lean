/- A heap and the document's list, side by side. -/
import Derived.Test.YtmdlbjeiokadaaaHeapG
import Derived.Test.YtmdlbjeiokadaaaHeapK
import Derived.Test.YtmdlbjeiokadaaaRef6B
import Derived.Test.YtmdlbjeiokadaaaRef6C
import Derived.Test.YtmdlbjeiokadaaaRowK
namespace Go.Proofs.Ytmdlbjeiokadaaa
open Go.RowKit
set_option linter.unusedVariables false

/-- What is told of the first one. -/
def Tells (x : Ev) (i : Bool) (L : List Wt) : Prop := (L = [] ∧ i = false ∧ x = ⟨0, 0, 0, 0⟩) ∨ ∃ y L', L = y :: L' ∧ i = true ∧ x = y.ev
theorem firstF {w : World} {x : Ev} {i : Bool} {L : List Wt} {gl N c : Nat} {A : Option Addr} (ht : Tells x i L) (h : LstE w gl A (L.map Wt.ev)) (hN : L.length = N) :
    Calls Try.prog 9 #[aggE x, .bool i, .slice A N c] w fun e w' => e = .returned (.bool true) ∧ Below w.heap.size w w' := by
  rcases ht with ⟨rfl, rfl, rfl⟩ | ⟨y, L', rfl, rfl, rfl⟩
  · subst hN
    exact first_none c A w
  · subst hN
    rcases h with ⟨_, h⟩ | ⟨off, rfl, h⟩
    · cases h
    · have := h 0 (by simp)
      rw [Nat.zero_mul, Nat.add_zero] at this
      exact first_some gl off L'.length c y.ev w this
theorem peekF {w wr : World} {b g : Nat} {L : List Wt} {p : Int} (h : HAt w b g L p wr) :
    Calls Try.prog 15 #[.pointer (some ⟨b, 0, none⟩)] wr fun e w' => ∃ x i, e = .returned (.tuple #[aggE x, .bool i]) ∧ Tells x i L ∧ Below wr.heap.size wr w' := by
  refine (peekH b g L p wr h.1).mono fun e w' ⟨he, B⟩ => ?_
  cases L with
  | nil => exact ⟨⟨0, 0, 0, 0⟩, false, he, .inl ⟨rfl, rfl, rfl⟩, B⟩
  | cons y L => exact ⟨y.ev, true, he, .inr ⟨y, L, rfl, rfl, rfl⟩, B⟩
theorem popF {w wr : World} {b g : Nat} {L : List Wt} {p : Int} (h : HAt w b g L p wr) :
    Calls Try.prog 8 #[.pointer (some ⟨b, 0, none⟩)] wr fun e w' => ∃ x i g', e = .returned (.tuple #[aggE x, .bool i]) ∧ Tells x i L ∧ HAt w b g' L.tail p w' ∧ (g' = g ∨ wr.heap.size ≤ g') ∧ Out (footH b g) wr w' := by
  cases L with
  | nil => exact (popH_none b g p wr h.1).mono fun e w' ⟨he, B⟩ => ⟨⟨0, 0, 0, 0⟩, false, g, he, .inl ⟨rfl, rfl, rfl⟩, h.kept B, .inl rfl, Out.of B _⟩
  | cons y L => exact (popH_some b g y L p wr h.1).mono fun e w' ⟨g', he, h', hg, o⟩ => ⟨y.ev, true, g', he, .inr ⟨y, L, rfl, rfl, rfl⟩, h.turned h' hg o, hg, o⟩
theorem dropF {w wr : World} {b g N M : Nat} {f : Int} {L : List Wt} {p : Int} (h : HAt w b g L p wr) (hN : L.length = N) (hM : (L.filter (kp f)).length = M) :
    Calls Try.prog 11 #[.pointer (some ⟨b, 0, none⟩), .int .i64 f] wr fun e w' => ∃ g', e = .returned (.int .i64 ((N : Int) - (M : Int))) ∧ HAt w b g' (L.filter (kp f)) p w' ∧ (g' = g ∨ wr.heap.size ≤ g') ∧ Out (footH b g) wr w' := by
  subst hN
  exact (dropH b g M f L p wr h.1 hM).mono fun e w' ⟨g', he, h', hg, o⟩ => ⟨g', he, h.turned h' hg o, hg, o⟩

/-- The list's value is that of what waits. -/
def VAt (b gH : Nat) (L : List Wt) (v : Value) (A : Option Addr) (N c gl : Nat) (wr : World) : Prop :=
  v = .slice A N c ∧ L.length = N ∧ LstE wr gl A (L.map Wt.ev) ∧ N ≤ c ∧ (A = none → c = 0) ∧ (L ≠ [] → gl ≠ b ∧ gl ≠ gH)
theorem ev_nil {L : List Wt} : L.map Wt.ev ≠ [] ↔ L ≠ [] := by simp
theorem VAt.kept {b gH N c gl : Nat} {L : List Wt} {v : Value} {A : Option Addr} {wr w' : World} (h : VAt b gH L v A N c gl wr) (B : Below wr.heap.size wr w') : VAt b gH L v A N c gl w' := ⟨h.1, h.2.1, h.2.2.1.kept B, h.2.2.2⟩
/-- The heap was changed, the list was not yet. -/
theorem lst_foot {b g gl : Nat} {E : List Ev} {A : Option Addr} {wr w' : World} (h : LstE wr gl A E) (hg : E ≠ [] → gl ≠ b ∧ gl ≠ g) (o : Out (footH b g) wr w') : LstE w' gl A E :=
  h.outs o (fun e => not_footH (hg e).1 (hg e).2)
theorem lst_tail0 {wr : World} {gl : Nat} (off : Nat) : LstE wr gl (some ⟨gl, off, none⟩) [] := .inr ⟨off, rfl, fun i hi => by simp at hi⟩
theorem lst_tail4 {wr : World} {gl off : Nat} {y : Ev} {E : List Ev} (h : ∀ i, i < (y :: E).length → Four wr gl (off + i * 4) (nthE (y :: E) i)) : LstE wr gl (some ⟨gl, off + 4, none⟩) E := by
  refine .inr ⟨off + 4, rfl, fun i hi => ?_⟩
  have := h (i + 1) (by simp; omega)
  rw [show off + (i + 1) * 4 = off + 4 + i * 4 by omega] at this
  have e : nthE (y :: E) (i + 1) = nthE E i := by simp [nthE]
  rwa [e] at this
/-- Both, side by side; so many were pushed at most. -/
def PAt (w : World) (b : Nat) (K : Int) (v : Value) (wr : World) : Prop := ∃ gH p L A N c gl, HAt w b gH L p wr ∧ VAt b gH L v A N c gl wr ∧ p ≤ K
theorem PAt.kept {w : World} {b : Nat} {K : Int} {v : Value} {wr w' : World} (h : PAt w b K v wr) (B : Below wr.heap.size wr w') : PAt w b K v w' := by
  obtain ⟨gH, p, L, A, N, c, gl, h1, h2, h3⟩ := h
  exact ⟨gH, p, L, A, N, c, gl, h1.kept B, h2.kept B, h3⟩
theorem new_far {g g' : Nat} {gl s : Nat} (hg : g' = g ∨ s ≤ g') (h1 : gl ≠ g) (h2 : gl < s) : gl ≠ g' := by omega
/-- Behind a pop. -/
theorem popped_at {w wr w1 : World} {b gH g1 gl N c : Nat} {y : Wt} {L : List Wt} {p K : Int} {A' : Option Addr} (Q : HAt w b g1 L p w1) (hl : LstE w1 gl A' (L.map Wt.ev)) (hN : L.length = N) (hc : N ≤ c) (hA : A' ≠ none) (hg : gl ≠ b ∧ gl ≠ gH) (hlt : gl < wr.heap.size) (hg1 : g1 = gH ∨ wr.heap.size ≤ g1) (hp : p ≤ K) : PAt w b K (.slice A' N c) w1 :=
  ⟨g1, p, L, A', N, c, gl, Q, ⟨rfl, hN, hl, hc, fun e => absurd e hA, fun _ => ⟨hg.1, new_far hg1 hg.2 hlt⟩⟩, hp⟩
end Go.Proofs.Ytmdlbjeiokadaaa
