/- Package heap: heaps that a call made itself; leatlaw06.works; Drop of nil. -/
import Derived.Test.YtmdlbjeiokadaaaHeapF
namespace Go.Proofs.Ytmdlbjeiokadaaa
open Go.RowKit
set_option linter.unusedVariables false

/-- A heap among the blocks that came since w. -/
def HAt (w : World) (b g : Nat) (L : List Wt) (p : Int) (wr : World) : Prop := IsHeap wr b g L p ∧ w.heap.size ≤ b ∧ w.heap.size ≤ g ∧ Below w.heap.size w wr
theorem HAt.kept {w wr w' : World} {b g : Nat} {L : List Wt} {p : Int} (h : HAt w b g L p wr) (B : Below wr.heap.size wr w') : HAt w b g L p w' := ⟨h.1.kept B, h.2.1, h.2.2.1, new_then h.2.2.2 B⟩
theorem foot_belowH {B : Nat} {w w' : World} {b g : Nat} (o : Out (footH b g) w w') (hB : B ≤ w.heap.size) (hb : B ≤ b) (hg : B ≤ g) : Below B w w' := o.below hB (fun k hk => by rcases hk with rfl | rfl <;> assumption)
theorem HAt.turned {w wr w' : World} {b g g' : Nat} {L L' : List Wt} {p p' : Int} (h : HAt w b g L p wr) (h' : IsHeap w' b g' L' p') (hg : g' = g ∨ wr.heap.size ≤ g') (o : Out (footH b g) wr w') : HAt w b g' L' p' w' := by
  obtain ⟨h1, h2, h3, h4⟩ := h
  have s := h4.size
  exact ⟨h', h2, by omega, h4.trans (foot_belowH o s h2 h3)⟩
theorem newA (w : World) :
    Calls Try.prog 7 #[] w fun e w' => e = .returned (.pointer (some ⟨w.heap.size, 0, none⟩)) ∧ HAt w w.heap.size w.heap.size [] 0 w' :=
  (newH w).mono fun e w' ⟨he, h, B⟩ => ⟨he, h, Nat.le_refl _, Nat.le_refl _, B⟩
theorem pushA {w wr : World} {b g : Nat} {L : List Wt} {p : Int} (x : Ev) (h : HAt w b g L p wr) (hp : p < 1000000) :
    Calls Try.prog 12 #[.pointer (some ⟨b, 0, none⟩), aggE x] wr fun e w' => ∃ g', e = .returned (.tuple #[]) ∧ HAt w b g' (ins L (x.wt p)) (p + 1) w' ∧ (g' = g ∨ wr.heap.size ≤ g') ∧ Out (footH b g) wr w' :=
  (pushH b g x L p wr h.1 hp).mono fun e w' ⟨g', he, h', hg, o⟩ => ⟨g', he, h.turned h' hg o, hg, o⟩
abbrev aggW (x : Wt) : Value := .agg #[.int .i64 x.a, .int .i64 x.k, .int .i64 x.f, .int .i64 x.n]
theorem popA {w wr : World} {b g : Nat} {x : Wt} {L : List Wt} {p : Int} (h : HAt w b g (x :: L) p wr) :
    Calls Try.prog 8 #[.pointer (some ⟨b, 0, none⟩)] wr fun e w' => ∃ g', e = .returned (.tuple #[aggW x, .bool true]) ∧ HAt w b g' L p w' ∧ (g' = g ∨ wr.heap.size ≤ g') ∧ Out (footH b g) wr w' :=
  (popH_some b g x L p wr h.1).mono fun e w' ⟨g', he, h', hg, o⟩ => ⟨g', he, h.turned h' hg o, hg, o⟩

theorem not_footH {b g k : Nat} (h1 : k ≠ b) (h2 : k ≠ g) : ¬ footH b g k := fun h => h.elim h1 h2
theorem drop_nilH (f : Int) (w : World) :
    Calls Try.prog 11 #[.pointer none, .int .i64 f] w fun e w' => e = .returned (.int .i64 0) ∧ Below w.heap.size w w' := by
  go_enter Try.func11, Try.ntmps11
  go_wp2
  go_ret
  exact ⟨rfl, new_alloc (new_refl w) _⟩

set_option maxRecDepth 100000 in
set_option maxHeartbeats 1000000 in
theorem works06_any (w : World) : Calls Try.prog 17 #[] w fun e w' => e = .returned (.bool true) ∧ Below w.heap.size w w' := by
  have e1 : ins [] (Ev.wt ⟨5, 1, 0, 0⟩ 0) = [⟨5, 1, 0, 0, 0⟩] := rfl
  have e2 : ins [⟨5, 1, 0, 0, 0⟩] (Ev.wt ⟨3, 2, 0, 0⟩ (0 + 1)) = [⟨3, 2, 0, 0, 1⟩, ⟨5, 1, 0, 0, 0⟩] := rfl
  have e3 : ins [⟨3, 2, 0, 0, 1⟩, ⟨5, 1, 0, 0, 0⟩] (Ev.wt ⟨5, 3, 0, 0⟩ (0 + 1 + 1)) = [⟨3, 2, 0, 0, 1⟩, ⟨5, 1, 0, 0, 0⟩, ⟨5, 3, 0, 0, 2⟩] := rfl
  have E1 := Lib.hid e1
  have E2 := Lib.hid e2
  have E3 := Lib.hid e3
  clear e1 e2 e3
  go_enter Try.func17, Try.ntmps17
  go_wp2_with (first
    | (go_at_call 7; refine (newA w).mono ?_; rintro e w0 ⟨rfl, Q0⟩)
    | (go_at_call 12; have h := Q2; clear h; refine (pushA ⟨5, 3, 0, 0⟩ Q2 (by decide)).mono ?_; rintro e w3 ⟨g3, rfl, Q3, _, _⟩; rw [E3.out] at Q3)
    | (go_at_call 12; have h := Q1; clear h; refine (pushA ⟨3, 2, 0, 0⟩ Q1 (by decide)).mono ?_; rintro e w2 ⟨g2, rfl, Q2, _, _⟩; rw [E2.out] at Q2)
    | (go_at_call 12; refine (pushA ⟨5, 1, 0, 0⟩ Q0 (by decide)).mono ?_; rintro e w1 ⟨g1, rfl, Q1, _, _⟩; rw [E1.out] at Q1)
    | (go_at_call 8; have h := Q5; clear h; refine (popA (Q5.kept (new_alloc (new_refl w5) _))).mono ?_; rintro e w6 ⟨g6, rfl, Q6, hg6, o6⟩; have A6 := (A5.alloc _).out o6 (not_footH (by omega) (by omega)); have C6 := (Blk.new w5 [.int .i64 5, .int .i64 1, .int .i64 0, .int .i64 0] 27).out o6 (not_footH (by omega) (by omega)); have a6 := fun o => (A6.alloc o).cell 1 rfl; have c6 := fun o => (C6.alloc o).cell 1 rfl)
    | (go_at_call 8; have h := Q4; clear h; refine (popA (Q4.kept (new_alloc (new_refl w4) _))).mono ?_; rintro e w5 ⟨g5, rfl, Q5, hg5, o5⟩; rw [alloc_size] at hg5; have A5 := (Blk.new w4 [.int .i64 3, .int .i64 2, .int .i64 0, .int .i64 0] 27).out o5 (not_footH (by omega) (by omega)); have l5 := Q5.1.lt; have s5 := A5.lt)
    | (go_at_call 8; refine (popA Q3).mono ?_; rintro e w4 ⟨g4, rfl, Q4, hg4, o4⟩; have l4 := Q4.1.lt)
    | (go_at_call 16; refine (lenH _ g6 0 _ _ _ (Q6.kept (new_alloc (new_refl w6) _)).1 rfl).mono ?_; rintro e w7 ⟨rfl, rfl⟩))
  go_ret
  exact ⟨rfl, (Q6.kept (new_alloc (new_refl w6) _)).2.2.2⟩
end Go.Proofs.Ytmdlbjeiokadaaa
