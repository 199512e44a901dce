/- Package ring at int64: a row that was made in the call at hand, and what a law does to it. -/
import Derived.Test.YtamcakckbabeiaaRingE
namespace Go.Proofs.Ytamcakckbabeiaa
namespace R8
open Go.RowKit
set_option linter.unusedVariables false

/-- A row at block b, all of which is new since w; of what was there nothing has turned. -/
def RAt (w : World) (b M : Nat) (zs : List Int) (wr : World) : Prop := ∃ gr, IsRing wr b gr zs M ∧ w.heap.size ≤ gr ∧ w.heap.size ≤ b ∧ Below w.heap.size w wr
theorem RAt.below {w wr : World} {b M : Nat} {zs : List Int} (h : RAt w b M zs wr) : Below w.heap.size w wr := h.elim fun _ h => h.2.2.2
theorem RAt.kept {w wr w' : World} {b M : Nat} {zs : List Int} (h : RAt w b M zs wr) (B : Below wr.heap.size wr w') : RAt w b M zs w' := by
  obtain ⟨gr, R, hg, hb, Bl⟩ := h
  exact ⟨gr, R.kept B, hg, hb, new_then Bl B⟩
theorem RAt.draw {w wr : World} {b M : Nat} {zs : List Int} (h : RAt w b M zs wr) (n : Nat) : RAt w b M zs (wr.drewN n) := h.kept (new_draw (new_refl wr) n)
theorem RAt.new {w w' : World} {M : Nat} (R : IsRing w' w.heap.size w.heap.size [] M) (B : Below w.heap.size w w') : RAt w w.heap.size M [] w' := ⟨_, R, Nat.le_refl _, Nat.le_refl _, B⟩
/-- A call that changes the row, seen from w. -/
def TurnsR (w : World) (b M : Nat) (v : Value) (zs : List Int) (e : Ending) (w' : World) : Prop := e = .returned v ∧ RAt w b M zs w'
theorem turns_r {w wr w' : World} {b gr M : Nat} {v : Value} {zs : List Int} {e : Ending} (hg : w.heap.size ≤ gr) (hb : w.heap.size ≤ b) (Bl : Below w.heap.size w wr) (h : Turns wr b gr v zs M e w') : TurnsR w b M v zs e w' := by
  obtain ⟨g', he, R, hg', o⟩ := h
  have s := Bl.size
  exact ⟨he, g', R, slot_low hg' hg s, hb, Bl.trans (foot_below o s hb hg)⟩
theorem RAt.push {w wr : World} {b M : Nat} {zs : List Int} (h : RAt w b M zs wr) (x : Int) (hz : zs.length < M) :
    Calls Try.prog 11 #[.pointer (some ⟨b, 0, none⟩), .int .i64 x] wr (TurnsR w b M (.int .i64 0) (zs ++ [x])) := by
  obtain ⟨gr, R, hg, hb, Bl⟩ := h
  exact (push_any b gr x zs M wr R hz).mono fun e w' h => turns_r hg hb Bl h
theorem RAt.full {w wr : World} {b M : Nat} {zs : List Int} (h : RAt w b M zs wr) (x : Int) (hz : zs.length = M) :
    Calls Try.prog 11 #[.pointer (some ⟨b, 0, none⟩), .int .i64 x] wr (TurnsR w b M (.int .i64 9) zs) := by
  have h' := h
  obtain ⟨gr, R, hg, hb, Bl⟩ := h
  exact (push_full b gr x zs M wr R hz).mono fun e w' ⟨he, n, hn⟩ => ⟨he, by rw [hn]; exact h'.draw n⟩
theorem RAt.pop {w wr : World} {b M : Nat} {z : Int} {zs : List Int} (h : RAt w b M (z :: zs) wr) :
    Calls Try.prog 8 #[.pointer (some ⟨b, 0, none⟩)] wr (TurnsR w b M (.tuple #[.int .i64 z, .bool true]) zs) := by
  obtain ⟨gr, R, hg, hb, Bl⟩ := h
  exact (pop_some b gr z zs M wr R).mono fun e w' h => turns_r hg hb Bl h
theorem RAt.drop {w wr : World} {b M : Nat} {zs : List Int} (h : RAt w b M zs wr) (n : Int) (k : Nat) (hk : (n < 0 ∧ k = 0) ∨ (n = (k : Int) ∧ k ≤ zs.length) ∨ ((zs.length : Int) < n ∧ k = zs.length)) :
    Calls Try.prog 15 #[.pointer (some ⟨b, 0, none⟩), .int .i64 n] wr (TurnsR w b M (.int .i64 (k : Int)) (zs.drop k)) := by
  obtain ⟨gr, R, hg, hb, Bl⟩ := h
  exact (drop_to b gr n zs M k wr R hk).mono fun e w' h => turns_r hg hb Bl h
theorem RAt.len {w wr : World} {b M L : Nat} {zs : List Int} (h : RAt w b M zs wr) (hL : zs.length = L) :
    Calls Try.prog 14 #[.pointer (some ⟨b, 0, none⟩)] wr fun e w' => e = .returned (.int .i64 (L : Int)) ∧ wr = w' := by
  obtain ⟨gr, R, hg, hb, Bl⟩ := h
  subst hL
  exact len_ring b gr zs M wr R
theorem RAt.slice {w wr : World} {b M : Nat} {zs : List Int} (h : RAt w b M zs wr) :
    Calls Try.prog 16 #[.pointer (some ⟨b, 0, none⟩)] wr (GivesRow wr zs) := by
  obtain ⟨gr, R, hg, hb, Bl⟩ := h
  exact slice_ring b gr zs M wr R
/-- The same, by a letter for the length; the list's block lies behind the row's. -/
def GivesRowL (w wr : World) (b M : Nat) (zs : List Int) (L : Nat) (e : Ending) (w' : World) : Prop :=
  ∃ g c gr, e = .returned (.slice (some ⟨g, 0, none⟩) L c) ∧ Own w' wr.heap.size (.slice (some ⟨g, 0, none⟩) L c) zs ∧ Below wr.heap.size wr w' ∧ IsRing w' b gr zs M ∧ gr < wr.heap.size ∧ b < wr.heap.size ∧ w.heap.size ≤ gr ∧ w.heap.size ≤ b ∧ Below w.heap.size w w'
theorem RAt.sliceL {w wr : World} {b M L : Nat} {zs : List Int} (h : RAt w b M zs wr) (hL : zs.length = L) :
    Calls Try.prog 16 #[.pointer (some ⟨b, 0, none⟩)] wr (GivesRowL w wr b M zs L) := by
  obtain ⟨gr, R, hg, hb, Bl⟩ := h
  subst hL
  exact (slice_ring b gr zs M wr R).mono fun e w' ⟨g, c, he, ho, hB⟩ => ⟨g, c, gr, he, ho, hB, R.kept hB, R.lt.2, R.lt.1, hg, hb, new_then Bl hB⟩
end R8
end Go.Proofs.Ytamcakckbabeiaa
