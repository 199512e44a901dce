/- Common to all texts: endings, and what a call that only makes memory leaves of what was there ('Below' from the call's own world on). -/
import Derived.Test.YtcgpjnddklhemaaRows
import Derived.WalkKit
import Derived.ProofKit
import Derived.OpenShut
import Derived.ShutString
import Derived.ChangeOld
import Derived.Below
import Derived.Deep.Draws
import Derived.Lib.Hide
import Derived.Laws.Rows
import Derived.Laws.OwnMore
namespace Go.Proofs.Ytcgpjnddklhemaa
open Go.ChangeShapes Go.WideShapes Go.ChangeAt Go.RowKit

theorem ret_int {k : IntKind} {a b : Int} (h : a = b) : Ending.returned (.int k a) = .returned (.int k b) := by rw [h]
theorem ret_bool {a b : Bool} (h : a = b) : Ending.returned (.bool a) = .returned (.bool b) := by rw [h]
theorem ret_pair {k l : IntKind} {a b c d : Int} (h : a = b) (h' : c = d) : Ending.returned (.tuple #[.int k a, .int l c]) = .returned (.tuple #[.int k b, .int l d]) := by rw [h, h']
theorem ret_pair_i {a b c d : Int} (h : a = b) (h' : c = d) : Ending.returned (.tuple #[.int .i64 a, .int .i64 c]) = .returned (.tuple #[.int .i64 b, .int .i64 d]) := by rw [h, h']
/-- In a quiet region: a callee that leaves the world alone. -/
theorem quiet_as {P : Program} {f : FuncId} {args : Array Value} {w : World} {n : Nat} {v : Value}
    (h : Calls P f args (w.drewN n) fun e w' => e = .returned v ∧ w.drewN n = w') : Calls P f args (w.drewN n) fun e w'' => e = .returned v ∧ ∃ m, w'' = w.drewN m :=
  h.mono fun _ _ ⟨he, hm⟩ => ⟨he, n, hm.symm⟩

theorem new_refl (a : World) : Below a.heap.size a a := Below.refl _ _
theorem new_then {a b c : World} (h : Below a.heap.size a b) (k : Below b.heap.size b c) : Below a.heap.size a c := h.trans (k.mono h.size)
theorem new_alloc {a w : World} (h : Below a.heap.size a w) (o : Obj) : Below a.heap.size a (w.alloc o) := h.alloc h.size o
theorem new_set {a w : World} (h : Below a.heap.size a w) {p : Addr} (hp : a.heap.size ≤ p.block) (u : Value) : Below a.heap.size a (w.setCell p u) := h.setCell hp u
theorem new_draw {B : Nat} {a w : World} (h : Below B a w) (n : Nat) : Below B a (w.drewN n) := ⟨h.os, h.tape, h.output, h.size, h.block⟩
theorem new_drew {B : Nat} {a w : World} (h : Below B a w) : Below B a w.drew := ⟨h.os, h.tape, h.output, h.size, h.block⟩
theorem new_undrew {a w : World} (h : Below a.drew.heap.size a.drew w) : Below a.heap.size a w := ⟨h.os, h.tape, h.output, h.size, h.block⟩
/-- Behind a call: the old cells and marks read as before, and there are not fewer blocks. -/
theorem behind {W w1 : World} (hb : Below W.heap.size W w1) : (∀ b o, b < W.heap.size → w1.cell? ⟨b, o, none⟩ = W.cell? ⟨b, o, none⟩) ∧ (∀ b o, b < W.heap.size → w1.frozen? ⟨b, o, none⟩ = W.frozen? ⟨b, o, none⟩) ∧ W.heap.size ≤ w1.heap.size :=
  ⟨fun b o h => hb.cell (p := ⟨b, o, none⟩) h, fun b o h => hb.frozen (p := ⟨b, o, none⟩) h, hb.size⟩
theorem cell_kept {W w1 : World} {p : Addr} {v : Value} (hb : Below W.heap.size W w1) (h : W.cell? p = some v) : w1.cell? p = some v := (hb.cell (World.block_lt_of_cell? W _ h)).trans h

theorem two_kept {W w1 : World} {p q : Addr} {u v : Value} (hb : Below W.heap.size W w1) (h : W.cell? p = some u ∧ W.cell? q = some v) : w1.cell? p = some u ∧ w1.cell? q = some v := ⟨cell_kept hb h.1, cell_kept hb h.2⟩

/-- Block g holds these cells, from its first on. -/
def At (w : World) (g : Nat) (vs : List Value) : Prop := g < w.heap.size ∧ ∀ i v, vs[i]? = some v → w.cell? ⟨g, i, none⟩ = some v
theorem At.cell {w : World} {g : Nat} {vs : List Value} (h : At w g vs) (i : Nat) {v : Value} (hv : vs[i]? = some v) : w.cell? ⟨g, i, none⟩ = some v := h.2 i v hv
theorem At.kept {w w1 : World} {g : Nat} {vs : List Value} (h : At w g vs) (hb : Below w.heap.size w w1) : At w1 g vs := ⟨Nat.lt_of_lt_of_le h.1 hb.size, fun i v hv => cell_kept hb (h.2 i v hv)⟩
theorem At.alloc {w : World} {g : Nat} {vs : List Value} (h : At w g vs) (o : Obj) : At (w.alloc o) g vs := h.kept (new_alloc (new_refl w) o)
theorem At.draw {w : World} {g : Nat} {vs : List Value} (h : At w g vs) (n : Nat) : At (w.drewN n) g vs := h
theorem At.new (w : World) (vs : List Value) (t : TypeId) : At (w.alloc (.cells vs.toArray t)) w.heap.size vs :=
  ⟨by simp, fun i v hv => (cell_of_row (w.alloc (.cells vs.toArray t)) w.heap.size i vs.toArray t (0, 0) (heap_alloc_new w _)).trans (by simpa using hv)⟩
theorem At.far {w : World} {g : Nat} {vs : List Value} (h : At w g vs) {p : Addr} (hp : g ≠ p.block) (u : Value) : At (w.setCell p u) g vs :=
  ⟨by simpa [World.setCell] using h.1, fun i v hv => (World.cell?_setCell_other w p ⟨g, i, none⟩ u (fun e => hp (by rw [e]))).trans (h.2 i v hv)⟩
theorem at_two {w : World} {g : Nat} {u v : Value} (h : g < w.heap.size) (hu : w.cell? ⟨g, 0, none⟩ = some u) (hv : w.cell? ⟨g, 1, none⟩ = some v) : At w g [u, v] :=
  ⟨h, fun i x hx => match i, hx with
    | 0, hx => by simp at hx; subst hx; exact hu
    | 1, hx => by simp at hx; subst hx; exact hv
    | n + 2, hx => by simp at hx⟩
theorem At.newAt {w : World} {g : Nat} (h : w.heap.size = g) (vs : List Value) (t : TypeId) : At (w.alloc (.cells vs.toArray t)) g vs := by
  subst h; exact At.new w vs t
theorem at_new2 {w : World} {g : Nat} {u v : Value} {t : TypeId} (h : w.heap.size = g) : At (w.alloc (.cells #[u, v] t)) g [u, v] := by
  subst h; exact At.new w [u, v] t
theorem At.set2 {w : World} {g : Nat} {u0 v0 u v : Value} (h : At w g [u0, v0]) : At ((w.setCell ⟨g, 0, none⟩ u).setCell ⟨g, 1, none⟩ v) g [u, v] := by
  have h0 := h.cell 0 rfl
  have h1 := h.cell 1 rfl
  refine at_two (by simpa [World.setCell] using h.1) ?_ ?_
  · rw [World.cell?_setCell_other _ _ _ _ (by simp)]
    exact World.cell?_setCell_same _ _ _ h0
  · exact World.cell?_setCell_same _ _ _ ((World.cell?_setCell_other _ _ _ _ (by simp)).trans h1)
end Go.Proofs.Ytcgpjnddklhemaa
