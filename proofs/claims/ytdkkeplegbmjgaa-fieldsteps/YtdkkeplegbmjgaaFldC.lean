/- The chapter's example of layer 17; what is kept while three fields are stepped. -/
import Derived.Test.YtdkkeplegbmjgaaFldB
import Derived.Deep.QuietTactic
import Derived.BigQuiet
import Derived.IntWalk
namespace Go.Proofs.Ytdkkeplegbmjgaa
open Go.ChangeShapes Go.WideShapes Go.ChangeAt Go.RowKit
set_option linter.unusedVariables false

theorem works17_any (w : World) : Calls Try.prog 11 #[] w fun e w' => e = .returned (.bool true) ∧ Below w.heap.size w w' := by
  have e1 : stF 16777221 7 = 2 := by decide
  have e2 : (frF 9 9 && frF 9 (-1) && frF 9 10) = true := by decide
  have L := new_refl w
  go_enter Try.func11, Try.ntmps11
  go_wp2_with (first
    | (go_at_call 8; refine (step17_any _ _ _).mono ?_; rintro e w1 ⟨rfl, B⟩; rw [e1]; replace L := new_then L B)
    | (go_at_call 10; refine (fresh17_any _ _ _ _ _ _ _).mono ?_; rintro e w2 ⟨rfl, B⟩; rw [e2]; replace L := new_then L B))
  go_ret
  exact ⟨rfl, L⟩

structure StpAt (w wr : World) (ls ts ws : List Value) : Prop where
  last : Blk wr w.heap.size ls 22
  told : Blk wr (w.heap.size + 1) ts 22
  want : Blk wr (w.heap.size + 1 + 1) ws 22
  low : Below w.heap.size w wr
theorem StpAt.setL {w wr : World} {ls ts ws : List Value} (h : StpAt w wr ls ts ws) (j : Nat) (v : Value) : StpAt w (wr.setCell ⟨w.heap.size, j, none⟩ v) (ls.set j v) ts ws :=
  ⟨h.last.set j v, h.told.far (p := ⟨w.heap.size, j, none⟩) (show w.heap.size + 1 ≠ w.heap.size by omega) v, h.want.far (p := ⟨w.heap.size, j, none⟩) (show w.heap.size + 1 + 1 ≠ w.heap.size by omega) v, new_set h.low (p := ⟨w.heap.size, j, none⟩) (Nat.le_refl _) v⟩
theorem StpAt.setW {w wr : World} {ls ts ws : List Value} (h : StpAt w wr ls ts ws) (j : Nat) (v : Value) : StpAt w (wr.setCell ⟨w.heap.size + 1 + 1, j, none⟩ v) ls ts (ws.set j v) :=
  ⟨h.last.far (p := ⟨w.heap.size + 1 + 1, j, none⟩) (show w.heap.size ≠ w.heap.size + 1 + 1 by omega) v, h.told.far (p := ⟨w.heap.size + 1 + 1, j, none⟩) (show w.heap.size + 1 ≠ w.heap.size + 1 + 1 by omega) v, h.want.set j v, new_set h.low (p := ⟨w.heap.size + 1 + 1, j, none⟩) (show w.heap.size ≤ w.heap.size + 1 + 1 by omega) v⟩
theorem StpAt.drew {w wr : World} {ls ts ws : List Value} (h : StpAt w wr ls ts ws) : StpAt w wr.drew ls ts ws := ⟨h.last, h.told, h.want, new_drew h.low⟩
theorem StpAt.draw {w wr : World} {ls ts ws : List Value} (h : StpAt w wr ls ts ws) (n : Nat) : StpAt w (wr.drewN n) ls ts ws := ⟨h.last, h.told, h.want, new_draw h.low n⟩
theorem StpAt.then {w wr w1 : World} {ls ts ws : List Value} (h : StpAt w wr ls ts ws) (B : Below wr.heap.size wr w1) : StpAt w w1 ls ts ws := ⟨h.last.kept B, h.told.kept B, h.want.kept B, new_then h.low B⟩
theorem stp_start (w : World) (l0 l1 l2 t0 t1 t2 : Int) : StpAt w (((w.alloc (.cells #[.int .i64 l0, .int .i64 l1, .int .i64 l2] 22)).alloc (.cells #[.int .i64 t0, .int .i64 t1, .int .i64 t2] 22)).alloc (.cells #[.int .i64 l0, .int .i64 l1, .int .i64 l2] 22))
    [.int .i64 l0, .int .i64 l1, .int .i64 l2] [.int .i64 t0, .int .i64 t1, .int .i64 t2] [.int .i64 l0, .int .i64 l1, .int .i64 l2] :=
  ⟨((Blk.new w [.int .i64 l0, .int .i64 l1, .int .i64 l2] _).alloc _).alloc _, (Blk.newAt (alloc_size w _) [.int .i64 t0, .int .i64 t1, .int .i64 t2] _).alloc _, Blk.newAt (by rw [alloc_size, alloc_size]) [.int .i64 l0, .int .i64 l1, .int .i64 l2] _, new_alloc (new_alloc (new_alloc (new_refl w) _) _) _⟩
def StpI (w : World) (l0 l1 l2 t0 t1 t2 m0 m1 m2 v0 v1 v2 : Int) (f0 f1 f2 : Bool) (gh : Nat) (vf vi : Value) (wr : World) : Prop :=
  ∃ k : Nat, vi = .int .i64 (k : Int) ∧ vf = .bool (frP f0 f1 f2 k) ∧ 3 - k = gh ∧ k ≤ 3 ∧ StpAt w wr (nsF l0 l1 l2 m0 m1 m2 k) [.int .i64 t0, .int .i64 t1, .int .i64 t2] (nsF l0 l1 l2 v0 v1 v2 k)
theorem nine_keptF {W w1 : World} {p q r s t u x y z : Addr} {a b c d e f g h i : Value} (hb : Below W.heap.size W w1) (k : W.cell? p = some a ∧ W.cell? q = some b ∧ W.cell? r = some c ∧ W.cell? s = some d ∧ W.cell? t = some e ∧ W.cell? u = some f ∧ W.cell? x = some g ∧ W.cell? y = some h ∧ W.cell? z = some i) :
    w1.cell? p = some a ∧ w1.cell? q = some b ∧ w1.cell? r = some c ∧ w1.cell? s = some d ∧ w1.cell? t = some e ∧ w1.cell? u = some f ∧ w1.cell? x = some g ∧ w1.cell? y = some h ∧ w1.cell? z = some i :=
  ⟨cell_kept hb k.1, cell_kept hb k.2.1, cell_kept hb k.2.2.1, cell_kept hb k.2.2.2.1, cell_kept hb k.2.2.2.2.1, cell_kept hb k.2.2.2.2.2.1, cell_kept hb k.2.2.2.2.2.2.1, cell_kept hb k.2.2.2.2.2.2.2.1, cell_kept hb k.2.2.2.2.2.2.2.2⟩
theorem frP_t0 {f0 f1 f2 : Bool} (h : frP f0 f1 f2 0 = true) : frP f0 f1 f2 (0 + 1) = f0 := rfl
theorem frP_t1 {f0 f1 f2 : Bool} (h : frP f0 f1 f2 1 = true) : frP f0 f1 f2 (1 + 1) = f1 := by simp [frP] at h ⊢; simp [h]
theorem frP_t2 {f0 f1 f2 : Bool} (h : frP f0 f1 f2 2 = true) : frP f0 f1 f2 (2 + 1) = f2 := by simp [frP] at h ⊢; simp [h]
theorem frP_n0 {f0 f1 f2 : Bool} (h : frP f0 f1 f2 0 = false) : frP f0 f1 f2 (0 + 1) = false := by simp [frP] at h
theorem frP_n1 {f0 f1 f2 : Bool} (h : frP f0 f1 f2 1 = false) : frP f0 f1 f2 (1 + 1) = false := by simp [frP] at h ⊢; simp [h]
theorem frP_n2 {f0 f1 f2 : Bool} (h : frP f0 f1 f2 2 = false) : frP f0 f1 f2 (2 + 1) = false := by
  have e : frP f0 f1 f2 (2 + 1) = (frP f0 f1 f2 2 && f2) := rfl
  rw [e, h]; rfl
end Go.Proofs.Ytdkkeplegbmjgaa
