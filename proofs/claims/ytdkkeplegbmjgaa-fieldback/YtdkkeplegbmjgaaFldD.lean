/- What is kept while three counters are told by 24 bits. -/
import Derived.Test.YtdkkeplegbmjgaaFldC
namespace Go.Proofs.Ytdkkeplegbmjgaa
open Go.ChangeShapes Go.WideShapes Go.ChangeAt Go.RowKit
set_option linter.unusedVariables false

theorem and24F (n : Int) : bits .and .i64 n 16777215 = n % 16777216 := by
  have h24 : (BitVec.ofInt 64 16777215).toNat = 2 ^ 24 - 1 := by decide
  have key : (BitVec.ofInt 64 n &&& BitVec.ofInt 64 16777215).toNat = (n % ((2 ^ 64 : Nat) : Int)).toNat % 2 ^ 24 := by
    rw [BitVec.toNat_and, BitVec.toNat_ofInt, h24, Nat.and_two_pow_sub_one_eq_mod]
  show IntKind.i64.wrap ((BitVec.ofInt 64 n &&& BitVec.ofInt 64 16777215).toNat : Nat) = n % 16777216
  rw [key, IntKind.wrap_i64]
  omega
/-- All that the law asks of one counter: it tells all, again nothing more, and what was told ahead is fresh if it is the same. -/
structure Told1 (o b n t s : Int) (e : Bool) : Prop where
  sum : n = o + b
  tel : t = n % 16777216
  was : s = o % 16777216
  eqv : e = decide (n = o)
  fo1 : foF o t = n
  fr1 : frF o t = true
  fo2 : foF n t = n
  fr2 : frF n s = e
  fo3 : foF n s = n
theorem told1_is (o y : Int) (ho : -2147483648 ≤ o ∧ o ≤ 2147483647) (hy : 0 ≤ y ∧ y ≤ 4294967295) : Told1 o (y % 8388608) (o + y % 8388608) ((o + y % 8388608) % 16777216) (o % 16777216) (decide (o + y % 8388608 = o)) := by
  have hb : 0 ≤ y % 8388608 ∧ y % 8388608 < 8388608 := by omega
  refine ⟨rfl, rfl, rfl, rfl, back_fo o _ ho hb, back_fr o _ hb, back_again o _ ho hb, ?_, back_stays o _ ho hb⟩
  rw [back_old o _ hb]
  by_cases h : y % 8388608 = 0
  · rw [decide_eq_true h, decide_eq_true (by omega)]
  · rw [decide_eq_false h, decide_eq_false (by omega)]
structure BckAt (w wr : World) (ls bs os ns ts : List Value) : Prop where
  last : Blk wr w.heap.size ls 28
  by_ : Blk wr (w.heap.size + 1) bs 30
  old : Blk wr (w.heap.size + 1 + 1) os 22
  now : Blk wr (w.heap.size + 1 + 1 + 1) ns 22
  told : Blk wr (w.heap.size + 1 + 1 + 1 + 1) ts 22
  low : Below w.heap.size w wr
theorem BckAt.setO {w wr : World} {ls bs os ns ts : List Value} (h : BckAt w wr ls bs os ns ts) (j : Nat) (v : Value) : BckAt w (wr.setCell ⟨w.heap.size + 1 + 1, j, none⟩ v) ls bs (os.set j v) ns ts :=
  ⟨h.last.far (p := ⟨w.heap.size + 1 + 1, j, none⟩) (show w.heap.size ≠ w.heap.size + 1 + 1 by omega) v, h.by_.far (p := ⟨w.heap.size + 1 + 1, j, none⟩) (show w.heap.size + 1 ≠ w.heap.size + 1 + 1 by omega) v, h.old.set j v,
   h.now.far (p := ⟨w.heap.size + 1 + 1, j, none⟩) (show w.heap.size + 1 + 1 + 1 ≠ w.heap.size + 1 + 1 by omega) v, h.told.far (p := ⟨w.heap.size + 1 + 1, j, none⟩) (show w.heap.size + 1 + 1 + 1 + 1 ≠ w.heap.size + 1 + 1 by omega) v, new_set h.low (p := ⟨w.heap.size + 1 + 1, j, none⟩) (show w.heap.size ≤ w.heap.size + 1 + 1 by omega) v⟩
theorem BckAt.setN {w wr : World} {ls bs os ns ts : List Value} (h : BckAt w wr ls bs os ns ts) (j : Nat) (v : Value) : BckAt w (wr.setCell ⟨w.heap.size + 1 + 1 + 1, j, none⟩ v) ls bs os (ns.set j v) ts :=
  ⟨h.last.far (p := ⟨w.heap.size + 1 + 1 + 1, j, none⟩) (show w.heap.size ≠ w.heap.size + 1 + 1 + 1 by omega) v, h.by_.far (p := ⟨w.heap.size + 1 + 1 + 1, j, none⟩) (show w.heap.size + 1 ≠ w.heap.size + 1 + 1 + 1 by omega) v, h.old.far (p := ⟨w.heap.size + 1 + 1 + 1, j, none⟩) (show w.heap.size + 1 + 1 ≠ w.heap.size + 1 + 1 + 1 by omega) v,
   h.now.set j v, h.told.far (p := ⟨w.heap.size + 1 + 1 + 1, j, none⟩) (show w.heap.size + 1 + 1 + 1 + 1 ≠ w.heap.size + 1 + 1 + 1 by omega) v, new_set h.low (p := ⟨w.heap.size + 1 + 1 + 1, j, none⟩) (show w.heap.size ≤ w.heap.size + 1 + 1 + 1 by omega) v⟩
theorem BckAt.setT {w wr : World} {ls bs os ns ts : List Value} (h : BckAt w wr ls bs os ns ts) (j : Nat) (v : Value) : BckAt w (wr.setCell ⟨w.heap.size + 1 + 1 + 1 + 1, j, none⟩ v) ls bs os ns (ts.set j v) :=
  ⟨h.last.far (p := ⟨w.heap.size + 1 + 1 + 1 + 1, j, none⟩) (show w.heap.size ≠ w.heap.size + 1 + 1 + 1 + 1 by omega) v, h.by_.far (p := ⟨w.heap.size + 1 + 1 + 1 + 1, j, none⟩) (show w.heap.size + 1 ≠ w.heap.size + 1 + 1 + 1 + 1 by omega) v, h.old.far (p := ⟨w.heap.size + 1 + 1 + 1 + 1, j, none⟩) (show w.heap.size + 1 + 1 ≠ w.heap.size + 1 + 1 + 1 + 1 by omega) v,
   h.now.far (p := ⟨w.heap.size + 1 + 1 + 1 + 1, j, none⟩) (show w.heap.size + 1 + 1 + 1 ≠ w.heap.size + 1 + 1 + 1 + 1 by omega) v, h.told.set j v, new_set h.low (p := ⟨w.heap.size + 1 + 1 + 1 + 1, j, none⟩) (show w.heap.size ≤ w.heap.size + 1 + 1 + 1 + 1 by omega) v⟩
theorem BckAt.drew {w wr : World} {ls bs os ns ts : List Value} (h : BckAt w wr ls bs os ns ts) : BckAt w wr.drew ls bs os ns ts := ⟨h.last, h.by_, h.old, h.now, h.told, new_drew h.low⟩
theorem BckAt.draw {w wr : World} {ls bs os ns ts : List Value} (h : BckAt w wr ls bs os ns ts) (n : Nat) : BckAt w (wr.drewN n) ls bs os ns ts := ⟨h.last, h.by_, h.old, h.now, h.told, new_draw h.low n⟩
theorem bck_start (w : World) (l0 l1 l2 y0 y1 y2 : Int) : BckAt w (((((w.alloc (.cells #[.int .i32 l0, .int .i32 l1, .int .i32 l2] 28)).alloc (.cells #[.int .u32 y0, .int .u32 y1, .int .u32 y2] 30)).alloc (.cells #[.int .i64 0, .int .i64 0, .int .i64 0] 22)).alloc (.cells #[.int .i64 0, .int .i64 0, .int .i64 0] 22)).alloc (.cells #[.int .i64 0, .int .i64 0, .int .i64 0] 22))
    [.int .i32 l0, .int .i32 l1, .int .i32 l2] [.int .u32 y0, .int .u32 y1, .int .u32 y2] [.int .i64 0, .int .i64 0, .int .i64 0] [.int .i64 0, .int .i64 0, .int .i64 0] [.int .i64 0, .int .i64 0, .int .i64 0] :=
  ⟨((((Blk.new w [.int .i32 l0, .int .i32 l1, .int .i32 l2] _).alloc _).alloc _).alloc _).alloc _, (((Blk.newAt (alloc_size w _) [.int .u32 y0, .int .u32 y1, .int .u32 y2] _).alloc _).alloc _).alloc _,
   ((Blk.newAt (by rw [alloc_size, alloc_size]) [.int .i64 0, .int .i64 0, .int .i64 0] _).alloc _).alloc _, (Blk.newAt (by rw [alloc_size, alloc_size, alloc_size]) [.int .i64 0, .int .i64 0, .int .i64 0] _).alloc _, Blk.newAt (by rw [alloc_size, alloc_size, alloc_size, alloc_size]) [.int .i64 0, .int .i64 0, .int .i64 0] _,
   new_alloc (new_alloc (new_alloc (new_alloc (new_alloc (new_refl w) _) _) _) _) _⟩
def BckI (w : World) (l0 l1 l2 y0 y1 y2 n0 n1 n2 t0 t1 t2 : Int) (e0 e1 e2 : Bool) (gh : Nat) (vm vi : Value) (wr : World) : Prop :=
  ∃ k : Nat, vi = .int .i64 (k : Int) ∧ vm = .bool (!frP e0 e1 e2 k) ∧ 3 - k = gh ∧ k ≤ 3 ∧ BckAt w wr [.int .i32 l0, .int .i32 l1, .int .i32 l2] [.int .u32 y0, .int .u32 y1, .int .u32 y2] (nsF 0 0 0 l0 l1 l2 k) (nsF 0 0 0 n0 n1 n2 k) (nsF 0 0 0 t0 t1 t2 k)
theorem two_keptF {W w1 : World} {p q : Addr} {a b : Value} (hb : Below W.heap.size W w1) (k : W.cell? p = some a ∧ W.cell? q = some b) : w1.cell? p = some a ∧ w1.cell? q = some b := two_kept hb k
theorem cellF_two {w : World} {g g' h i j i' : Nat} {u v v' : Value} (hn : g ≠ h) (hn' : g' ≠ h) (k : w.cell? ⟨g, i, none⟩ = some v ∧ w.cell? ⟨g', i', none⟩ = some v') : (w.setCell ⟨h, j, none⟩ u).cell? ⟨g, i, none⟩ = some v ∧ (w.setCell ⟨h, j, none⟩ u).cell? ⟨g', i', none⟩ = some v' := ⟨cellF_far hn k.1, cellF_far hn' k.2⟩
theorem twelve_keptF {W w1 : World} {p0 p1 p2 p3 p4 p5 p6 p7 p8 p9 p10 p11 : Addr} {v0 v1 v2 v3 v4 v5 v6 v7 v8 v9 v10 v11 : Value} (hb : Below W.heap.size W w1) (k : W.cell? p0 = some v0 ∧ W.cell? p1 = some v1 ∧ W.cell? p2 = some v2 ∧ W.cell? p3 = some v3 ∧ W.cell? p4 = some v4 ∧ W.cell? p5 = some v5 ∧ W.cell? p6 = some v6 ∧ W.cell? p7 = some v7 ∧ W.cell? p8 = some v8 ∧ W.cell? p9 = some v9 ∧ W.cell? p10 = some v10 ∧ W.cell? p11 = some v11) :
    w1.cell? p0 = some v0 ∧ w1.cell? p1 = some v1 ∧ w1.cell? p2 = some v2 ∧ w1.cell? p3 = some v3 ∧ w1.cell? p4 = some v4 ∧ w1.cell? p5 = some v5 ∧ w1.cell? p6 = some v6 ∧ w1.cell? p7 = some v7 ∧ w1.cell? p8 = some v8 ∧ w1.cell? p9 = some v9 ∧ w1.cell? p10 = some v10 ∧ w1.cell? p11 = some v11 :=
  ⟨cell_kept hb k.1, cell_kept hb k.2.1, cell_kept hb k.2.2.1, cell_kept hb k.2.2.2.1, cell_kept hb k.2.2.2.2.1, cell_kept hb k.2.2.2.2.2.1, cell_kept hb k.2.2.2.2.2.2.1, cell_kept hb k.2.2.2.2.2.2.2.1, cell_kept hb k.2.2.2.2.2.2.2.2.1, cell_kept hb k.2.2.2.2.2.2.2.2.2.1, cell_kept hb k.2.2.2.2.2.2.2.2.2.2.1, cell_kept hb k.2.2.2.2.2.2.2.2.2.2.2⟩
end Go.Proofs.Ytdkkeplegbmjgaa
