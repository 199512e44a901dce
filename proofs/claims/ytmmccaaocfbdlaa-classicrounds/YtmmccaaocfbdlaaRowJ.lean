/- Slices of int that a call made itself: one behind another, made at a length, stored into. -/
import Derived.Test.YtmmccaaocfbdlaaRowI
import Derived.Deep.OwnRows
namespace Go.Proofs.Ytmmccaaocfbdlaa
open Go.RowKit
set_option linter.unusedVariables false

/-- 'append(out, more...)', something in 'more'. -/
theorem wp_concat {ops : Array Oper} {rest : List Oper} {o : Oper} {a : Act} {Q : Exit → Act → World → Prop} {w : World} (hgd : o.guard = none) (s x : Operand)
    (ho : o.op = .call { callee := .builtin .append, args := #[s, x], argTypes := #[46, 46] })
    (base : Nat) (v : Value) (zs : List Int) (g1 m c1 : Nat) (ys : List Int) (hs : a.eval s = v) (hx : a.eval x = .slice (some ⟨g1, 0, none⟩) m c1) (hown : Own w base v zs) (hr : Rd w g1 m c1 ys) (hm : 0 < m)
    (n1 : Nat) (hn1 : zs.length + m = n1) (hlen : n1 ≤ 1000000000) (hbase : base ≤ w.heap.size)
    (h : ∀ g cap w', Own w' base (.slice (some ⟨g, 0, none⟩) n1 cap) (zs ++ ys) → Below base w w' → wpList Try.prog ops Q rest (a.put o.dst (.slice (some ⟨g, 0, none⟩) n1 cap)) w') :
    wpList Try.prog ops Q (o :: rest) a w := by
  obtain ⟨i0, hi, hz0, hz1, hz2⟩ := info_parts info_int
  refine wpList_append_lies _ hgd s x 46 ho base 3 i0 (.int .i64 0) 1 8 Try.underlying46 hi hz0 hz1 hz2 rfl (by decide) v zs.length (zs.map (Value.int .i64)) hs hown ⟨g1, 0, none⟩ m c1 (ys.map (Value.int .i64)) hx (by rw [List.length_map, Nat.mul_one]; exact hr.1.symm) ?_ ?_ hm ?_ ?_ hbase w.heap.size rfl ?_
  · intro j u hj
    have := hr.2.2.2.cell j hj
    unfold Addr.add
    split
    · simp_all
    · simpa using this
  · intro u hu
    simp at hu
    obtain ⟨z, _, rfl⟩ := hu
    rfl
  · unfold maxLen; omega
  · omega
  · intro g cap w' h1 h2 h3 h4
    rw [hn1] at h1 ⊢
    refine h g cap w' ?_ ?_
    · unfold Own; rw [List.map_append, List.length_append, ← hr.1, hn1]; exact h1
    · exact (Below.refl _ _).grown h2 hbase (fun k hk => (hown.lt k hk).1)

/-- 'make([]int, n)'. -/
theorem make_ints (n : Nat) (h : n ≤ 1000000) (w : World) :
    (Instr.makeSlice 46 (.int .i64 (n : Int)) (.int .i64 (n : Int))).run Try.prog w = .ok (.slice (some ⟨w.heap.size, 0, none⟩) n n) (w.alloc (.cells (madeCells #[.int .i64 0] n) 3)) :=
  run_make_row' 46 3 (.int .i64 0) 8 Try.underlying46 info_int rfl .i64 .i64 n (by omega) (by omega) w
theorem Own.made (w : World) (n : Nat) (h : n ≤ 1000000) : Own (w.alloc (.cells (madeCells #[.int .i64 0] n) 3)) w.heap.size (.slice (some ⟨w.heap.size, 0, none⟩) n n) (List.replicate n 0) := by
  have h1 := World.ownsRow_lit (base := w.heap.size) (size := 1) (e := 3) w (madeCells #[.int .i64 0] n) n (Nat.le_refl _) (by unfold maxLen; omega) (by rw [size_madeCells]; omega)
  rw [toList_madeCells_one] at h1
  unfold Own
  rw [List.length_replicate, List.map_replicate]
  exact h1
/-- '[]int{z}'. -/
theorem Own.one (w : World) (z : Int) : Own (w.alloc (.cells #[.int .i64 z] 3)) w.heap.size (.slice (some ⟨w.heap.size, 0, none⟩) 1 1) [z] :=
  World.ownsRow_lit (base := w.heap.size) (size := 1) (e := 3) w #[.int .i64 z] 1 (Nat.le_refl _) (by unfold maxLen; omega) rfl
theorem Own.one' {w : World} {g : Nat} (h : w.heap.size = g) (z : Int) : Own (w.alloc (.cells #[.int .i64 z] 3)) g (.slice (some ⟨g, 0, none⟩) 1 1) [z] := by subst h; exact Own.one w z
/-- 'x[j] = z'. -/
theorem Own.set {w : World} {base g n c : Nat} {zs : List Int} (h : Own w base (.slice (some ⟨g, 0, none⟩) n c) zs) (j : Nat) (z : Int) :
    Own (w.setCell ⟨g, j, none⟩ (.int .i64 z)) base (.slice (some ⟨g, 0, none⟩) n c) (zs.set j z) := by
  have e := h.at_.1
  have h' : w.ownsRow base 3 1 (.slice (some ⟨g, 0, none⟩) n c) n (zs.map (Value.int .i64)) := by rw [e]; unfold Own at h; rw [e] at h; exact h
  have := (World.ownsRow.stored h' j (.int .i64 z)).1
  unfold Own
  rw [List.length_set, List.map_set, ← e]
  exact this
theorem Own.frozen {w : World} {base g n c : Nat} {zs : List Int} (h : Own w base (.slice (some ⟨g, 0, none⟩) n c) zs) (j : Nat) : w.frozen? ⟨g, j, none⟩ = false := by
  have e := h.at_.1
  have h' : w.ownsRow base 3 1 (.slice (some ⟨g, 0, none⟩) n c) n (zs.map (Value.int .i64)) := by rw [e]; unfold Own at h; rw [e] at h; exact h
  exact World.ownsRow.frozenAt h' j
/-- A store into another block. -/
theorem Own.far {w : World} {base : Nat} {v : Value} {zs : List Int} (h : Own w base v zs) {p : Addr} (hp : p.block < base) (u : Value) : Own (w.setCell p u) base v zs := by
  refine ⟨h.1, ?_⟩
  rcases h.2 with h' | ⟨g, cap, cur, h1, h2, h3, h4⟩
  · exact .inl h'
  · exact .inr ⟨g, cap, cur, h1, h2, (Below.heap_setCell w p u g (by omega)).trans h3, h4⟩
/-- Kept below a number that is above its block. -/
theorem Own.keptB {w w' : World} {base B g n c : Nat} {zs : List Int} (h : Own w base (.slice (some ⟨g, 0, none⟩) n c) zs) (hb : Below B w w') (hg : g < B) : Own w' base (.slice (some ⟨g, 0, none⟩) n c) zs := by
  refine ⟨h.1, ?_⟩
  rcases h.2 with h' | ⟨g', cap, cur, h1, h2, h3, h4⟩
  · exact .inl h'
  · have : g' = g := by simp only [Value.slice.injEq, Option.some.injEq, Addr.mk.injEq, and_true] at h1; exact h1.1.symm
    subst this
    exact .inr ⟨g', cap, cur, h1, h2, (hb.block g' hg).trans h3, h4⟩
theorem Own.lt {w : World} {base g n c : Nat} {zs : List Int} (h : Own w base (.slice (some ⟨g, 0, none⟩) n c) zs) : base ≤ g ∧ g < w.heap.size := World.ownsRow.lt h g rfl
end Go.Proofs.Ytmmccaaocfbdlaa
