/- Slices of int that a call made itself. -/
import Derived.Test.YtmmccaaocfbdlaaBase
import Derived.Test.YtmmccaaocfbdlaaBitL
import Derived.OwnWalk
import Derived.Deep.AppendLies
import Derived.Deep.LoopGhost
import Derived.Laws.OwnMore
import Derived.Deep.Onto
namespace Go.Proofs.Ytmmccaaocfbdlaa
open Go.RowKit
set_option linter.unusedVariables false

theorem info_int : (Try.prog.info? 3).map (fun i => (i.zero, i.size, i.bytes)) = some (some (.int .i64 0), 1, 8) := by kernel_rfl

/-- The slice v holds the numbers zs, in a row of its own among the blocks from 'base' on. -/
def Own (w : World) (base : Nat) (v : Value) (zs : List Int) : Prop := w.ownsRow base 3 1 v zs.length (zs.map (Value.int .i64))

theorem Own.nil (w : World) (base : Nat) : Own w base (.slice none 0 0) [] := World.ownsRow_nil _ _ _ _
theorem Own.mono {w : World} {base base' : Nat} {v : Value} {zs : List Int} (h : Own w base v zs) (hb : base' ≤ base) : Own w base' v zs := World.ownsRow.mono h hb
theorem Own.alloc {w : World} {base : Nat} {v : Value} {zs : List Int} (h : Own w base v zs) (o : Obj) : Own (w.alloc o) base v zs := World.ownsRow.alloc h o
theorem Own.draw {w : World} {base : Nat} {v : Value} {zs : List Int} (h : Own w base v zs) (n : Nat) : Own (w.drewN n) base v zs := h
theorem Own.kept {w w' : World} {base : Nat} {v : Value} {zs : List Int} (h : Own w base v zs) (hb : Below w.heap.size w w') : Own w' base v zs := by
  refine ⟨h.1, ?_⟩
  rcases h.2 with h' | ⟨g, cap, cur, h1, h2, h3, h4⟩
  · exact .inl h'
  · have hg : g < w.heap.size := by
      rcases Nat.lt_or_ge g w.heap.size with hlt | hge
      · exact hlt
      · rw [Array.getElem?_eq_none hge] at h3; cases h3
    exact .inr ⟨g, cap, cur, h1, h2, (hb.block g hg).trans h3, h4⟩
/-- What can be read of it. -/
theorem Own.at_ {w : World} {base g n cap : Nat} {zs : List Int} (h : Own w base (.slice (some ⟨g, 0, none⟩) n cap) zs) : n = zs.length ∧ n ≤ cap ∧ cap ≤ maxLen ∧ At w g (zs.map (Value.int .i64)) := by
  rcases h.2 with ⟨h', _⟩ | ⟨g', cap', cur, h1, h2, h3, h4, h5, h6, h7⟩
  · cases h'
  · simp only [Value.slice.injEq, Option.some.injEq, Addr.mk.injEq, and_true] at h1
    obtain ⟨rfl, rfl, rfl⟩ := h1
    refine ⟨rfl, h4, h5, ?_, fun i v hv => ?_⟩
    · rcases Nat.lt_or_ge g w.heap.size with hlt | hge
      · exact hlt
      · rw [Array.getElem?_eq_none hge] at h3; cases h3
    · rw [cell_of_row w g i cur _ (0, 0) h3]
      rw [← h7, Nat.mul_one] at hv
      rw [List.getElem?_take] at hv
      split at hv
      · simpa using hv
      · cases hv

/-- A slice that is only read: its numbers lie at the head of block g. -/
def Rd (w : World) (g n c : Nat) (zs : List Int) : Prop := n = zs.length ∧ n ≤ c ∧ c ≤ maxLen ∧ At w g (zs.map (Value.int .i64))
theorem Own.rd {w : World} {base g n cap : Nat} {zs : List Int} (h : Own w base (.slice (some ⟨g, 0, none⟩) n cap) zs) : Rd w g n cap zs := h.at_
theorem Rd.kept {w w' : World} {g n c : Nat} {zs : List Int} (h : Rd w g n c zs) (hb : Below w.heap.size w w') : Rd w' g n c zs := ⟨h.1, h.2.1, h.2.2.1, h.2.2.2.kept hb⟩
theorem Rd.alloc {w : World} {g n c : Nat} {zs : List Int} (h : Rd w g n c zs) (o : Obj) : Rd (w.alloc o) g n c zs := ⟨h.1, h.2.1, h.2.2.1, h.2.2.2.alloc o⟩
theorem Rd.draw {w : World} {g n c : Nat} {zs : List Int} (h : Rd w g n c zs) (k : Nat) : Rd (w.drewN k) g n c zs := h
theorem Rd.cell {w : World} {g n c : Nat} {zs : List Int} (h : Rd w g n c zs) {i : Nat} (hi : i < n) : w.cell? ⟨g, i, none⟩ = some (.int .i64 (zs[i]?.getD 0)) := by
  have hl : i < zs.length := by have := h.1; omega
  exact h.2.2.2.cell i (by simp [List.getElem?_map, List.getElem?_eq_getElem hl])

/-- 'append(out, z)': z lies in a block of its own first. -/
theorem wp_push {ops : Array Oper} {rest : List Oper} {o : Oper} {a : Act} {Q : Exit → Act → World → Prop} {w : World} {T : TypeId} (hgd : o.guard = none) (s x : Operand)
    (ho : o.op = .call { callee := .builtin .append, args := #[s, x], argTypes := #[46, 46] })
    (base : Nat) (v : Value) (zs : List Int) (z : Int) (hs : a.eval s = v) (hx : a.eval x = .slice (some ⟨w.heap.size, 0, none⟩) 1 1) (hown : Own w base v zs) (n1 : Nat) (hn1 : zs.length + 1 = n1) (hlen : n1 ≤ 1000000000) (hbase : base ≤ w.heap.size)
    (h : ∀ g cap w', Own w' base (.slice (some ⟨g, 0, none⟩) n1 cap) (zs ++ [z]) → Below base w w' → wpList Try.prog ops Q rest (a.put o.dst (.slice (some ⟨g, 0, none⟩) n1 cap)) w') :
    wpList Try.prog ops Q (o :: rest) a (w.alloc (.cells #[.int .i64 z] T)) := by
  obtain ⟨i0, hi, hz0, hz1, hz2⟩ := info_parts info_int
  refine wpList_append_lies _ hgd s x 46 ho base 3 i0 (.int .i64 0) 1 8 Try.underlying46 hi hz0 hz1 hz2 rfl (by decide) v zs.length (zs.map (Value.int .i64)) hs (World.ownsRow.alloc hown _) ⟨w.heap.size, 0, none⟩ 1 1 [.int .i64 z] hx rfl ?_ ?_ (by decide) ?_ ?_ ?_ (w.heap.size + 1) (by simp) ?_
  · intro j u hj
    match j, hj with
    | 0, hj => simp at hj; subst hj; exact (At.new w [.int .i64 z] T).cell 0 rfl
  · intro u hu; simp at hu; subst hu; rfl
  · unfold maxLen; omega
  · omega
  · simp; omega
  · intro g cap w' h1 h2 h3 h4
    rw [hn1] at h1 ⊢
    refine h g cap w' ?_ ?_
    · unfold Own; rw [List.map_append, List.length_append, show zs.length + [z].length = n1 from hn1]; exact h1
    · have b0 : Below base w (w.alloc (.cells #[.int .i64 z] T)) := (Below.refl _ _).alloc hbase _
      exact b0.grown h2 (by simp; omega) (fun k hk => (hown.lt k hk).1)

/-- Some bits as a result: so many, and the number that they stand for. -/
def GivesBits (w : World) (n : Nat) (x : Int) (e : Ending) (w' : World) : Prop :=
  ∃ g c zs, e = .returned (.slice (some ⟨g, 0, none⟩) n c) ∧ Own w' w.heap.size (.slice (some ⟨g, 0, none⟩) n c) zs ∧ IsBits zs ∧ val zs = x ∧ Below w.heap.size w w'
end Go.Proofs.Ytmmccaaocfbdlaa
