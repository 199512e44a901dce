/- Bytes as a text, a text's bytes; a list of bytes of its own. -/
import Derived.Test.YtelohhjmhgiboaaCodC
import Derived.Lib.AppendStr
import Derived.Laws.BytesArg
namespace Go.Proofs.Ytelohhjmhgiboaa
open Go.RowKit
set_option linter.unusedVariables false

/-- A text's bytes. -/
def sb (s : ByteArray) : List Int := s.data.toList.map fun b => (b.toNat : Int)
theorem sb_len (s : ByteArray) : (sb s).length = s.size := by rw [sb, List.length_map, Array.length_toList]; rfl
theorem sb_byte (s : ByteArray) : ∀ c ∈ sb s, 0 ≤ c ∧ c ≤ 255 := by
  intro c hc
  simp only [sb, List.mem_map] at hc
  obtain ⟨b, _, rfl⟩ := hc
  have := b.toNat_lt
  omega
theorem sb_back (s : ByteArray) : strOfNums (sb s) = s := by
  obtain ⟨⟨l⟩⟩ := s
  have e : ((fun n : Int => UInt8.ofNat n.toNat) ∘ fun b : UInt8 => (b.toNat : Int)) = id := by funext b; simp
  simp [strOfNums, sb, e]
theorem strCells_sb (s : ByteArray) : Lib.strCells s = (sb s).map (Value.int .u8) := by simp [Lib.strCells, sb]

/-- 'append(out, s...)', s a text. -/
theorem wp_strB {ops : Array Oper} {rest : List Oper} {o : Oper} {a : Act} {Q : Exit → Act → World → Prop} {W : World} (hgd : o.guard = none) (sl x : Operand)
    (ho : o.op = .call { callee := .builtin .append, args := #[sl, x], argTypes := #[22, 9] })
    (base : Nat) (v : Value) (zs : List Int) (s : ByteArray) (hs : a.eval sl = v) (hx : a.eval x = .string s) (hown : OwnB W base v zs) (hlen : zs.length + s.size ≤ 1000000000) (hbase : base ≤ W.heap.size)
    (h : ∀ v' w', OwnB w' base v' (zs ++ sb s) → W.grownBy w' v.ownBlock → wpList Try.prog ops Q rest (a.put o.dst v') w') : wpList Try.prog ops Q (o :: rest) a W := by
  obtain ⟨i0, hi, hz0, hz1, hz2⟩ := info_parts elB.info
  refine Lib.wpList_append_own_string _ hgd sl x _ _ ho base 5 i0 elB.und (by kernel_rfl) hi hz0 hz1 hz2 v zs.length (zs.map (Value.int .u8)) hs hown s hx (by unfold maxLen; omega) (by omega) hbase ?_
  intro v' w' h1 h2 _
  refine h v' w' ?_ h2
  unfold OwnB OwnK
  rw [List.map_append, List.length_append, sb_len, ← strCells_sb]
  exact h1
/-- Bytes as a text. -/
theorem text_own {w : World} {base g n c : Nat} {zs : List Int} (h : OwnB w base (.slice (some ⟨g, 0, none⟩) n c) zs) : (convert 22 9 (.slice (some ⟨g, 0, none⟩) n c)).run Try.prog w = .ok (.string (strOfNums zs)) w := by
  obtain ⟨hn, _, _, _, cur, _, _, _⟩ := h.blk
  refine run_convert_bytes_arg w _ _ elB.und (by kernel_rfl) g 0 n c zs hn.symm (fun i hi => ?_) _ (by kernel_rfl)
  rw [Nat.zero_add, List.getD_eq_getElem?_getD]
  exact h.cell (by omega)

/-- A list of its own, which is not empty. -/
def BytesOf (w : World) (zs : List Int) (n : Nat) (e : Ending) (w' : World) : Prop :=
  ∃ g c, e = .returned (.slice (some ⟨g, 0, none⟩) n c) ∧ OwnB w' w.heap.size (.slice (some ⟨g, 0, none⟩) n c) zs ∧ Below w.heap.size w w'
theorem ListOf.bytes {w w' : World} {zs : List Int} {n : Nat} {e : Ending} (h : ListOf w zs e w') (hn : zs.length = n) (h0 : 0 < n) : BytesOf w zs n e w' := by
  obtain ⟨v, rfl, O, B⟩ := h
  obtain ⟨g, c, rfl, _, _⟩ := O.some hn h0
  exact ⟨g, c, rfl, O, B⟩
end Go.Proofs.Ytelohhjmhgiboaa
