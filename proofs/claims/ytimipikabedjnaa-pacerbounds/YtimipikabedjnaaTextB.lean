/- Bytes as a text, a text's bytes; a list of bytes of its own. -/
import Derived.Test.YtimipikabedjnaaCodC
import Derived.Lib.AppendStr
import Derived.Laws.BytesArg
namespace Go.Proofs.Ytimipikabedjnaa
open Go.RowKit
set_option linter.unusedVariables false

/-- A text's bytes. -/
def sb (s : ByteArray) : List Int := s.data.toList.map fun b => (b.toNat : Int)
theorem sb_len (s : ByteArray) : (sb s).length = s.size := by rw [sb, List.length_map, Array.length_toList]; rfl
theorem sb_byte (s : ByteArray) : ∀ c ∈ sb s, 0 ≤ c ∧ c ≤ 255 := by
  intro c hc
  simp only [sb, List.mem_map] at hc
  obtain ⟨b, _, rfl⟩ := hc
  have := b.toNat_lt
  omega
theorem sb_back (s : ByteArray) : strOfNums (sb s) = s := by
  obtain ⟨⟨l⟩⟩ := s
  have e : ((fun n : Int => UInt8.ofNat n.toNat) ∘ fun b : UInt8 => (b.toNat : Int)) = id := by funext b; simp
  simp [strOfNums, sb, e]
theorem strCells_sb (s : ByteArray) : Lib.strCells s = (sb s).map (Value.int .u8) := by simp [Lib.strCells, sb]

/-- A list of its own, which is not empty. -/
def BytesOf (w : World) (zs : List Int) (n : Nat) (e : Ending) (w' : World) : Prop :=
  ∃ g c, e = .returned (.slice (some ⟨g, 0, none⟩) n c) ∧ OwnB w' w.heap.size (.slice (some ⟨g, 0, none⟩) n c) zs ∧ Below w.heap.size w w'
theorem ListOf.bytes {w w' : World} {zs : List Int} {n : Nat} {e : Ending} (h : ListOf w zs e w') (hn : zs.length = n) (h0 : 0 < n) : BytesOf w zs n e w' := by
  obtain ⟨v, rfl, O, B⟩ := h
  obtain ⟨g, c, rfl, _, _⟩ := O.some hn h0
  exact ⟨g, c, rfl, O, B⟩
end Go.Proofs.Ytimipikabedjnaa
