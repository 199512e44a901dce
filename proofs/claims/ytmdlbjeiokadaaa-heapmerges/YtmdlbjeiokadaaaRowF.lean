/- Slices of anything of several cells: what 'clear' leaves. -/
import Derived.Test.YtmdlbjeiokadaaaRowE
namespace Go.Proofs.Ytmdlbjeiokadaaa
open Go.RowKit
set_option linter.unusedVariables false

section
variable {α : Type} {enc : α → List Value} {k : Nat} {t e : TypeId} {z : Value} {bytes : Nat}
theorem zero_len (cs : Array Value) (n : Nat) : (Builtin.zeroCells cs n).toList.length = n * cs.size := by
  simp [Builtin.zeroCells]
theorem zero_one {cs : Array Value} (h : ∀ v ∈ cs.toList, v.oneCell' = true) (n : Nat) : ∀ v ∈ (Builtin.zeroCells cs n).toList, v.oneCell' = true := by
  intro v hv
  simp [Builtin.zeroCells] at hv
  obtain ⟨a, ha, rfl⟩ := hv
  have hp : 0 < cs.size := by
    rcases Nat.eq_zero_or_pos cs.size with q | q
    · rw [q] at ha; simp at ha
    · exact q
  have hlt := Nat.mod_lt a hp
  rw [getElem!_pos cs _ hlt]
  exact h _ (by simp)
/-- 'clear(s[i:])' of a row of its own. -/
theorem run_clearE (E : IsEnc enc k) (S : IsStr t e z k bytes) (h1 : ∀ v ∈ z.cells.toList, v.oneCell' = true) {W : World} {base g n cap : Nat} {zs : List α} (h : OwnE enc k e W base (.slice (some ⟨g, 0, none⟩) n cap) zs) {i : Nat} (hi : i < zs.length) (ty : TypeId) (c : Nat) :
    (Builtin.clear_ #[t] ty #[.slice (some ⟨g, i * k, none⟩) (zs.length - i) c]).run Try.prog W = .ok (.tuple #[]) (W.setCells g (i * k) (Builtin.zeroCells z.cells (zs.length - i)).toList) := by
  obtain ⟨i0, hi0, hz0, hz1, hz2⟩ := info_parts S.info
  obtain ⟨_, h2, _, _, rest, hb, hl⟩ := h.blk E
  have hzl := zero_len z.cells (zs.length - i)
  rw [S.cells] at hzl
  have hmul : i * k + (zs.length - i) * k = zs.length * k := by rw [← Nat.add_mul]; congr 1; omega
  have hst := run_storeCells_cells (P := Try.prog) g (i * k) (Builtin.zeroCells z.cells (zs.length - i)).toList 0 W ?_ (fun j _ => h.frozen E _) (zero_one h1 _)
  · have hv : (zeroValue e).run Try.prog W = .ok z W := by simp [zeroValue, typeInfo, hi0, hz0]
    rw [Nat.add_zero] at hst
    obtain ⟨m, hm⟩ : ∃ m, zs.length - i = m + 1 := ⟨zs.length - i - 1, by omega⟩
    rw [hm] at hst ⊢
    simp [Builtin.clear_, run_underlying S.und, hv, hst]
  · intro j hj
    rw [hzl] at hj
    have hlt : i * k + 0 + j < (flat enc zs ++ rest).length := by rw [List.length_append, flat_len E]; omega
    rw [hb.cell _ (List.getElem?_eq_getElem hlt)]
    rfl
theorem OwnE.cleared (E : IsEnc enc k) (S : IsStr t e z k bytes) {W : World} {base g n cap : Nat} {zs : List α} (h : OwnE enc k e W base (.slice (some ⟨g, 0, none⟩) n cap) zs) {i : Nat} (hi : i < zs.length) :
    OwnE enc k e (W.setCells g (i * k) (Builtin.zeroCells z.cells (zs.length - i)).toList) base (.slice (some ⟨g, 0, none⟩) i cap) (zs.take i) := by
  obtain ⟨h1, h2, h3, h4, rest, hb, hl⟩ := h.blk E
  have hzl := zero_len z.cells (zs.length - i)
  rw [S.cells] at hzl
  have hb' := Blk.setCells (Builtin.zeroCells z.cells (zs.length - i)).toList (i * k) hb
  have e0 : flat enc zs ++ rest = flat enc (zs.take i) ++ (flat enc (zs.drop i) ++ rest) := by rw [← List.append_assoc, ← flat_append, List.take_append_drop]
  have hli : (flat enc (zs.take i)).length = i * k := by rw [flat_len E, List.length_take, Nat.min_eq_left (by omega)]
  have hm := putL_mid (Builtin.zeroCells z.cells (zs.length - i)).toList (flat enc (zs.drop i)) (flat enc (zs.take i)) rest (by rw [hzl, flat_len E, List.length_drop])
  rw [hli] at hm
  rw [e0, hm] at hb'
  refine OwnE.of E (by rw [List.length_take]; omega) (by omega) h3 h4 hb' ?_
  rw [← hm, putL_len, ← e0]
  exact hl
end
end Go.Proofs.Ytmdlbjeiokadaaa
