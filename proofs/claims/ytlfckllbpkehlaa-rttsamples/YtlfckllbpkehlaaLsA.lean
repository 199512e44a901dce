/- Bytes that are read, one by one, and the number of some of them (was in FlgD and FlgE). -/
import Derived.Test.YtlfckllbpkehlaaRowM
namespace Go.Proofs.Ytlfckllbpkehlaa
open Go.RowKit
set_option linter.unusedVariables false

/-- The byte at a place. -/
def bF (zs : List Int) (i : Nat) : Int := zs[i]?.getD 0
theorem bF_bd {zs : List Int} (h : bytS zs) {i L : Nat} (hL : zs.length = L) (hi : i < L) : 0 ≤ bF zs i ∧ bF zs i ≤ 255 := byt_at h (by omega)
theorem LsK.draw {k : IntKind} {w : World} {g : Nat} {A : Option Addr} {zs : List Int} (h : LsK k w g A zs) (n : Nat) : LsK k (w.drewN n) g A zs := h
theorem LsK.at {k : IntKind} {w : World} {g off : Nat} {zs : List Int} (h : LsK k w g (some ⟨g, off, none⟩) zs) {i L : Nat} (hL : zs.length = L) (hi : i < L) : w.cell? ⟨g, off + i, none⟩ = some (.int k (bF zs i)) := by
  rcases h with rfl | ⟨off', e, h⟩
  · simp at hL; omega
  · cases e; exact h i (by omega)
/-- The number of bytes. -/
def numF (zs : List Int) : Int := zs.foldl (fun n x => n * 256 + x) 0
theorem num_snoc (xs : List Int) (x : Int) : numF (xs ++ [x]) = numF xs * 256 + x := by simp [numF]
theorem num_take {xs : List Int} {k : Nat} (h : k < xs.length) : numF (xs.take (k + 1)) = numF (xs.take k) * 256 + xs[k]?.getD 0 := by rw [take_snoc7 h, num_snoc]
theorem numF_bd {xs : List Int} (hb : bytS xs) : ∀ k, k ≤ 3 → k ≤ xs.length → 0 ≤ numF (xs.take k) ∧ numF (xs.take k) ≤ 16777215 := by
  have z : numF (xs.take 0) = 0 := by simp [numF]
  have s : ∀ k, k < xs.length → numF (xs.take (k + 1)) = numF (xs.take k) * 256 + xs[k]?.getD 0 ∧ 0 ≤ xs[k]?.getD 0 ∧ xs[k]?.getD 0 ≤ 255 := fun k hk => ⟨num_take hk, byt_at hb hk⟩
  intro k hk hl
  match k, hk with
  | 0, _ => omega
  | 1, _ => have := s 0 (by omega); simp only [Nat.zero_add] at this; omega
  | 2, _ => have := s 0 (by omega); have := s 1 (by omega); simp only [Nat.zero_add, Nat.reduceAdd] at *; omega
  | 3, _ => have := s 0 (by omega); have := s 1 (by omega); have := s 2 (by omega); simp only [Nat.zero_add, Nat.reduceAdd] at *; omega
theorem part_ls {k : IntKind} {w : World} {g off : Nat} {zs : List Int} (h : LsK k w g (some ⟨g, off, none⟩) zs) (lo n : Nat) : LsK k w g (some ⟨g, off + lo, none⟩) ((zs.drop lo).take n) := ls_take (ls_drop h lo) n
theorem part_at {zs : List Int} {lo n i : Nat} (hi : i < n) : ((zs.drop lo).take n)[i]?.getD 0 = bF zs (lo + i) := by rw [List.getElem?_take, if_pos hi, List.getElem?_drop]; rfl
theorem part_len {zs : List Int} {lo n : Nat} (h : lo + n ≤ zs.length) : ((zs.drop lo).take n).length = n := by rw [List.length_take, List.length_drop]; omega
end Go.Proofs.Ytlfckllbpkehlaa
