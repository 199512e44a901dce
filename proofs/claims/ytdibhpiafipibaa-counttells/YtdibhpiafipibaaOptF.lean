/- Package option: may an option be (within). The document's fine. -/
import Derived.Test.YtdibhpiafipibaaOptE
namespace Go.Proofs.Ytdibhpiafipibaa
open Go.RowKit
set_option linter.unusedVariables false

theorem fine_low {o : Opt} (h : o.k < 2) : fineO o = false := by simp [fineO]; omega
theorem fine_high {o : Opt} (h : 255 < o.k) : fineO o = false := by simp [fineO]; omega
theorem fine_other {o : Opt} (h : ¬ o.k < 2) (h' : ¬ 255 < o.k) (hs : szO o.k = 0) : fineO o = decide ((o.zs.length : Int) = 0) := by
  have e : o.zs.length = 0 ↔ (o.zs.length : Int) = 0 := by omega
  rw [fineO, if_pos hs, decide_eq_true (by omega), decide_eq_true (by omega), Bool.true_and, Bool.true_and, decide_eq_decide]
  exact e
theorem gr_all (W : Nat) (zs : List Int) : zs.all (fun z => decide (z < 256 ^ W)) = !(zs.any (grO W)) := by
  induction zs with
  | nil => rfl
  | cons z zs ih => rw [List.all_cons, List.any_cons, ih, grO]; cases decide (z < 256 ^ W) <;> simp
theorem fine_known {o : Opt} (h : ¬ o.k < 2) (h' : ¬ 255 < o.k) {W : Nat} (hW : szO o.k = W) (hs : W = 2 ∨ W = 3 ∨ W = 4) : fineO o = (mayO o.k o.zs.length && !(o.zs.any (grO W)) && decide (o.s.size = 0)) := by
  rw [fineO, hW, if_neg (by omega), decide_eq_true (by omega), decide_eq_true (by omega), Bool.true_and, Bool.true_and, gr_all]
theorem sz_known {k : Int} {W : Nat} (h : szO k = W) (h0 : W ≠ 0) : W = 2 ∨ W = 3 ∨ W = 4 := by
  unfold szO at h
  split at h
  · omega
  · split at h
    · omega
    · split at h
      · omega
      · split at h <;> omega
theorem str_none {s : ByteArray} (h : s.size = 0) : s = ByteArray.empty := by
  obtain ⟨⟨l⟩⟩ := s
  have : l = [] := List.eq_nil_of_length_eq_zero (by simpa [ByteArray.size] using h)
  subst this; rfl
theorem str_some {s : ByteArray} (h : ¬ s.size = 0) : s.toList.isEmpty = false := by
  rw [ByteArray.toList_eq]
  obtain ⟨⟨l⟩⟩ := s
  cases l with
  | nil => exact absurd rfl h
  | cons a l => rfl

def MostI (W : World) (m gh : Nat) (vm vi : Value) (wr : World) : Prop := ∃ i : Nat, vi = .int .i64 (i : Int) ∧ m - i = gh ∧ i ≤ m ∧ vm = .int .u64 (256 ^ i) ∧ W = wr
theorem pow_few {i : Nat} (h : i ≤ 4) : (0 : Int) < 256 ^ i ∧ (256 : Int) ^ i ≤ 4294967296 := by
  match i, h with
  | 0, _ => decide
  | 1, _ => decide
  | 2, _ => decide
  | 3, _ => decide
  | 4, _ => decide
end Go.Proofs.Ytdibhpiafipibaa
