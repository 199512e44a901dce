/- Plain facts of layer 26: by which share a window grows, what is blended, and the document's order of growing. -/
import Derived.Test.YtgbcgnlibnkjpaaRenM
namespace Go.Proofs.Ytgbcgnlibnkjpaa
open Go.ChangeShapes Go.WideShapes Go.ChangeAt Go.RowKit

/-- By which share a window grows whose round trip is r, beside t. -/
def prS (r t : Int) : Int := if t ≤ r ∨ t ≤ 0 then 1048576 else prs (rto r t) (rto r t)
/-- Half of a share. -/
def prLo (s : Int) : Int := shr s / 2
/-- What is blended. -/
def prB (s x : Int) : Int := prLo s + prs (524288 - prLo s) (shr x)
theorem prLo_bd (s : Int) : 0 ≤ prLo s ∧ prLo s ≤ 524288 := by have := shr_bd s; unfold prLo; omega
theorem hlv_oneQ (x : Int) : hlv x (upto 1 63) = x / 2 := by
  have e : upto 1 63 = 1 := by decide
  rw [e]
  unfold hlv
  rw [show P2 1 = 2 from by decide]
theorem rto_bdQ (a b : Int) : 0 ≤ rto a b ∧ rto a b ≤ 1048576 := by
  by_cases h1 : a ≤ 0
  · rw [rto_low a b h1]; decide
  · by_cases h2 : b ≤ 0
    · rw [rto_by0 a b (by omega) h2]; decide
    · rw [← rto_shr a b (by omega) (by omega)]; exact shr_bd _
theorem rto_one {a b : Int} (ha : 0 < a) (h : b ≤ a) : rto a b = 1048576 := by unfold rto; rw [if_neg (by omega), if_pos (.inr h)]
theorem rto_part {a b : Int} (ha : 0 < a) (h : a < b) : rto a b = a * 1048576 / b := by unfold rto; rw [if_neg (by omega), if_neg (by omega)]
theorem rto_up {a b c : Int} (h : a ≤ b) (hc : 0 < c) : rto a c ≤ rto b c := by
  by_cases h1 : a ≤ 0
  · rw [rto_low a c h1]; exact (rto_bdQ b c).1
  · by_cases h2 : c ≤ b
    · rw [rto_one (by omega) h2]; exact (rto_bdQ a c).2
    · rw [rto_part (by omega) (by omega), rto_part (by omega) (by omega)]
      exact Int.ediv_le_ediv hc (by omega)
theorem rto_down {a c d : Int} (h : c ≤ d) (hc : 0 < c) : rto a d ≤ rto a c := by
  by_cases h1 : a ≤ 0
  · rw [rto_low a d h1, rto_low a c h1]; exact Int.le_refl _
  · by_cases h2 : c ≤ a
    · rw [rto_one (by omega) h2]; exact (rto_bdQ a d).2
    · rw [rto_part (by omega) (by omega), rto_part (by omega) (by omega)]
      refine (Int.le_ediv_iff_mul_le hc).2 ?_
      have h3 : 0 ≤ a * 1048576 / d := Int.ediv_nonneg (by omega) (by omega)
      have h4 := Int.mul_le_mul_of_nonneg_left h h3
      have h5 := Int.ediv_mul_le (a * 1048576) (show d ≠ 0 by omega)
      omega
theorem prs_sq {a b : Int} (h0 : 0 ≤ a) (h : a ≤ b) : prs a a ≤ prs b b := Int.ediv_le_ediv (by decide) (sq_le h0 h)
theorem prS_bd (r t : Int) : 0 ≤ prS r t ∧ prS r t ≤ 1048576 := by
  unfold prS
  split
  · decide
  · have h := rto_bdQ r t
    have h2 := (prs_ends (rto r t) (rto r t) h).1 h.1
    omega
theorem prS_one {r t : Int} (h : t ≤ r ∨ t ≤ 0) : prS r t = 1048576 := by unfold prS; rw [if_pos h]
theorem prS_sq {r t : Int} (h1 : ¬ t ≤ r) (h2 : ¬ t ≤ 0) : prS r t = prs (rto r t) (rto r t) := by unfold prS; rw [if_neg (by omega)]
theorem prS_up {a b c : Int} (h : a ≤ b) (hc : 0 < c) : prS a c ≤ prS b c := by
  by_cases h1 : c ≤ b
  · rw [prS_one (.inl h1)]; exact (prS_bd a c).2
  · rw [prS_sq (by omega) (by omega), prS_sq h1 (by omega)]
    exact prs_sq (rto_bdQ a c).1 (rto_up h hc)
theorem prS_down {a c d : Int} (h : c ≤ d) (hc : 0 < c) : prS a d ≤ prS a c := by
  by_cases h1 : c ≤ a
  · rw [prS_one (.inl h1)]; exact (prS_bd a d).2
  · rw [prS_sq (by omega) (by omega), prS_sq h1 (by omega)]
    exact prs_sq (rto_bdQ a d).1 (rto_down h hc)
theorem prB_bd (s x : Int) : prLo s ≤ prB s x ∧ prB s x ≤ 524288 := by
  have h := prLo_bd s
  have h2 := (prs_ends (524288 - prLo s) (shr x) (shr_bd x)).1 (by omega)
  unfold prB
  omega
/-- The document's way of rising fast: three ways. -/
theorem rnFast_ways {d : Rn} {m a : Int} (ok : RnOk d m) (ha : 0 ≤ a ∧ a ≤ 16777216) :
    (d.c < d.t ∧ d.t - d.c < a ∧ rnFast d a = ⟨d.t, d.t, d.k⟩ ∧ a - rnF d a = a - (d.t - d.c)) ∨
    (d.c < d.t ∧ ¬ d.t - d.c < a ∧ rnFast d a = ⟨d.c + a, d.t, d.k⟩ ∧ a - rnF d a = 0) ∨
    (¬ d.c < d.t ∧ rnFast d a = d ∧ a - rnF d a = a) := by
  obtain ⟨c, t, k⟩ := d
  have hc := ok.c
  have ht := ok.t
  have hs := rnS_bd m
  unfold rnFast rnF rnR
  simp only at hc ht ⊢
  by_cases h : c < t
  · by_cases h2 : t - c < a
    · exact .inl ⟨h, h2, by rw [show c + min a (max (t - c) 0) = t by omega], by omega⟩
    · exact .inr (.inl ⟨h, h2, by rw [show c + min a (max (t - c) 0) = c + a by omega], by omega⟩)
  · exact .inr (.inr ⟨h, by rw [show c + min a (max (t - c) 0) = c by omega], by omega⟩)
end Go.Proofs.Ytgbcgnlibnkjpaa
