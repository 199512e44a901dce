/- Plain facts of layer 24: windows, how they grow and fall. -/
import Derived.Test.YtcgpjnddklhemaaPacM
import Derived.Test.YtcgpjnddklhemaaFixM
namespace Go.Proofs.Ytcgpjnddklhemaa
open Go.ChangeShapes Go.WideShapes Go.ChangeAt Go.RowKit

/-- A window: Cwnd, Thresh, Carry. -/
structure Rn where
  c : Int
  t : Int
  k : Int
  deriving DecidableEq
def rnS (m : Int) : Int := clampI m 1 65536
def rnC (w : Rn) (m : Int) : Int := clampI w.c (rnS m) 1073741824
def rnT (w : Rn) : Int := clampI w.t 0 1073741824
def rnK (w : Rn) : Int := clampI w.k 0 1125899906842623
def rnIn (w : Rn) (m : Int) : Rn := ⟨rnC w m, rnT w, rnK w⟩
def rnA (a : Int) : Int := clampI a 0 16777216
/-- By how much it lies below Thresh. -/
def rnR (w : Rn) : Int := max (w.t - w.c) 0
/-- By how much it rises fast, and what is left then. -/
def rnF (w : Rn) (a : Int) : Int := min a (rnR w)
/-- All that there is to grow of, and the window that grew of it. -/
def rnAll (w : Rn) (l m s : Int) : Int := w.k + prs (l * rnS m) (shr s)
def rnG (w : Rn) (l m s : Int) : Rn := ⟨w.c + rnAll w l m s / w.c, w.t, rnAll w l m s % w.c⟩
def rnFast (w : Rn) (a : Int) : Rn := ⟨w.c + rnF w a, w.t, w.k⟩
def rnGrow (w : Rn) (a m s : Int) : Rn := rnIn (rnG (rnFast (rnIn w m) (rnA a)) (rnA a - rnF (rnIn w m) (rnA a)) m s) m
def rnD (w : Rn) (s m : Int) : Int := max (w.c - prs w.c (shr s)) (min w.c (2 * rnS m))
def rnCut (w : Rn) (s m : Int) : Rn := ⟨rnD (rnIn w m) s m, rnD (rnIn w m) s m, 0⟩
def rnH (w : Rn) (m : Int) : Int := max (w.c / 2) (2 * rnS m)
def rnFell (w : Rn) (m : Int) : Rn := ⟨rnS m, rnH (rnIn w m) m, 0⟩
def rnN (g : Int) : Int := clampI g 1 1000
def rnStart (m g : Int) : Rn := ⟨rnN g * rnS m, 1073741824, 0⟩

theorem rnS_bd (m : Int) : 1 ≤ rnS m ∧ rnS m ≤ 65536 := clampP_bd m (by decide)
theorem rnC_bd (w : Rn) (m : Int) : rnS m ≤ rnC w m ∧ rnC w m ≤ 1073741824 := by have := rnS_bd m; exact clampP_bd _ (by omega)
theorem rnT_bd (w : Rn) : 0 ≤ rnT w ∧ rnT w ≤ 1073741824 := clampP_bd _ (by decide)
theorem rnK_bd (w : Rn) : 0 ≤ rnK w ∧ rnK w ≤ 1125899906842623 := clampP_bd _ (by decide)
theorem rnA_bd (a : Int) : 0 ≤ rnA a ∧ rnA a ≤ 16777216 := clampP_bd a (by decide)
theorem rnN_bd (g : Int) : 1 ≤ rnN g ∧ rnN g ≤ 1000 := clampP_bd g (by decide)
theorem rnIn_own {w : Rn} {m : Int} (hc : rnS m ≤ w.c ∧ w.c ≤ 1073741824) (ht : 0 ≤ w.t ∧ w.t ≤ 1073741824) (hk : 0 ≤ w.k ∧ w.k ≤ 1125899906842623) : rnIn w m = w := by
  obtain ⟨c, t, k⟩ := w
  unfold rnIn rnC rnT rnK
  rw [clampP_in hc.1 hc.2, clampP_in ht.1 ht.2, clampP_in hk.1 hk.2]
/-- A window within its ends. -/
structure RnOk (w : Rn) (m : Int) : Prop where
  c : rnS m ≤ w.c ∧ w.c ≤ 1073741824
  t : 0 ≤ w.t ∧ w.t ≤ 1073741824
  k : 0 ≤ w.k ∧ w.k ≤ 1125899906842623
theorem rnIn_ok (w : Rn) (m : Int) : RnOk (rnIn w m) m := ⟨rnC_bd w m, rnT_bd w, rnK_bd w⟩
theorem RnOk.own {w : Rn} {m : Int} (h : RnOk w m) : rnIn w m = w := rnIn_own h.c h.t h.k
theorem rnR_bd {w : Rn} {m : Int} (h : RnOk w m) : 0 ≤ rnR w ∧ rnR w ≤ 1073741824 := by have := h.c; have := h.t; have := rnS_bd m; unfold rnR; omega
theorem rnF_bd {w : Rn} {m a : Int} (h : RnOk w m) (ha : 0 ≤ a ∧ a ≤ 16777216) : 0 ≤ rnF w a ∧ rnF w a ≤ a ∧ w.c + rnF w a ≤ 1073741824 := by
  have := h.c; have := h.t; unfold rnF rnR; omega
theorem rnL_bd {l m : Int} (hl : 0 ≤ l ∧ l ≤ 16777216) : 0 ≤ l * rnS m ∧ l * rnS m ≤ 1099511627776 := by
  have h := rnS_bd m
  have h1 := Int.mul_nonneg hl.1 (show 0 ≤ rnS m by omega)
  have h2 := Int.mul_le_mul hl.2 h.2 (by omega) (by omega)
  omega
theorem rnP_bd {l m : Int} (s : Int) (hl : 0 ≤ l ∧ l ≤ 16777216) : 0 ≤ prs (l * rnS m) (shr s) ∧ prs (l * rnS m) (shr s) ≤ 1099511627776 := by
  have h := rnL_bd (m := m) hl
  have h2 := (prs_ends (l * rnS m) (shr s) (shr_bd s)).1 h.1
  omega
theorem rnAll_bd {w : Rn} {l m : Int} (s : Int) (hk : 0 ≤ w.k ∧ w.k ≤ 1125899906842623) (hl : 0 ≤ l ∧ l ≤ 16777216) : 0 ≤ rnAll w l m s ∧ rnAll w l m s ≤ 1126999418470399 := by
  have h := rnP_bd (m := m) s hl; unfold rnAll; omega
theorem rnQ_bd {x c : Int} (h : 0 ≤ x) (hc : 0 < c) : 0 ≤ x / c ∧ x / c ≤ x ∧ 0 ≤ x % c ∧ x % c < c :=
  ⟨Int.ediv_nonneg h (by omega), Int.ediv_le_self _ h, Int.emod_nonneg _ (by omega), Int.emod_lt_of_pos _ hc⟩

/-- Cutting, and what began anew, are within their ends. -/
theorem rnD_bd {w : Rn} {m : Int} (s : Int) (h : RnOk w m) : rnS m ≤ rnD w s m ∧ rnD w s m ≤ w.c ∧ min w.c (2 * rnS m) ≤ rnD w s m ∧ 0 ≤ prs w.c (shr s) ∧ prs w.c (shr s) ≤ w.c := by
  have hc := h.c
  have hs := rnS_bd m
  have hp := (prs_ends w.c (shr s) (shr_bd s)).1 (by omega)
  unfold rnD
  omega
theorem rnCut_ok (w : Rn) (s m : Int) : RnOk (rnCut w s m) m := by
  have h := rnIn_ok w m
  have hd := rnD_bd s h
  have hc := h.c
  have hs := rnS_bd m
  exact ⟨⟨hd.1, show rnD (rnIn w m) s m ≤ _ by omega⟩, ⟨show 0 ≤ rnD (rnIn w m) s m by omega, show rnD (rnIn w m) s m ≤ _ by omega⟩, ⟨Int.le_refl _, show (0 : Int) ≤ _ by decide⟩⟩
theorem rnH_bd {w : Rn} {m : Int} (h : RnOk w m) : 0 ≤ rnH w m ∧ rnH w m ≤ 1073741824 ∧ 0 ≤ w.c / 2 ∧ w.c / 2 ≤ 1073741824 := by
  have hc := h.c
  have hs := rnS_bd m
  unfold rnH
  omega
theorem rnFell_ok (w : Rn) (m : Int) : RnOk (rnFell w m) m := by
  have hd := rnH_bd (rnIn_ok w m)
  have hs := rnS_bd m
  exact ⟨⟨Int.le_refl _, show rnS m ≤ _ by omega⟩, ⟨hd.1, hd.2.1⟩, ⟨Int.le_refl _, show (0 : Int) ≤ _ by decide⟩⟩
/-- The document's own way of cutting. -/
theorem rnD_ref {w : Rn} {m : Int} (s : Int) (h : RnOk w m) : (if w.c - prs w.c (shr s) < 2 * rnS m then min (2 * rnS m) w.c else w.c - prs w.c (shr s)) = rnD w s m := by
  have hd := rnD_bd s h
  unfold rnD
  split <;> omega
theorem rnN_mul (g m : Int) : 1 ≤ rnN g * rnS m ∧ rnN g * rnS m ≤ 65536000 := by
  have h := rnN_bd g
  have h2 := rnS_bd m
  have h3 := Int.mul_le_mul h.1 h2.1 (by omega) (by omega)
  have h4 := Int.mul_le_mul h.2 h2.2 (by omega) (by omega)
  omega

/-- Growing never lets a window fall. -/
theorem rnGrow_up (w : Rn) (a m s : Int) : (rnIn w m).c ≤ (rnGrow w a m s).c := by
  have h := rnIn_ok w m
  have ha := rnA_bd a
  have hf := rnF_bd h ha
  have hc := h.c
  have hs := rnS_bd m
  have hx := rnAll_bd (w := rnFast (rnIn w m) (rnA a)) (m := m) s h.k (show 0 ≤ rnA a - rnF (rnIn w m) (rnA a) ∧ rnA a - rnF (rnIn w m) (rnA a) ≤ 16777216 by omega)
  have hq := rnQ_bd hx.1 (show 0 < (rnFast (rnIn w m) (rnA a)).c by show 0 < (rnIn w m).c + _; omega)
  show _ ≤ clampI ((rnIn w m).c + rnF (rnIn w m) (rnA a) + _ / _) (rnS m) 1073741824
  have hq1 := hq.1
  generalize rnAll (rnFast (rnIn w m) (rnA a)) (rnA a - rnF (rnIn w m) (rnA a)) m s / (rnFast (rnIn w m) (rnA a)).c = q at hq1 ⊢
  unfold clampI
  split
  · omega
  · split <;> omega

/-- What a window is beside the one that it was, behind so many of its bytes. -/
structure RnUp (w0 : Int) (m : Int) (l : Int) (w : Rn) : Prop where
  t : w.t = 0
  c : w0 ≤ w.c
  k : 0 ≤ w.k
  s : (w.c - w0) * w0 + w.k ≤ (w0 - l) * m
theorem RnUp.top {w0 m l : Int} {w : Rn} (h : RnUp w0 m l w) (h0 : 0 < w0) (hm : 0 ≤ m) (hl : 0 ≤ l) : w.c ≤ w0 + m ∧ w.k ≤ w0 * m := by
  have h1 : (w0 - l) * m ≤ w0 * m := Int.mul_le_mul_of_nonneg_right (by omega) hm
  have h2 := Int.mul_nonneg (show 0 ≤ w.c - w0 by have := h.c; omega) (show 0 ≤ w0 by omega)
  have hs := h.s
  have hk := h.k
  refine ⟨?_, by omega⟩
  have h3 : (w.c - w0) * w0 ≤ m * w0 := by rw [Int.mul_comm m w0]; omega
  have := Int.le_of_mul_le_mul_right h3 h0
  omega
theorem RnUp.next {w0 m l b : Int} {w : Rn} (h : RnUp w0 m l w) (h0 : m ≤ w0) (h1 : w0 ≤ 16777216) (hm : 1 ≤ m ∧ m ≤ 65536) (hl : 0 ≤ l) (hb : 0 ≤ b ∧ b ≤ l ∧ b ≤ 65536) :
    RnUp w0 m (l - b) (rnGrow w b m 1048576) := by
  have ht := h.top (by omega) (by omega) hl
  have hm1 : rnS m = m := clampP_in hm.1 hm.2
  have hw : w0 * m ≤ 1099511627776 := by
    have := Int.mul_le_mul h1 hm.2 (by omega) (by omega)
    omega
  have hc := h.c
  have hk := h.k
  have htt := h.t
  have e1 : rnIn w m = w := rnIn_own (by omega) (by omega) (by omega)
  have e2 : rnA b = b := clampP_in hb.1 (by omega)
  have e3 : rnF w b = 0 := by unfold rnF rnR; omega
  have e4 : rnFast w b = w := by unfold rnFast; rw [e3]; simp
  have e5 : rnAll w b m 1048576 = w.k + b * m := by
    unfold rnAll
    rw [hm1]
    have : shr 1048576 = 1048576 := by decide
    rw [this]
    unfold prs
    congr 1
    exact Int.mul_ediv_cancel _ (by decide)
  unfold rnGrow
  rw [e1, e2, e3, e4, show b - 0 = b by omega]
  unfold rnG
  rw [e5]
  have hbm := Int.mul_nonneg hb.1 (show 0 ≤ m by omega)
  have hx : 0 ≤ w.k + b * m := by omega
  have hq := rnQ_bd hx (show 0 < w.c by omega)
  have hd := Int.emod_add_mul_ediv (w.k + b * m) w.c
  have hnew : (w.c + (w.k + b * m) / w.c - w0) * w0 + (w.k + b * m) % w.c ≤ (w0 - (l - b)) * m := by
    generalize (w.k + b * m) / w.c = q at hq hd ⊢
    generalize (w.k + b * m) % w.c = r at hq hd ⊢
    have hs := h.s
    have e6 : (w.c + q - w0) * w0 = (w.c - w0) * w0 + q * w0 := by rw [← Int.add_mul]; congr 1; omega
    have e7 : (w0 - (l - b)) * m = (w0 - l) * m + b * m := by rw [← Int.add_mul]; congr 1; omega
    have e8 : q * w0 ≤ q * w.c := Int.mul_le_mul_of_nonneg_left hc hq.1
    have e9 : w.c * q = q * w.c := Int.mul_comm _ _
    rw [e6, e7]
    omega
  have hn : RnUp w0 m (l - b) ⟨w.c + (w.k + b * m) / w.c, w.t, (w.k + b * m) % w.c⟩ := ⟨htt, by show _ ≤ w.c + _; omega, hq.2.2.1, hnew⟩
  have hnt := hn.top (by omega) (by omega) (by omega)
  have e10 := rnIn_own (w := ⟨w.c + (w.k + b * m) / w.c, w.t, (w.k + b * m) % w.c⟩) (m := m) ⟨by rw [hm1]; show m ≤ w.c + _; omega, by have := hnt.1; omega⟩ (by show 0 ≤ w.t ∧ w.t ≤ _; omega) ⟨hq.2.2.1, by have := hnt.2; omega⟩
  rw [e10]
  exact hn
theorem rnUp_start {w0 m : Int} : RnUp w0 m w0 ⟨w0, 0, 0⟩ := ⟨rfl, Int.le_refl _, Int.le_refl _, by simp⟩

/-- What max and min make of a number. -/
structure RnEnd (lo hi x y : Int) : Prop where
  e1 : (if x < lo then lo else x) = max x lo
  e2 : (if lo < x then x else lo) = max x lo
  e3 : (if max x lo < hi then max x lo else hi) = y
  e4 : (if hi < max x lo then hi else max x lo) = y
  e5 : min (max x lo) hi = y
theorem rnEnd_is {lo hi x : Int} (h : lo ≤ hi) : RnEnd lo hi x (clampI x lo hi) := by
  unfold clampI
  constructor
  · split <;> omega
  · split <;> omega
  · split <;> split <;> (try split) <;> omega
  · split <;> split <;> (try split) <;> omega
  · split <;> (try split) <;> omega
theorem rnMin_is {X M W : Int} (h : min X M = W) : (if X < M then X else M) = W ∧ (if M < X then M else X) = W ∧ min X M = W := by
  refine ⟨?_, ?_, h⟩ <;> (split <;> omega)
theorem rnMax_is {X M W : Int} (h : max X M = W) : (if X < M then M else X) = W ∧ (if M < X then X else M) = W ∧ max X M = W := by
  refine ⟨?_, ?_, h⟩ <;> (split <;> omega)
end Go.Proofs.Ytcgpjnddklhemaa
