/- Plain facts of layer 25: which share of bytes comes marked. -/
import Derived.Test.YtmmccaaocfbdlaaRenM
namespace Go.Proofs.Ytmmccaaocfbdlaa
open Go.ChangeShapes Go.WideShapes Go.ChangeAt Go.RowKit

/-- A share's state: Share, Acked, Marked, End. -/
structure Ap where
  s : Int
  k : Int
  m : Int
  e : Int
  deriving DecidableEq
def apK (c : Ap) : Int := clampI c.k 0 1099511627776
def apM (c : Ap) : Int := clampI c.m 0 (apK c)
def apIn (c : Ap) : Ap := ⟨shr c.s, apK c, apM c, c.e⟩
def apA (a : Int) : Int := clampI a 0 16777216
def apB (a m : Int) : Int := clampI m 0 (apA a)
/-- Its bytes rose. -/
def apUp (c : Ap) (a m : Int) : Ap := ⟨shr c.s, apK c + apA a, apM c + apB a m, c.e⟩
def apRise (c : Ap) (a m : Int) : Ap := apIn (apUp c a m)
def apF (c : Ap) : Int := rto (apM c) (apK c)
def apEnd (u e : Int) : Bool := !decide (u < e)
def apT (c : Ap) : Int := twd c.s (apF c) 4
def apTake (c : Ap) (a m u n : Int) : Ap := if u < c.e then apRise c a m else ⟨apT (apRise c a m), 0, 0, n⟩
def apStart (s e : Int) : Ap := ⟨shr s, 0, 0, e⟩

theorem apK_bd (c : Ap) : 0 ≤ apK c ∧ apK c ≤ 1099511627776 := clampP_bd _ (by decide)
theorem apM_bd (c : Ap) : 0 ≤ apM c ∧ apM c ≤ apK c := clampP_bd _ (apK_bd c).1
theorem apA_bd (a : Int) : 0 ≤ apA a ∧ apA a ≤ 16777216 := clampP_bd _ (by decide)
theorem apB_bd (a m : Int) : 0 ≤ apB a m ∧ apB a m ≤ apA a := clampP_bd _ (apA_bd a).1
/-- A state within its ends. -/
structure ApOk (c : Ap) : Prop where
  s : 0 ≤ c.s ∧ c.s ≤ 1048576
  k : 0 ≤ c.k ∧ c.k ≤ 1099511627776
  m : 0 ≤ c.m ∧ c.m ≤ c.k
theorem apIn_ok (c : Ap) : ApOk (apIn c) := ⟨shr_bd _, apK_bd c, apM_bd c⟩
theorem ApOk.ks {c : Ap} (h : ApOk c) : apK c = c.k := clampP_in h.k.1 h.k.2
theorem ApOk.ms {c : Ap} (h : ApOk c) : apM c = c.m := by unfold apM; rw [h.ks]; exact clampP_in h.m.1 h.m.2
theorem ApOk.own {c : Ap} (h : ApOk c) : apIn c = c := by unfold apIn; rw [h.ks, h.ms, shr_same _ h.s]
theorem apRise_ok (c : Ap) (a m : Int) : ApOk (apRise c a m) := apIn_ok _
theorem rto_bd (a b : Int) : 0 ≤ rto a b ∧ rto a b ≤ 1048576 := by
  unfold rto
  split
  · omega
  · split
    · omega
    · have := rto_small a b (by omega) (by omega) (by omega); omega
theorem apF_bd (c : Ap) : 0 ≤ apF c ∧ apF c ≤ 1048576 := rto_bd _ _
theorem twd_bd25 (x y : Int) (hx : 0 ≤ x ∧ x ≤ 1048576) (hy : 0 ≤ y ∧ y ≤ 1048576) : 0 ≤ twd x y 4 ∧ twd x y 4 ≤ 1048576 := by
  have h := twd_between x y 4 (by omega) (by omega)
  by_cases hxy : x ≤ y
  · have := h.1 hxy; omega
  · have := h.2 (by omega); omega
theorem apT_bd {c : Ap} (h : ApOk c) : 0 ≤ apT c ∧ apT c ≤ 1048576 := twd_bd25 _ _ h.s (apF_bd c)
theorem apTake_no {c : Ap} {a m u n : Int} (h : u < c.e) : apTake c a m u n = apRise c a m := by unfold apTake; rw [if_pos h]
theorem apTake_yes {c : Ap} {a m u n : Int} (h : ¬ u < c.e) : apTake c a m u n = ⟨apT (apRise c a m), 0, 0, n⟩ := by unfold apTake; rw [if_neg h]
theorem apTake_ok (c : Ap) (a m u n : Int) : ApOk (apTake c a m u n) := by
  by_cases h : u < c.e
  · rw [apTake_no h]; exact apRise_ok _ _ _
  · rw [apTake_yes h]; exact ⟨apT_bd (apRise_ok c a m), ⟨Int.le_refl _, show (0 : Int) ≤ _ by decide⟩, ⟨Int.le_refl _, Int.le_refl _⟩⟩

/-- A step by sixteenths. -/
theorem twd_4 (x y : Int) (hx : 0 ≤ x ∧ x ≤ 1048576) (hy : 0 ≤ y ∧ y ≤ 1048576) : twd x y 4 = x + (y - x) / 16 := by
  have e : P2 (shf 4) = 16 := by decide
  unfold twd
  rw [e, sat64_mid (y - x) (by omega) (by omega), fdv_ed _ _ (by omega) (by decide), sat64_mid _ (by omega) (by omega)]
/-- A round that ends, of a state that has nothing yet. -/
theorem apTake_own {s e a m u n : Int} (hs : 0 ≤ s ∧ s ≤ 1048576) (h : ¬ u < e) (ha : 1 ≤ a ∧ a ≤ 16777216) (hm : 0 ≤ m) : apTake ⟨s, 0, 0, e⟩ a m u n = ⟨twd s (rto (if a < m then a else m) a) 4, 0, 0, n⟩ := by
  have ea : apA a = a := clampP_in (by omega) ha.2
  have eb : apB a m = if a < m then a else m := by unfold apB; rw [ea]; unfold clampI; split <;> (try split) <;> omega
  have b := apB_bd a m
  rw [ea] at b
  have hu : ApOk (apUp ⟨s, 0, 0, e⟩ a m) := by
    have k0 : apK ⟨s, 0, 0, e⟩ = 0 := show clampI 0 0 1099511627776 = 0 by decide
    have m0 : apM ⟨s, 0, 0, e⟩ = 0 := by unfold apM; rw [k0]; exact (show clampI 0 0 0 = 0 by decide)
    refine ⟨shr_bd _, ?_, ?_⟩
    · show 0 ≤ apK ⟨s, 0, 0, e⟩ + apA a ∧ apK ⟨s, 0, 0, e⟩ + apA a ≤ _; omega
    · show 0 ≤ apM ⟨s, 0, 0, e⟩ + apB a m ∧ apM ⟨s, 0, 0, e⟩ + apB a m ≤ apK ⟨s, 0, 0, e⟩ + apA a; omega
  have hr := hu.own
  rw [apTake_yes h]
  unfold apT apF apRise
  rw [hr, hu.ks, hu.ms]
  show Ap.mk (twd (shr s) (rto (0 + apB a m) (0 + apA a)) 4) 0 0 n = _
  rw [Int.zero_add, Int.zero_add, ea, eb, shr_same s hs]
/-- How far it may still be from where it goes, behind so many rounds. -/
def apFar : Nat → Int
  | 0 => 1048576
  | k + 1 => (15 * apFar k + 15) / 16
theorem apFar_50 : apFar 50 < 65536 := by decide +kernel
def apHi (k : Nat) (s : Int) : Prop := 0 ≤ s ∧ s ≤ 1048576 ∧ 1048576 - s ≤ apFar k
def apLo (k : Nat) (s : Int) : Prop := 0 ≤ s ∧ s ≤ 1048576 ∧ s ≤ apFar k
theorem apHi_0 (s : Int) : apHi 0 (shr s) := by have := shr_bd s; exact ⟨this.1, this.2, show _ ≤ (1048576 : Int) by omega⟩
theorem apLo_0 (s : Int) : apLo 0 (shr s) := by have := shr_bd s; exact ⟨this.1, this.2, this.2⟩
theorem apHi_next {k : Nat} {s : Int} (h : apHi k s) : ∃ t, apHi (k + 1) t ∧ apTake ⟨s, 0, 0, 0⟩ 10 10 0 0 = ⟨t, 0, 0, 0⟩ := by
  obtain ⟨h0, h1, h2⟩ := h
  refine ⟨twd s 1048576 4, ?_, by rw [apTake_own ⟨h0, h1⟩ (by decide) (by decide) (by decide)]; rfl⟩
  rw [twd_4 s 1048576 ⟨h0, h1⟩ (by decide)]
  refine ⟨by omega, by omega, ?_⟩
  show _ ≤ (15 * apFar k + 15) / 16
  omega
theorem apLo_next {k : Nat} {s : Int} (h : apLo k s) : ∃ t, apLo (k + 1) t ∧ apTake ⟨s, 0, 0, 0⟩ 10 0 0 0 = ⟨t, 0, 0, 0⟩ := by
  obtain ⟨h0, h1, h2⟩ := h
  refine ⟨twd s 0 4, ?_, by rw [apTake_own ⟨h0, h1⟩ (by decide) (by decide) (by decide)]; rfl⟩
  rw [twd_4 s 0 ⟨h0, h1⟩ (by decide)]
  refine ⟨by omega, by omega, ?_⟩
  show _ ≤ (15 * apFar k + 15) / 16
  omega
/-- What a round tells of a share beside the one that it was. -/
structure ApNext (s a m t : Int) : Prop where
  lo : 0 ≤ t
  hi : t ≤ 1048576
  none : m = 0 → t ≤ s
  all : a ≤ m → s ≤ t
theorem ap_next {s e a m u n : Int} (hs : 0 ≤ s ∧ s ≤ 1048576) (h : ¬ u < e) (ha : 1 ≤ a ∧ a ≤ 16777216) (hm : 0 ≤ m) : ∃ t, ApNext s a m t ∧ apTake ⟨s, 0, 0, e⟩ a m u n = ⟨t, 0, 0, n⟩ := by
  refine ⟨_, ?_, apTake_own hs h ha hm⟩
  have hr := rto_bd (if a < m then a else m) a
  have hb := twd_bd25 s _ hs hr
  refine ⟨hb.1, hb.2, fun h0 => ?_, fun h0 => ?_⟩
  · subst h0
    rw [if_neg (by omega), rto_low 0 a (by decide)]
    exact ((twd_between s 0 4 (by omega) (by decide)).2 hs.1).2
  · have e1 : (if a < m then a else m) = a := by split <;> omega
    have e2 : rto a a = 1048576 := by unfold rto; rw [if_neg (by omega), if_pos (.inr (Int.le_refl _))]
    rw [e1, e2]
    exact ((twd_between s 1048576 4 (by omega) (by decide)).1 hs.2).1
end Go.Proofs.Ytmmccaaocfbdlaa
