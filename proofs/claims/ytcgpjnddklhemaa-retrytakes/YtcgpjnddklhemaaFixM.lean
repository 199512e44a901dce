/- Plain facts on shares, parts, steps, halves and roots of shares. -/
import Derived.Test.YtcgpjnddklhemaaSatE
import Derived.Test.YtcgpjnddklhemaaWideC
import Derived.Test.YtcgpjnddklhemaaBitL
namespace Go.Proofs.Ytcgpjnddklhemaa
set_option linter.unusedVariables false

/-- The share that counts: the nearer end of a number that is none. -/
def shr (f : Int) : Int := if f < 0 then 0 else if 1048576 < f then 1048576 else f
theorem shr_bd (f : Int) : 0 ≤ shr f ∧ shr f ≤ 1048576 := by unfold shr; split <;> (try split) <;> omega
theorem clamp_shr (f : Int) : clampI f 0 1048576 = shr f := by unfold clampI shr; split <;> (try split) <;> (try split) <;> omega
theorem shr_mono {f g : Int} (h : f ≤ g) : shr f ≤ shr g := by unfold shr; split <;> (try split) <;> (try split) <;> (try split) <;> omega
theorem shr_same (f : Int) (h : 0 ≤ f ∧ f ≤ 1048576) : shr f = f := by unfold shr; split <;> (try split) <;> omega

/-- The share s of x, downwards. -/
def prs (x s : Int) : Int := x * s / 1048576
theorem mul_ends (x s : Int) (h : 0 ≤ s ∧ s ≤ 1048576) : (0 ≤ x → 0 ≤ x * s ∧ x * s ≤ x * 1048576) ∧ (x ≤ 0 → x * 1048576 ≤ x * s ∧ x * s ≤ 0) := by
  refine ⟨fun k => ⟨Int.mul_nonneg k h.1, Int.mul_le_mul_of_nonneg_left h.2 k⟩, fun k => ⟨Int.mul_le_mul_of_nonpos_left k h.2, ?_⟩⟩
  have := Int.mul_le_mul_of_nonpos_left k h.1
  omega
theorem prs_ends (x s : Int) (h : 0 ≤ s ∧ s ≤ 1048576) : (0 ≤ x → 0 ≤ prs x s ∧ prs x s ≤ x) ∧ (x ≤ 0 → x ≤ prs x s ∧ prs x s ≤ 0) := by
  obtain ⟨m1, m2⟩ := mul_ends x s h
  unfold prs
  refine ⟨fun k => ?_, fun k => ?_⟩
  · have := m1 k; omega
  · have := m2 k; omega
theorem prs_bd (x s : Int) (hx : -9223372036854775808 ≤ x ∧ x ≤ 9223372036854775807) (h : 0 ≤ s ∧ s ≤ 1048576) : -9223372036854775808 ≤ prs x s ∧ prs x s ≤ 9223372036854775807 := by
  obtain ⟨m1, m2⟩ := prs_ends x s h
  by_cases k : 0 ≤ x
  · have := m1 k; omega
  · have := m2 (by omega); omega
theorem prs_mono (x s t : Int) (hx : 0 ≤ x) (h : s ≤ t) : prs x s ≤ prs x t :=
  Int.ediv_le_ediv (by omega) (Int.mul_le_mul_of_nonneg_left h hx)

theorem fdv_ed (a b : Int) (ha : -9223372036854775808 ≤ a ∧ a ≤ 9223372036854775807) (h : 0 < b) : fdv a b = a / b := by
  obtain ⟨e, h1, h2⟩ := fdv_fmd a b ha h
  exact ((Int.ediv_emod_unique h).2 ⟨by rw [Int.mul_comm]; omega, h1, h2⟩).1.symm
theorem fmd_em (a b : Int) (h : 0 < b) : fmd a b = a % b := by unfold fmd; rw [if_neg (by omega)]

/-- Of the whole Ones and of the rest: together the share. -/
theorem prs_two (x s : Int) (hx : -9223372036854775808 ≤ x ∧ x ≤ 9223372036854775807) (h : 0 ≤ s ∧ s ≤ 1048576) :
    sat64 (sat64 (fdv x 1048576 * s) + fdv (sat64 (fmd x 1048576 * s)) 1048576) = prs x s := by
  have bd := prs_bd x s hx h
  rw [fdv_ed x _ hx (by decide), fmd_em x _ (by decide)]
  obtain ⟨q, eq⟩ : ∃ q, x / 1048576 = q := ⟨_, rfl⟩
  obtain ⟨r, er⟩ : ∃ r, x % 1048576 = r := ⟨_, rfl⟩
  have e : x * s = 1048576 * (q * s) + r * s := by
    have : x = 1048576 * q + r := by omega
    rw [this, Int.add_mul, Int.mul_assoc]
  obtain ⟨q1, q2⟩ := mul_ends q s h
  obtain ⟨r1, _⟩ := mul_ends r s h
  have r3 := r1 (by omega)
  have q3 : -9223372036854775808 ≤ q * s ∧ q * s ≤ 9223372036854775807 := by
    by_cases k : 0 ≤ q
    · have := q1 k; omega
    · have := q2 (by omega); omega
  unfold prs at *
  rw [eq, er, sat64_mid _ q3.1 q3.2, sat64_mid (r * s) (by omega) (by omega), fdv_ed _ _ (by omega) (by decide)]
  rw [sat64_mid _ (by omega) (by omega)]
  omega

/-- a by b as a share. -/
def rto (a b : Int) : Int := if a ≤ 0 then 0 else if b ≤ 0 ∨ b ≤ a then 1048576 else a * 1048576 / b
theorem rto_big (a b : Int) (ha : 0 < a) (hb : 0 < b) (h : b ≤ a) : 1048576 ≤ a * 1048576 / b :=
  (Int.le_ediv_iff_mul_le hb).2 (by omega)
theorem rto_small (a b : Int) (ha : 0 < a) (hb : 0 < b) (h : a < b) : 0 ≤ a * 1048576 / b ∧ a * 1048576 / b < 1048576 :=
  ⟨Int.ediv_nonneg (by omega) (by omega), (Int.ediv_lt_iff_lt_mul hb).2 (by omega)⟩
theorem rto_shr (a b : Int) (ha : 0 < a) (hb : 0 < b) : shr (a * 1048576 / b) = rto a b := by
  unfold rto
  rw [if_neg (by omega)]
  by_cases h : b ≤ a
  · have := rto_big a b ha hb h
    rw [if_pos (.inr h)]; unfold shr; split <;> (try split) <;> omega
  · have := rto_small a b ha hb (by omega)
    rw [if_neg (by omega), shr_same _ (by omega)]
theorem rto_over (a b : Int) (ha : 0 < a) (hb : 0 < b) (h : 9223372036854775807 < a * 1048576 / b) : rto a b = 1048576 := by
  unfold rto
  rw [if_neg (by omega)]
  by_cases k : b ≤ a
  · rw [if_pos (.inr k)]
  · have := rto_small a b ha hb (by omega); omega
theorem rto_low (a b : Int) (ha : a ≤ 0) : rto a b = 0 := by unfold rto; rw [if_pos ha]
theorem rto_by0 (a b : Int) (ha : 0 < a) (hb : b ≤ 0) : rto a b = 1048576 := by unfold rto; rw [if_neg (by omega), if_pos (.inl hb)]

theorem mdV_ok (a b c : Int) (ha : 0 ≤ a) (hb : 0 ≤ b) (hc : 0 < c) (h : a * b / c ≤ 9223372036854775807) : mdV a b c false = a * b / c ∧ mdE a b c false = 0 := by
  have e : mdQ a b c false = a * b / c := by simp [mdQ]
  unfold mdV mdE
  rw [e, if_neg (by omega), if_neg (by omega), if_neg (by omega), if_neg (by omega)]
  exact ⟨rfl, rfl⟩
theorem mdE_over (a b c : Int) (ha : 0 ≤ a) (hb : 0 ≤ b) (hc : 0 < c) (h : 9223372036854775807 < a * b / c) : mdV a b c false = 0 ∧ mdE a b c false = 8 := by
  have e : mdQ a b c false = a * b / c := by simp [mdQ]
  unfold mdV mdE
  rw [e, if_neg (by omega), if_pos (by omega), if_neg (by omega), if_pos (by omega)]
  exact ⟨rfl, rfl⟩
theorem mdV_up (x s : Int) (hx : -9223372036854775808 < x ∧ x < 0) (h : 0 ≤ s ∧ s ≤ 1048576) : mdV (-x) s 1048576 true = -prs x s := by
  obtain ⟨_, m⟩ := prs_ends x s h
  have := m (by omega)
  have e : mdQ (-x) s 1048576 true = -prs x s := by
    unfold mdQ prs
    rw [Int.neg_mul]
    split <;> rename_i c <;> simp at c <;> omega
  unfold mdV
  rw [e, if_neg (by omega), if_neg (by omega)]
theorem prs_least (s : Int) : -(8796093022208 * s) = prs (-9223372036854775808) s := by unfold prs; omega

/-- How far is shifted. -/
def shf (n : Int) : Nat := if n < 0 then 0 else if 62 < n then 62 else n.toNat
theorem shf_bd (n : Int) : shf n ≤ 62 := by unfold shf; split <;> (try split) <;> omega
def ShfIs (n : Int) (m : Nat) : Prop := (n < 0 ∧ m ≤ 0) ∨ (62 < n ∧ m ≤ 62 ∧ 62 ≤ m) ∨ (0 ≤ n ∧ n ≤ 62 ∧ (m : Int) ≤ n ∧ n ≤ m)
theorem shf_is (n : Int) : ShfIs n (shf n) := by unfold ShfIs shf; split <;> (try split) <;> omega
theorem P2_le (j k : Nat) (h : j ≤ k) : P2 j ≤ P2 k := by
  unfold P2
  exact_mod_cast Nat.pow_le_pow_right (n := 2) (by decide) h
theorem P2_bd62 (k : Nat) (h : k ≤ 62) : 1 ≤ P2 k ∧ P2 k ≤ 4611686018427387904 := ⟨P2_le 0 k (by omega), P2_le k 62 h⟩

/-- A quotient downwards lies between the number and nought. -/
theorem ed_ends (d p : Int) (hp : 1 ≤ p) : (0 ≤ d → 0 ≤ d / p ∧ d / p ≤ d) ∧ (d < 0 → d ≤ d / p ∧ d / p < 0) := by
  refine ⟨fun h => ⟨Int.ediv_nonneg h (by omega), Int.ediv_le_self p h⟩, fun h => ⟨?_, Int.ediv_neg_of_neg_of_pos h (by omega)⟩⟩
  refine (Int.le_ediv_iff_mul_le (by omega)).2 ?_
  have := Int.mul_le_mul_of_nonpos_left (a := d) (by omega) hp
  omega
/-- A step from x towards y. -/
def twd (x y n : Int) : Int := sat64 (x + fdv (sat64 (y - x)) (P2 (shf n)))
theorem twd_between (x y n : Int) (hx : -9223372036854775808 ≤ x ∧ x ≤ 9223372036854775807) (hy : -9223372036854775808 ≤ y ∧ y ≤ 9223372036854775807) :
    (x ≤ y → x ≤ twd x y n ∧ twd x y n ≤ y) ∧ (y ≤ x → y ≤ twd x y n ∧ twd x y n ≤ x) := by
  unfold twd
  have p := P2_bd62 (shf n) (shf_bd n)
  have d := sat64_bd (y - x)
  rw [fdv_ed _ _ d (by omega)]
  have hd : (x ≤ y → 0 ≤ sat64 (y - x) ∧ sat64 (y - x) ≤ y - x) ∧ (y < x → y - x ≤ sat64 (y - x) ∧ sat64 (y - x) < 0) := by
    unfold sat64; split <;> (try split) <;> omega
  obtain ⟨q1, q2⟩ := ed_ends (sat64 (y - x)) (P2 (shf n)) p.1
  by_cases h : x ≤ y
  · have a := hd.1 h
    have b := q1 a.1
    rw [sat64_mid _ (by omega) (by omega)]
    omega
  · have a := hd.2 (by omega)
    have b := q2 a.2
    rw [sat64_mid _ (by omega) (by omega)]
    omega

/-- x by 2, so often. -/
def hlv (x : Int) (k : Nat) : Int := x / P2 k
theorem hlv_zero (x : Int) : hlv x 0 = x := by unfold hlv; rw [P2_zero, Int.ediv_one]
theorem hlv_bd (x : Int) (k : Nat) (hx : -9223372036854775808 ≤ x ∧ x ≤ 9223372036854775807) : -9223372036854775808 ≤ hlv x k ∧ hlv x k ≤ 9223372036854775807 := by
  unfold hlv
  obtain ⟨q1, q2⟩ := ed_ends x (P2 k) (by have := P2_pos k; omega)
  by_cases h : 0 ≤ x
  · have := q1 h; omega
  · have := q2 (by omega); omega
theorem hlv_succ (x : Int) (k : Nat) (hx : -9223372036854775808 ≤ x ∧ x ≤ 9223372036854775807) : fdv (hlv x k) 2 = hlv x (k + 1) := by
  rw [fdv_ed _ _ (hlv_bd x k hx) (by decide)]
  unfold hlv
  rw [P2_succ, Int.ediv_ediv_of_nonneg (by have := P2_pos k; omega), Int.mul_comm]
theorem hlv_far (x : Int) (k : Nat) (hx : -9223372036854775808 ≤ x ∧ x ≤ 9223372036854775807) (hk : 63 ≤ k) : hlv x k = if x < 0 then -1 else 0 := by
  have p : 9223372036854775808 ≤ P2 k := P2_le 63 k hk
  unfold hlv
  split
  · rename_i h
    exact ((Int.ediv_emod_unique (by omega)).2 ⟨(by rw [Int.mul_neg, Int.mul_one]; omega : x + P2 k + P2 k * -1 = x), by omega, by omega⟩).1
  · exact Int.ediv_eq_zero_of_lt (by omega) (by omega)
/-- So often at most. -/
def upto (n : Int) (m : Nat) : Nat := if n < 0 then 0 else if (m : Int) < n then m else n.toNat
def UptoIs (n : Int) (m k : Nat) : Prop := (n < 0 ∧ k ≤ 0) ∨ ((m : Int) < n ∧ k ≤ m ∧ m ≤ k) ∨ (0 ≤ n ∧ n ≤ m ∧ (k : Int) ≤ n ∧ n ≤ k)
theorem upto_is (n : Int) (m : Nat) : UptoIs n m (upto n m) := by unfold UptoIs upto; split <;> (try split) <;> omega
theorem hlv_70 (x n : Int) (hx : -9223372036854775808 ≤ x ∧ x ≤ 9223372036854775807) : hlv x (upto n 70) = hlv x (upto n 63) := by
  by_cases h : n ≤ 63
  · rw [show upto n 70 = upto n 63 by unfold upto; split <;> (try split) <;> (try split) <;> omega]
  · rw [hlv_far x _ hx (by unfold upto; split <;> (try split) <;> omega), hlv_far x _ hx (by unfold upto; split <;> (try split) <;> omega)]

/-- r is the root of n. -/
def Rt (n r : Int) : Prop := 0 ≤ r ∧ r * r ≤ n ∧ n < (r + 1) * (r + 1)
theorem sq_le {a b : Int} (h0 : 0 ≤ a) (h : a ≤ b) : a * a ≤ b * b := Int.mul_le_mul h h h0 (by omega)
theorem rt_ex (n : Int) (h : 0 ≤ n) : ∃ r, Rt n r := by
  obtain ⟨k, rfl⟩ : ∃ k : Nat, n = k := ⟨n.toNat, by omega⟩
  clear h
  induction k with
  | zero => exact ⟨0, by omega, by omega, by omega⟩
  | succ k ih =>
    obtain ⟨r, h0, h1, h2⟩ := ih
    by_cases c : (r + 1) * (r + 1) ≤ ((k + 1 : Nat) : Int)
    · have e : (r + 1 + 1) * (r + 1 + 1) = (r + 1) * (r + 1) + (2 * r + 3) := by
        rw [Int.mul_add (r + 1 + 1), Int.add_mul (r + 1) 1]; omega
      exact ⟨r + 1, by omega, c, by omega⟩
    · exact ⟨r, h0, by omega, by omega⟩
theorem rt_le {n r m : Int} (h : Rt n r) (hm : 0 ≤ m) : (m * m ≤ n ↔ m ≤ r) := by
  obtain ⟨h0, h1, h2⟩ := h
  constructor
  · intro k
    by_cases c : m ≤ r
    · exact c
    · have := sq_le (a := r + 1) (b := m) (by omega) (by omega)
      omega
  · intro k
    have := sq_le hm k
    omega
theorem rt_one {n r m : Int} (h : Rt n r) (k : Rt n m) : m = r := by
  have a := (rt_le h k.1).1 k.2.1
  have b := (rt_le k h.1).1 h.2.1
  omega
theorem rt_share {s r : Int} (hs : 0 ≤ s ∧ s ≤ 1048576) (h : Rt (s * 1048576) r) : r ≤ 1048576 := by
  have := (rt_le (m := 1048577) h (by omega)).2
  omega
end Go.Proofs.Ytcgpjnddklhemaa
