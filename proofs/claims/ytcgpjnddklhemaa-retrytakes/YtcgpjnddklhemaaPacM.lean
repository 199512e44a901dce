/- Plain facts of layer 23: buckets, how they fill, and how bytes go out of them. -/
import Derived.Test.YtcgpjnddklhemaaSatE
namespace Go.Proofs.Ytcgpjnddklhemaa
open Go.ChangeShapes Go.WideShapes Go.ChangeAt Go.RowKit

/-- A bucket: rate, burst, level, at. -/
structure Pc where
  r : Int
  u : Int
  l : Int
  a : Int
  deriving DecidableEq
def pcE (x : Int) : Int := clampI x 1 1099511627776
def pcN (x : Int) : Int := clampI x 0 1125899906842624
def pcF (u : Int) : Int := pcE u * 1000000
def pcL (c : Pc) : Int := clampI c.l (-2305843009213693952) (pcF c.u)
def pcIn (c : Pc) : Pc := ⟨pcE c.r, pcE c.u, pcL c, pcN c.a⟩
def pcM (c : Pc) (n : Int) : Int := max (pcN n) (pcN c.a)
def pcFl (c : Pc) (n : Int) : Int := min (pcL c + pcE c.r * (pcM c n - pcN c.a)) (pcF c.u)
def pcFill (c : Pc) (n : Int) : Pc := ⟨pcE c.r, pcE c.u, pcFl c n, pcM c n⟩
def pcZ (c : Pc) (s : Int) : Int := clampI s 0 (pcE c.u)
def pcT (c : Pc) (s : Int) : Int := pcZ c s * 1000000
def pcUp (m r : Int) : Int := -(-m / r)
def pcWhen (c : Pc) (n s : Int) : Int := max (pcM c n) (pcN c.a + pcUp (pcT c s - pcL c) (pcE c.r))
def pcSl (c : Pc) (n s : Int) : Int := max (pcFl c n - pcT c s) (-2305843009213693952)
def pcSpend (c : Pc) (n s : Int) : Pc := ⟨pcE c.r, pcE c.u, pcSl c n s, pcM c n⟩
def pcC (x : Int) : Int := clampI x 0 1073741824
def pcS (x : Int) : Int := clampI x 1 1125899906842624
def pcG (x : Int) : Int := clampI x 0 16777216
def pcQ (w s : Int) : Int := pcC w * 1000000 / pcS s
def pcRate (w s g : Int) : Int := pcE (pcQ w s * pcG g / 1048576)

theorem clampP_bd (x : Int) {lo hi : Int} (h : lo ≤ hi) : lo ≤ clampI x lo hi ∧ clampI x lo hi ≤ hi := by
  unfold clampI; split <;> (try split) <;> omega
theorem clampP_in {x lo hi : Int} (h : lo ≤ x) (h' : x ≤ hi) : clampI x lo hi = x := by
  unfold clampI; rw [if_neg (by omega), if_neg (by omega)]
theorem pcE_bd (x : Int) : 1 ≤ pcE x ∧ pcE x ≤ 1099511627776 := clampP_bd x (by decide)
theorem pcN_bd (x : Int) : 0 ≤ pcN x ∧ pcN x ≤ 1125899906842624 := clampP_bd x (by decide)
theorem pcF_bd (u : Int) : 1000000 ≤ pcF u ∧ pcF u ≤ 1099511627776000000 := by have := pcE_bd u; unfold pcF; omega
theorem pcL_bd (c : Pc) : -2305843009213693952 ≤ pcL c ∧ pcL c ≤ pcF c.u := by have := pcF_bd c.u; exact clampP_bd _ (by omega)
theorem pcM_bd (c : Pc) (n : Int) : 0 ≤ pcM c n ∧ pcM c n ≤ 1125899906842624 ∧ pcN c.a ≤ pcM c n ∧ pcN n ≤ pcM c n := by
  have := pcN_bd n; have := pcN_bd c.a; unfold pcM; omega
theorem pcZ_bd (c : Pc) (s : Int) : 0 ≤ pcZ c s ∧ pcZ c s ≤ pcE c.u := by have := pcE_bd c.u; exact clampP_bd _ (by omega)
theorem pcT_bd (c : Pc) (s : Int) : 0 ≤ pcT c s ∧ pcT c s ≤ pcF c.u := by have := pcZ_bd c s; unfold pcT pcF; omega
theorem pcBy_bd (c : Pc) (n : Int) : 0 ≤ pcE c.r * (pcM c n - pcN c.a) := by
  have := pcE_bd c.r; have := pcM_bd c n
  exact Int.mul_nonneg (by omega) (by omega)
theorem pcFl_bd (c : Pc) (n : Int) : pcL c ≤ pcFl c n ∧ pcFl c n ≤ pcF c.u := by
  have := pcBy_bd c n; have := pcL_bd c; unfold pcFl; omega
theorem pcSl_bd (c : Pc) (n s : Int) : -2305843009213693952 ≤ pcSl c n s ∧ pcSl c n s ≤ pcF c.u := by
  have := pcFl_bd c n; have := pcT_bd c s; have := pcF_bd c.u; unfold pcSl; omega
theorem pcE_in (x : Int) : pcE (pcE x) = pcE x := clampP_in (pcE_bd x).1 (pcE_bd x).2
theorem pcN_in (x : Int) : pcN (pcN x) = pcN x := clampP_in (pcN_bd x).1 (pcN_bd x).2
theorem pcF_in (x : Int) : pcF (pcE x) = pcF x := by unfold pcF; rw [pcE_in]
theorem pcIn_own {c : Pc} (hr : 1 ≤ c.r ∧ c.r ≤ 1099511627776) (hu : 1 ≤ c.u ∧ c.u ≤ 1099511627776) (hl : -2305843009213693952 ≤ c.l ∧ c.l ≤ pcF c.u) (ha : 0 ≤ c.a ∧ c.a ≤ 1125899906842624) :
    pcE c.r = c.r ∧ pcE c.u = c.u ∧ pcL c = c.l ∧ pcN c.a = c.a :=
  ⟨clampP_in hr.1 hr.2, clampP_in hu.1 hu.2, clampP_in hl.1 hl.2, clampP_in ha.1 ha.2⟩
/-- What is within its ends stays as it is. -/
theorem pcIn_parts (c : Pc) : pcE (pcIn c).r = pcE c.r ∧ pcE (pcIn c).u = pcE c.u ∧ pcL (pcIn c) = pcL c ∧ pcN (pcIn c).a = pcN c.a :=
  pcIn_own (c := pcIn c) (pcE_bd _) (pcE_bd _) (by show _ ≤ pcL c ∧ pcL c ≤ pcF (pcE c.u); rw [pcF_in]; exact pcL_bd c) (pcN_bd _)
theorem pcIn_in (c : Pc) : pcIn (pcIn c) = pcIn c := by
  obtain ⟨h1, h2, h3, h4⟩ := pcIn_parts c
  rw [pcIn, h1, h2, h3, h4]; rfl
theorem pcFu_in (c : Pc) : pcF (pcIn c).u = pcF c.u := pcF_in c.u
theorem pcM_in (c : Pc) (n : Int) : pcM (pcIn c) n = pcM c n := by unfold pcM; rw [(pcIn_parts c).2.2.2]
theorem pcFl_in (c : Pc) (n : Int) : pcFl (pcIn c) n = pcFl c n := by
  obtain ⟨h1, h2, h3, h4⟩ := pcIn_parts c
  unfold pcFl; rw [h1, h3, h4, pcM_in, pcFu_in]
theorem pcFill_in (c : Pc) (n : Int) : pcFill (pcIn c) n = pcFill c n := by
  obtain ⟨h1, h2, h3, h4⟩ := pcIn_parts c
  unfold pcFill; rw [h1, h2, pcFl_in, pcM_in]
theorem pcZ_in (c : Pc) (s : Int) : pcZ (pcIn c) s = pcZ c s := by unfold pcZ; rw [(pcIn_parts c).2.1]
theorem pcT_in (c : Pc) (s : Int) : pcT (pcIn c) s = pcT c s := by unfold pcT; rw [pcZ_in]
theorem pcT_fill (c : Pc) (n s : Int) : pcT (pcFill c n) s = pcT c s := by
  show clampI s 0 (pcE (pcE c.u)) * 1000000 = _
  rw [pcE_in]; rfl
/-- A filled one, within its ends, is as it was. -/
theorem pcIn_fill (c : Pc) (n : Int) : pcIn (pcFill c n) = pcFill c n := by
  have b := pcFl_bd c n
  have bL := pcL_bd c
  have bM := pcM_bd c n
  obtain ⟨h1, h2, h3, h4⟩ := pcIn_own (c := pcFill c n) (pcE_bd _) (pcE_bd _) (by show _ ≤ pcFl c n ∧ pcFl c n ≤ pcF (pcE c.u); rw [pcF_in]; omega) ⟨bM.1, bM.2.1⟩
  rw [pcIn, h1, h2, h3, h4]
/-- Spent of: within its ends again. -/
theorem pcIn_spent (c : Pc) (n s : Int) : pcIn ⟨pcE c.r, pcE c.u, pcFl c n - pcT c s, pcM c n⟩ = pcSpend c n s := by
  have b := pcFl_bd c n
  have bT := pcT_bd c s
  have bM := pcM_bd c n
  have bF := pcF_bd c.u
  have e : pcL ⟨pcE c.r, pcE c.u, pcFl c n - pcT c s, pcM c n⟩ = pcSl c n s := by
    show clampI (pcFl c n - pcT c s) (-2305843009213693952) (pcF (pcE c.u)) = _
    rw [pcF_in]
    unfold pcSl clampI
    split <;> (try split) <;> omega
  have e4 : pcN (pcM c n) = pcM c n := clampP_in bM.1 bM.2.1
  show Pc.mk (pcE (pcE c.r)) (pcE (pcE c.u)) _ (pcN (pcM c n)) = _
  rw [e, pcE_in, pcE_in, e4]; rfl
/-- Reckoned at its ends: the same. -/
theorem pcFl_sat (c : Pc) (n : Int) : min (sat64 (pcL c + sat64 (pcE c.r * (pcM c n - pcN c.a)))) (pcF c.u) = pcFl c n := by
  have b0 := pcBy_bd c n
  have bL := pcL_bd c
  have bF := pcF_bd c.u
  unfold pcFl
  generalize pcE c.r * (pcM c n - pcN c.a) = X at *
  generalize pcL c = L at *
  generalize pcF c.u = F at *
  by_cases h : X ≤ 9223372036854775807
  · rw [sat64_mid X (by omega) h]
    by_cases h2 : L + X ≤ 9223372036854775807
    · rw [sat64_mid _ (by omega) h2]
    · rw [sat64_hi _ (by omega)]; omega
  · rw [sat64_hi X (by omega)]
    by_cases h2 : L ≤ 0
    · rw [sat64_mid _ (by omega) (by omega)]; omega
    · rw [sat64_hi _ (by omega)]; omega
/-- As it was, where the time isn't later. -/
theorem pcFl_same {c : Pc} {n : Int} (h : pcN n ≤ pcN c.a) : pcM c n = pcN c.a ∧ pcFl c n = pcL c := by
  have hm : pcM c n = pcN c.a := by unfold pcM; omega
  have := pcL_bd c
  refine ⟨hm, ?_⟩
  unfold pcFl
  rw [hm, Int.sub_self, Int.mul_zero]; omega
theorem pcFill_same {c : Pc} {n : Int} (h : pcN n ≤ pcN c.a) : pcFill c n = pcIn c := by
  obtain ⟨h1, h2⟩ := pcFl_same h
  unfold pcFill
  rw [h1, h2]; rfl
/-- By the room, as the document parts it. -/
theorem pcFl_room (c : Pc) (n : Int) :
    ((pcF c.u - pcL c) / pcE c.r < pcM c n - pcN c.a → pcFl c n = pcF c.u) ∧
    (¬ (pcF c.u - pcL c) / pcE c.r < pcM c n - pcN c.a → pcFl c n = pcL c + pcE c.r * (pcM c n - pcN c.a) ∧ pcE c.r * (pcM c n - pcN c.a) ≤ pcF c.u - pcL c) := by
  have b0 := pcBy_bd c n
  have bL := pcL_bd c
  have bE := pcE_bd c.r
  unfold pcFl
  generalize pcM c n - pcN c.a = B at *
  generalize pcE c.r = R at *
  generalize pcL c = L at *
  generalize pcF c.u = F at *
  refine ⟨fun h => ?_, fun h => ?_⟩
  · have := (Int.ediv_lt_iff_lt_mul (show 0 < R by omega)).1 h
    rw [Int.mul_comm] at this; omega
  · have := (Int.le_ediv_iff_mul_le (show 0 < R by omega)).1 (show B ≤ (F - L) / R by omega)
    rw [Int.mul_comm] at this; omega
/-- A quotient, upwards. -/
theorem pcUp_is (m : Int) {r : Int} (hr : 0 < r) : r * (pcUp m r - 1) < m ∧ m ≤ r * pcUp m r := by
  have h1 := Int.mul_ediv_add_emod (-m) r
  have h2 := Int.emod_nonneg (-m) (b := r) (by omega)
  have h3 := Int.emod_lt_of_pos (-m) hr
  unfold pcUp
  generalize -m / r = q at *
  rw [Int.mul_sub, Int.mul_neg]
  omega
theorem pcUp_uniq {m r q : Int} (hr : 0 < r) (h1 : r * (q - 1) < m) (h2 : m ≤ r * q) : pcUp m r = q := by
  obtain ⟨k1, k2⟩ := pcUp_is m hr
  generalize pcUp m r = p at *
  have a1 : r * (q - 1) < r * p := by omega
  have a2 : r * (p - 1) < r * q := by omega
  have := Int.lt_of_mul_lt_mul_left a1 (by omega)
  have := Int.lt_of_mul_lt_mul_left a2 (by omega)
  omega
theorem pcUp_bd {m r X : Int} (hr : 0 < r) (hX : -X ≤ m ∧ m ≤ X) : -X ≤ pcUp m r ∧ pcUp m r ≤ X := by
  obtain ⟨k1, k2⟩ := pcUp_is m hr
  generalize pcUp m r = p at *
  constructor
  · rcases Int.lt_or_le p (-X) with h | h
    · have := Int.mul_le_mul_of_nonpos_right (show 1 ≤ r by omega) (show p ≤ 0 by omega)
      omega
    · exact h
  · rcases Int.lt_or_le X p with h | h
    · have := Int.mul_le_mul_of_nonneg_right (show 1 ≤ r by omega) (show 0 ≤ p - 1 by omega)
      omega
    · exact h
theorem pcUp_neg {m r : Int} (hr : 0 < r) (hm : m ≤ 0) : pcUp m r ≤ 0 := by
  obtain ⟨k1, k2⟩ := pcUp_is m hr
  generalize pcUp m r = p at *
  rcases Int.lt_or_le 0 p with h | h
  · have := Int.mul_nonneg (show 0 ≤ r by omega) (show 0 ≤ p - 1 by omega)
    omega
  · exact h
/-- When, as the document reckons it: of the filled one, by the whole ticks that are missing, one more where they don't do. -/
theorem pcWhen_ref (c : Pc) (n s : Int) :
    (pcT c s - pcFl c n ≤ 0 → pcWhen c n s = pcM c n) ∧
    (¬ pcT c s - pcFl c n ≤ 0 → (pcT c s - pcFl c n) / pcE c.r * pcE c.r < pcT c s - pcFl c n → pcWhen c n s = pcM c n + ((pcT c s - pcFl c n) / pcE c.r + 1)) ∧
    (¬ pcT c s - pcFl c n ≤ 0 → ¬ (pcT c s - pcFl c n) / pcE c.r * pcE c.r < pcT c s - pcFl c n → pcWhen c n s = pcM c n + (pcT c s - pcFl c n) / pcE c.r) := by
  have b0 := pcBy_bd c n
  have bL := pcL_bd c
  have bE := pcE_bd c.r
  have bT := pcT_bd c s
  have bM := pcM_bd c n
  unfold pcWhen pcFl
  generalize pcE c.r = R at *
  generalize pcL c = L at *
  generalize pcF c.u = F at *
  generalize pcT c s = T at *
  generalize pcM c n = M at *
  generalize pcN c.a = A at *
  have hR : 0 < R := by omega
  obtain ⟨k1, k2⟩ := pcUp_is (T - L) hR
  have hS := Int.mul_sub R M A
  have key : ¬ T - min (L + R * (M - A)) F ≤ 0 →
      ((T - min (L + R * (M - A)) F) / R * R < T - min (L + R * (M - A)) F → max M (A + pcUp (T - L) R) = M + ((T - min (L + R * (M - A)) F) / R + 1)) ∧
      (¬ (T - min (L + R * (M - A)) F) / R * R < T - min (L + R * (M - A)) F → max M (A + pcUp (T - L) R) = M + (T - min (L + R * (M - A)) F) / R) := by
    intro h
    have h1 : min (L + R * (M - A)) F = L + R * (M - A) := by omega
    rw [h1] at h ⊢
    have d1 := Int.mul_ediv_add_emod (T - (L + R * (M - A))) R
    have d2 := Int.emod_nonneg (T - (L + R * (M - A))) (b := R) (by omega)
    have d3 := Int.emod_lt_of_pos (T - (L + R * (M - A))) hR
    have d4 : 0 ≤ (T - (L + R * (M - A))) / R := Int.ediv_nonneg (by omega) (by omega)
    rw [Int.mul_comm (_ / R)]
    generalize (T - (L + R * (M - A))) / R = q at *
    refine ⟨fun h2 => ?_, fun h2 => ?_⟩
    · have := pcUp_uniq (m := T - L) (q := M - A + (q + 1)) hR (by rw [show M - A + (q + 1) - 1 = (M - A) + q by omega, Int.mul_add]; omega) (by rw [Int.mul_add, Int.mul_add, Int.mul_one]; omega)
      rw [this]; omega
    · have := pcUp_uniq (m := T - L) (q := M - A + q) hR (by rw [show M - A + q - 1 = (M - A) + (q - 1) by omega, Int.mul_add, Int.mul_sub R q]; omega) (by rw [Int.mul_add]; omega)
      rw [this]; omega
  refine ⟨fun h => ?_, fun h => (key h).1, fun h => (key h).2⟩
  · have h1 : T - L ≤ R * (M - A) := by omega
    have h2 : R * (pcUp (T - L) R - 1) < R * (M - A) := by omega
    have := Int.lt_of_mul_lt_mul_left h2 (by omega)
    omega
theorem pcQ_bd (w s : Int) : 0 ≤ pcQ w s ∧ pcQ w s ≤ 1073741824000000 := by
  have b1 : 0 ≤ pcC w ∧ pcC w ≤ 1073741824 := clampP_bd w (by decide)
  have b2 : 1 ≤ pcS s ∧ pcS s ≤ 1125899906842624 := clampP_bd s (by decide)
  unfold pcQ
  refine ⟨Int.ediv_nonneg (by omega) (by omega), ?_⟩
  have := Int.ediv_le_self (a := pcC w * 1000000) (pcS s) (by omega)
  omega
theorem pcG_bd (g : Int) : 0 ≤ pcG g ∧ pcG g ≤ 16777216 := clampP_bd g (by decide)
theorem pcE_hi {x : Int} (h : 1099511627776 ≤ x) : pcE x = 1099511627776 := by
  unfold pcE clampI; rw [if_neg (by omega)]; split <;> omega
/-- Reckoned at its ends: the same rate. -/
theorem pcRate_sat (w s g : Int) : pcE (sat64 (pcQ w s * pcG g) / 1048576) = pcRate w s g := by
  have b1 := pcQ_bd w s
  have b2 := pcG_bd g
  have b3 : 0 ≤ pcQ w s * pcG g := Int.mul_nonneg b1.1 b2.1
  unfold pcRate
  generalize pcQ w s * pcG g = X at *
  by_cases h : X ≤ 9223372036854775807
  · rw [sat64_mid X (by omega) h]
  · rw [sat64_hi X (by omega)]
    rw [pcE_hi (by decide), pcE_hi (by omega)]
/-- By the upper and the lower part, as the document does. -/
theorem pcRate_parts (w s g : Int) : pcQ w s / 1048576 * pcG g + pcQ w s % 1048576 * pcG g / 1048576 = pcQ w s * pcG g / 1048576 := by
  generalize pcQ w s = n
  generalize pcG g = k
  have h := Int.mul_ediv_add_emod n 1048576
  have e : n * k = n % 1048576 * k + 1048576 * (n / 1048576 * k) := by
    rw [← Int.mul_assoc, ← Int.add_mul]
    congr 1; omega
  rw [e, Int.add_mul_ediv_left _ _ (by decide)]; omega
theorem pcRate_bd (w s g : Int) : (0 ≤ pcQ w s / 1048576 * pcG g ∧ pcQ w s / 1048576 * pcG g ≤ 1125899906842624000000 / 1048576 * 17) ∧ (0 ≤ pcQ w s % 1048576 * pcG g ∧ pcQ w s % 1048576 * pcG g ≤ 17592186044416) := by
  have b1 := pcQ_bd w s
  have b2 := pcG_bd g
  have h2 := Int.emod_nonneg (pcQ w s) (b := 1048576) (by decide)
  have h3 := Int.emod_lt_of_pos (pcQ w s) (b := 1048576) (by decide)
  have h4 : 0 ≤ pcQ w s / 1048576 ∧ pcQ w s / 1048576 ≤ 1024000000 := by omega
  generalize pcQ w s / 1048576 = a at *
  generalize pcQ w s % 1048576 = b at *
  generalize pcG g = k at *
  refine ⟨⟨Int.mul_nonneg h4.1 b2.1, ?_⟩, Int.mul_nonneg h2 b2.1, ?_⟩
  · exact Int.le_trans (Int.mul_le_mul h4.2 b2.2 b2.1 (by decide)) (by decide)
  · exact Int.le_trans (Int.mul_le_mul (show b ≤ 1048576 by omega) b2.2 b2.1 (by decide)) (by decide)
/-- The time that is told: the first. -/
theorem pcFirst_not {c : Pc} {n s x : Int} (hx : pcWhen c n s < 1125899906842624) (h : pcM c n < pcWhen c n s) (hxe : x = pcWhen c n s - 1) : pcFl c x < pcT c s := by
  have bL := pcL_bd c
  have bE := pcE_bd c.r
  have bT := pcT_bd c s
  have bM := pcM_bd c n
  have hN := pcN_bd c.a
  have e : pcM c x = x := by
    unfold pcM
    rw [show pcN x = x from clampP_in (by omega) (by omega)]; omega
  unfold pcFl
  rw [e]
  unfold pcWhen at *
  generalize pcE c.r = R at *
  generalize pcL c = L at *
  generalize pcF c.u = F at *
  generalize pcT c s = T at *
  generalize pcM c n = M at *
  generalize pcN c.a = A at *
  obtain ⟨k1, k2⟩ := pcUp_is (T - L) (show 0 < R by omega)
  generalize pcUp (T - L) R = U at *
  obtain rfl : x = A + (U - 1) := by omega
  rw [show A + (U - 1) - A = U - 1 by omega]
  omega
theorem pcFirst_may {c : Pc} {n s : Int} (hx : pcWhen c n s < 1125899906842624) : pcT c s ≤ pcFl c (pcWhen c n s) := by
  have bL := pcL_bd c
  have bE := pcE_bd c.r
  have bT := pcT_bd c s
  have bM := pcM_bd c n
  have hN := pcN_bd c.a
  have hge : pcM c n ≤ pcWhen c n s ∧ pcN c.a + pcUp (pcT c s - pcL c) (pcE c.r) ≤ pcWhen c n s := by unfold pcWhen; omega
  generalize pcWhen c n s = x at *
  have e : pcM c x = x := by
    unfold pcM
    rw [show pcN x = x from clampP_in (by omega) (by omega)]; omega
  unfold pcFl
  rw [e]
  generalize pcE c.r = R at *
  generalize pcL c = L at *
  generalize pcF c.u = F at *
  generalize pcT c s = T at *
  generalize pcM c n = M at *
  generalize pcN c.a = A at *
  obtain ⟨k1, k2⟩ := pcUp_is (T - L) (show 0 < R by omega)
  generalize pcUp (T - L) R = U at *
  have := Int.mul_le_mul_of_nonneg_left (show U ≤ x - A by omega) (show 0 ≤ R by omega)
  omega
theorem pcWhen_bd (c : Pc) (n s : Int) : 0 ≤ pcWhen c n s ∧ pcM c n ≤ pcWhen c n s ∧ pcN c.a ≤ pcWhen c n s ∧ pcWhen c n s ≤ 4611686018427387904 := by
  have bL := pcL_bd c
  have bE := pcE_bd c.r
  have bT := pcT_bd c s
  have bM := pcM_bd c n
  have hN := pcN_bd c.a
  have bF := pcF_bd c.u
  have := pcUp_bd (m := pcT c s - pcL c) (r := pcE c.r) (X := 3405354636989693952) (by omega) (by omega)
  unfold pcWhen; omega
end Go.Proofs.Ytcgpjnddklhemaa
