/- Numbers by their bits, the lowest first: plain facts on lists. -/
import Derived.Lib.Hide
namespace Go.Proofs.Ytcgpjnddklhemaa
set_option linter.unusedVariables false

/-- The number of some bits. -/
def val : List Int → Int
  | [] => 0
  | z :: zs => z + 2 * val zs
def IsBits (l : List Int) : Prop := ∀ z ∈ l, z = 0 ∨ z = 1
/-- The bit at a place; 0 behind the last one. -/
def bitAt (l : List Int) (i : Nat) : Int := l[i]?.getD 0
def P2 (k : Nat) : Int := 2 ^ k

theorem P2_pos (k : Nat) : 0 < P2 k := by unfold P2; exact_mod_cast Nat.two_pow_pos k
theorem P2_succ (k : Nat) : P2 (k + 1) = 2 * P2 k := by unfold P2; rw [Int.pow_succ, Int.mul_comm]
theorem P2_zero : P2 0 = 1 := rfl
theorem P2_add (j k : Nat) : P2 (j + k) = P2 j * P2 k := by unfold P2; exact Int.pow_add 2 j k

theorem val_append (xs ys : List Int) : val (xs ++ ys) = val xs + P2 xs.length * val ys := by
  induction xs with
  | nil => simp [val, P2_zero]
  | cons x xs ih => simp only [List.cons_append, val, ih, List.length_cons, P2_succ]; rw [Int.mul_add, Int.mul_assoc]; omega
theorem val_zeros (n : Nat) : val (List.replicate n 0) = 0 := by
  induction n with
  | zero => rfl
  | succ n ih => simp [List.replicate_succ, val, ih]
theorem bits_cons {z : Int} {zs : List Int} : IsBits (z :: zs) ↔ (z = 0 ∨ z = 1) ∧ IsBits zs := by simp [IsBits]
theorem bits_append {xs ys : List Int} (h : IsBits xs) (k : IsBits ys) : IsBits (xs ++ ys) := by
  intro z hz; rcases List.mem_append.1 hz with h' | h'; exact h z h'; exact k z h'
theorem bits_zeros (n : Nat) : IsBits (List.replicate n 0) := by intro z hz; left; exact (List.mem_replicate.1 hz).2
theorem bits_one {z : Int} (h : z = 0 ∨ z = 1) : IsBits [z] := by intro y hy; simp at hy; subst hy; exact h
theorem bits_drop {l : List Int} (h : IsBits l) (k : Nat) : IsBits (l.drop k) := fun z hz => h z (List.mem_of_mem_drop hz)
theorem bits_take {l : List Int} (h : IsBits l) (k : Nat) : IsBits (l.take k) := fun z hz => h z (List.mem_of_mem_take hz)
theorem bits_set {l : List Int} (h : IsBits l) (i : Nat) {z : Int} (hz : z = 0 ∨ z = 1) : IsBits (l.set i z) := by
  intro y hy
  rcases List.mem_or_eq_of_mem_set hy with h' | h'
  · exact h y h'
  · subst h'; exact hz

theorem val_bd {l : List Int} (h : IsBits l) : 0 ≤ val l ∧ val l < P2 l.length := by
  induction l with
  | nil => simp [val, P2_zero]
  | cons z zs ih =>
    obtain ⟨hz, hzs⟩ := bits_cons.1 h
    have := ih hzs
    simp only [val, List.length_cons, P2_succ]
    omega
theorem bitAt_01 {l : List Int} (h : IsBits l) (i : Nat) : bitAt l i = 0 ∨ bitAt l i = 1 := by
  unfold bitAt
  by_cases hi : i < l.length
  · rw [List.getElem?_eq_getElem hi]; exact h _ (List.getElem_mem hi)
  · rw [List.getElem?_eq_none (by omega)]; left; rfl
theorem bitAt_off {l : List Int} {i : Nat} (h : l.length ≤ i) : bitAt l i = 0 := by unfold bitAt; rw [List.getElem?_eq_none h]; rfl

theorem val_drop (l : List Int) (i : Nat) : val (l.drop i) = bitAt l i + 2 * val (l.drop (i + 1)) := by
  by_cases hi : i < l.length
  · rw [List.drop_eq_getElem_cons hi]; simp [val, bitAt, List.getElem?_eq_getElem hi]
  · rw [List.drop_eq_nil_of_le (by omega), List.drop_eq_nil_of_le (by omega), bitAt_off (by omega)]; rfl
theorem val_split (l : List Int) (i : Nat) : val l = val (l.take i) + P2 i * val (l.drop i) := by
  by_cases hi : i ≤ l.length
  · have := val_append (l.take i) (l.drop i)
    rw [List.take_append_drop, List.length_take, Nat.min_eq_left hi] at this
    exact this
  · rw [List.drop_eq_nil_of_le (by omega), List.take_of_length_le (by omega)]; simp [val]
theorem val_take_succ (l : List Int) (i : Nat) : val (l.take (i + 1)) = val (l.take i) + P2 i * bitAt l i := by
  have h1 := val_split l i
  have h2 := val_split l (i + 1)
  rw [val_drop l i, Int.mul_add] at h1
  rw [P2_succ, Int.mul_assoc, Int.mul_left_comm] at h2
  omega
theorem low_bd {l : List Int} (h : IsBits l) (i : Nat) : 0 ≤ val (l.take i) ∧ val (l.take i) < P2 i := by
  have h1 := val_bd (bits_take h i)
  refine ⟨h1.1, Int.lt_of_lt_of_le h1.2 ?_⟩
  rw [List.length_take]
  unfold P2
  have : (2 : Nat) ^ min i l.length ≤ 2 ^ i := Nat.pow_le_pow_right (by decide) (Nat.min_le_left _ _)
  exact_mod_cast this

/-- The order by the highest bit that is unlike. -/
theorem cmp_less {a b : List Int} (ha : IsBits a) (hb : IsBits b) (i : Nat) (e : val (a.drop (i + 1)) = val (b.drop (i + 1))) (h : bitAt a i < bitAt b i) : val a < val b := by
  have a1 := val_split a i
  have b1 := val_split b i
  have la := low_bd ha i
  have lb := low_bd hb i
  rw [val_drop] at a1 b1
  rw [e] at a1
  have x := bitAt_01 ha i
  have y := bitAt_01 hb i
  have hx : bitAt a i = 0 := by omega
  have hy : bitAt b i = 1 := by omega
  rw [hx, Int.zero_add] at a1
  rw [hy, Int.mul_add] at b1
  omega

/-- One step of the sum. -/
theorem add_step {V P c A B x y s : Int} (e : V + P * c = A + B) (hs : s = c + x + y) : V + P * (s % 2) + 2 * P * (s / 2) = (A + P * x) + (B + P * y) := by
  have h : s % 2 + 2 * (s / 2) = s := by omega
  have k : P * (s % 2) + 2 * P * (s / 2) = P * s := by
    rw [Int.mul_assoc, Int.mul_left_comm, ← Int.mul_add, h]
  have k2 : P * s = P * c + P * x + P * y := by rw [hs, Int.mul_add, Int.mul_add]
  omega
/-- One step of the difference: d is in its place. -/
theorem sub_step {V P c A B x y d c' : Int} (e : V - P * c = A - B) (hd : d - 2 * c' = x - c - y) : V + P * d - 2 * P * c' = (A + P * x) - (B + P * y) := by
  have k : P * d - 2 * P * c' = P * (x - c - y) := by rw [← hd, Int.mul_sub, Int.mul_assoc, Int.mul_left_comm]
  rw [Int.mul_sub, Int.mul_sub] at k
  omega

theorem val_snoc (l : List Int) (z : Int) : val (l ++ [z]) = val l + P2 l.length * z := by rw [val_append]; simp [val]

/-- Behind all places: nothing was borrowed. -/
theorem sub_end {out a b : List Int} {c : Int} (ho : IsBits out) (ha : IsBits a) (hb : IsBits b) (hl : out.length = a.length) (hc : c = 0 ∨ c = 1) (hle : val b ≤ val a)
    (e : val out - P2 a.length * c = val (a.take a.length) - val (b.take a.length)) : val out = val a - val b := by
  have h1 := val_split b a.length
  have h2 := val_bd ha
  have h3 := val_bd ho
  have h4 := low_bd hb a.length
  have h5 := (val_bd (bits_drop hb a.length)).1
  rw [hl] at h3
  rw [List.take_length] at e
  have hp := P2_pos a.length
  have hz : val (b.drop a.length) = 0 := by
    rcases Int.lt_or_le 0 (val (b.drop a.length)) with h | h
    · have : P2 a.length * 1 ≤ P2 a.length * val (b.drop a.length) := Int.mul_le_mul_of_nonneg_left (by omega) (by omega)
      omega
    · omega
  rw [hz, Int.mul_zero] at h1
  rcases hc with rfl | rfl <;> omega

theorem take_snoc_eq {l : List Int} {i : Nat} (h : i < l.length) : bitAt l i = l[i]'h := by unfold bitAt; rw [List.getElem?_eq_getElem h]; rfl

theorem div_unique {n d q r : Int} (hd : 0 < d) (e : n = q * d + r) (h0 : 0 ≤ r) (h1 : r < d) : n / d = q ∧ n % d = r := by
  have := (Int.ediv_emod_unique (a := n) (r := r) (q := q) hd).2 ⟨by rw [Int.mul_comm]; omega, h0, h1⟩
  exact this

theorem set_val {l : List Int} {i : Nat} (h : i < l.length) (z : Int) : val ((l.set i z).drop i) = z + 2 * val (l.drop (i + 1)) := by
  rw [val_drop, bitAt, List.getElem?_set_self h, List.drop_set_of_lt (by omega)]; rfl

theorem mod_step (x m b : Int) (hm : 0 < m) (hb : b = 0 ∨ b = 1) : x % m * 2 + b = (b + 2 * x) % (2 * m) := by
  have e := Int.mul_ediv_add_emod x m
  have m0 := Int.emod_nonneg x (b := m) (by omega)
  have m1 := Int.emod_lt_of_pos x hm
  have : b + 2 * x = (x % m * 2 + b) + 2 * m * (x / m) := by rw [Int.mul_assoc]; omega
  rw [this, Int.add_mul_emod_self_left]
  exact (Int.emod_eq_of_lt (by omega) (by omega)).symm
end Go.Proofs.Ytcgpjnddklhemaa
