/- Counts compared; the chapter's example of layer 15 (works); how counts rise, as plain facts. -/
import Derived.Test.YtdibhpiafipibaaCntC
namespace Go.Proofs.Ytdibhpiafipibaa
open Go.RowKit
set_option linter.unusedVariables false

theorem eqlC (c : Cn) (w : World) : (binOp .eql 23 (.agg #[.int .i64 c.cep, .int .i64 c.ceb, .int .i64 c.e0, .int .i64 c.e1]) (.agg #[.int .i64 c.cep, .int .i64 c.ceb, .int .i64 c.e0, .int .i64 c.e1])).run Try.prog w = .ok (.bool true) w := by
  rw [run_eql_struct, show (10000 : Nat) = 9999 + 1 from rfl, run_equalIn_agg w 9999 _ _ _ (by kernel_rfl) (by kernel_rfl)]
  simp only [Program.fieldsOf, Try.underlying23]
  go_simp
theorem neqC (c : Cn) (w : World) : (binOp .neq 23 (.agg #[.int .i64 c.cep, .int .i64 c.ceb, .int .i64 c.e0, .int .i64 c.e1]) (.agg #[.int .i64 c.cep, .int .i64 c.ceb, .int .i64 c.e0, .int .i64 c.e1])).run Try.prog w = .ok (.bool false) w := by
  rw [run_neq_struct, show (10000 : Nat) = 9999 + 1 from rfl, run_equalIn_agg w 9999 _ _ _ (by kernel_rfl) (by kernel_rfl)]
  simp only [Program.fieldsOf, Try.underlying23]
  go_simp
theorem eqlT (a b c : Int) (w : World) : (binOp .eql 36 (.agg #[.int .i64 a, .int .i64 b, .int .i64 c]) (.agg #[.int .i64 a, .int .i64 b, .int .i64 c])).run Try.prog w = .ok (.bool true) w := by
  obtain ⟨i, hi⟩ := Option.isSome_iff_exists.1 (show (Try.prog.info? 2).isSome = true by kernel_rfl)
  rw [run_eql_struct, show (10000 : Nat) = 9999 + 1 from rfl, run_equalIn_array w 9999 _ _ (show Try.prog.underlying 36 = some (.array 3 2) by kernel_rfl) hi]
  rw [show Try.prog.cellsOf 2 = 1 by kernel_rfl, show List.range 3 = [0, 1, 2] by decide]
  simp only [Op.eqItems]
  go_simp
theorem works15_any (w : World) : Calls Try.prog 10 #[] w fun e w' => e = .returned (.bool true) ∧ Below w.heap.size w w' := by
  have CS : Hid (∀ w, Calls Try.prog 9 #[.int .i64 5] w fun e w' => e = .returned (.agg #[.int .i64 5, .int .i64 0, .int .i64 1, .int .i64 1]) ∧ Below w.heap.size w w') := Lib.hid (fun w => start15_any 5 w)
  have CT : Hid (∀ w, Calls Try.prog 6 #[.agg #[.int .i64 5, .int .i64 0, .int .i64 1, .int .i64 1], .int .i64 3, .int .i64 100] w fun e w' => e = .returned (.agg #[.int .i64 6, .int .i64 100, .int .i64 1, .int .i64 1]) ∧ Below w.heap.size w w') := Lib.hid (fun w => by
    have h := take15_any ⟨5, 0, 1, 1⟩ 3 100 w ⟨by unfold i64R; decide, by unfold i64R; decide, by unfold i64R; decide, by unfold i64R; decide⟩
    rw [show takC ⟨5, 0, 1, 1⟩ 3 100 = ⟨6, 100, 1, 1⟩ by decide +kernel] at h
    exact h)
  have CA : Hid (∀ w, Calls Try.prog 12 #[.agg #[.int .i64 6, .int .i64 100, .int .i64 1, .int .i64 1]] w fun e w' => e = .returned (.int .u8 6) ∧ Below w.heap.size w w') := Lib.hid (fun w => ace15_any ⟨6, 100, 1, 1⟩ w (by unfold i64R; decide))
  go_enter Try.func10, Try.ntmps10
  go_wp2_with (first
    | (go_at_call 9; refine (CS.out _).mono ?_; rintro e w1 ⟨rfl, B1⟩)
    | (go_at_call 6; refine (CT.out _).mono ?_; rintro e w2 ⟨rfl, B2⟩)
    | (go_at_call 12; refine (CA.out _).mono ?_; rintro e w3 ⟨rfl, B3⟩))
  go_ret
  exact ⟨rfl, new_then (new_alloc (new_then B1 B2) _) B3⟩

/-- How far a count rose by i packets of b bytes, of which m came marked and a able. -/
structure Rose (c d : Cn) (b : Int) (i m a : Nat) (P p q : Int) : Prop where
  cep : d.cep = c.cep + m
  ceb : d.ceb = c.ceb + P
  e0 : d.e0 = c.e0 + p
  e1 : d.e1 = c.e1 + q
  mark : P = m * b
  able : P + p + q = a * b
  lo : 0 ≤ P ∧ 0 ≤ p ∧ 0 ≤ q
  hi : P + p + q ≤ i * 65536
  few : m ≤ i ∧ a ≤ i
def smR (x : Int) : Prop := -2147483648 ≤ x ∧ x ≤ 2147483647
def isAb (k : Int) : Bool := decide (1 ≤ k) && decide (k ≤ 3)
def isMk (k : Int) : Bool := k == 3
theorem rose_more {c d : Cn} {b k : Int} {i m a : Nat} {P p q : Int} (h : Rose c d b i m a P p q) (hc : smR c.cep ∧ smR c.ceb ∧ smR c.e0 ∧ smR c.e1) (hb : 0 ≤ b ∧ b ≤ 65535) (hi : i ≤ 60) :
    ∃ P p q, Rose c (takC d k b) b (i + 1) (if isMk k then m + 1 else m) (if isAb k then a + 1 else a) P p q := by
  obtain ⟨h1, h2, h3, h4, h5, h6, h7, h8, h9⟩ := h
  unfold smR at hc
  have hz : szC b = b := by unfold szC clampI; rw [if_neg (by omega), if_neg (by omega)]
  have s1 : sat64 (d.cep + 1) = d.cep + 1 := sat64_mid _ (by omega) (by omega)
  have s2 : sat64 (d.ceb + b) = d.ceb + b := sat64_mid _ (by omega) (by omega)
  have s3 : sat64 (d.e0 + b) = d.e0 + b := sat64_mid _ (by omega) (by omega)
  have s4 : sat64 (d.e1 + b) = d.e1 + b := sat64_mid _ (by omega) (by omega)
  have am : ((a + 1 : Nat) : Int) * b = a * b + b := by rw [Int.natCast_add, Int.add_mul]; omega
  have mm : ((m + 1 : Nat) : Int) * b = m * b + b := by rw [Int.natCast_add, Int.add_mul]; omega
  unfold takC
  rw [hz, s1, s2, s3, s4]
  by_cases k3 : k = 3
  · subst k3
    rw [if_pos rfl, show isMk 3 = true from rfl, show isAb 3 = true from rfl, if_pos rfl, if_pos rfl]
    exact ⟨P + b, p, q, by simp only; omega, by simp only; omega, h3, h4, by omega, by omega, by omega, by omega, by omega⟩
  · rw [if_neg k3, show isMk k = false by simp [isMk, k3]]
    by_cases k2 : k = 2
    · subst k2
      rw [if_pos rfl, show isAb 2 = true from rfl, if_neg (by decide), if_pos rfl]
      exact ⟨P, p + b, q, h1, h2, by simp only; omega, h4, h5, by omega, by omega, by omega, by omega⟩
    · rw [if_neg k2]
      by_cases k1 : k = 1
      · subst k1
        rw [if_pos rfl, show isAb 1 = true from rfl, if_neg (by decide), if_pos rfl]
        exact ⟨P, p, q + b, h1, h2, h3, by simp only; omega, h5, by omega, by omega, by omega, by omega⟩
      · rw [if_neg k1, show isAb k = false by simp [isAb]; omega, if_neg (by decide), if_neg (by decide)]
        exact ⟨P, p, q, h1, h2, h3, h4, h5, h6, h7, by omega, by omega⟩
def mkN (ks : List Int) (i : Nat) : Nat := (ks.take i).countP isMk
def abN (ks : List Int) (i : Nat) : Nat := (ks.take i).countP isAb
theorem mkN_more {ks : List Int} {i : Nat} (h : i < ks.length) : mkN ks (i + 1) = if isMk (bF ks i) then mkN ks i + 1 else mkN ks i := by
  rw [mkN, List.take_add_one, List.getElem?_eq_getElem h, List.countP_append, bF, List.getElem?_eq_getElem h, mkN]
  simp [List.countP_cons, List.countP_nil]
  split <;> rfl
theorem abN_more {ks : List Int} {i : Nat} (h : i < ks.length) : abN ks (i + 1) = if isAb (bF ks i) then abN ks i + 1 else abN ks i := by
  rw [abN, List.take_add_one, List.getElem?_eq_getElem h, List.countP_append, bF, List.getElem?_eq_getElem h, abN]
  simp [List.countP_cons, List.countP_nil]
  split <;> rfl
theorem rose_all {c : Cn} {b : Int} (ks : List Int) (hc : smR c.cep ∧ smR c.ceb ∧ smR c.e0 ∧ smR c.e1) (hb : 0 ≤ b ∧ b ≤ 65535) : ∀ i, i ≤ ks.length → i ≤ 60 → ∃ P p q, Rose c (allC c b (ks.take i)) b i (mkN ks i) (abN ks i) P p q
  | 0, _, _ => ⟨0, 0, 0, by rw [allC_nil]; exact ⟨by simp [mkN], by omega, by omega, by omega, by simp [mkN], by simp [abN], by omega, by omega, by simp [mkN, abN]⟩⟩
  | i + 1, h, h' => by
    obtain ⟨P, p, q, R⟩ := rose_all ks hc hb i (by omega) (by omega)
    rw [allC_snoc c b ks (by omega), mkN_more (by omega), abN_more (by omega)]
    exact rose_more R hc hb (by omega)
end Go.Proofs.Ytdibhpiafipibaa
