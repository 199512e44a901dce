/- Package option: check, put. -/
import Derived.Test.YtdibhpiafipibaaOptF
import Derived.Test.YtdibhpiafipibaaFlgA
namespace Go.Proofs.Ytdibhpiafipibaa
open Go.RowKit
set_option linter.unusedVariables false

/-- As many bytes, but not more than one too many. -/
def mnO (many : Nat) : Int := if many ≤ 41 then (many : Int) else 41
theorem mn_bd (many : Nat) : 0 ≤ mnO many ∧ mnO many ≤ 41 := by unfold mnO; split <;> omega
theorem mn_lt {many l : Nat} (h : mnO many + (l : Int) < 41) : mnO many + (l : Int) = mnO (many + l) := by unfold mnO at *; split at h <;> split <;> omega
theorem mn_eq {many l : Nat} (h : mnO many + (l : Int) = 41) : 41 = mnO (many + l) := by unfold mnO at *; split at h <;> split <;> omega
theorem mn_gt {many l : Nat} (h : 41 < mnO many + (l : Int)) : 41 = mnO (many + l) := by unfold mnO at *; split at h <;> split <;> omega
theorem chk_step {os : List Opt} {i many : Nat} (h : i < os.length) : chkO (os.take i) (os.drop i) many = if fineO os[i] = true then (if hadO (os.take i) os[i].k = true then 5 else chkO (os.take (i + 1)) (os.drop (i + 1)) (many + lenO os[i])) else 2 := by
  rw [List.drop_eq_getElem_cons h, chkO, List.take_succ_eq_append_getElem h]
theorem chk_nth {xs : List OC} {i n many : Nat} (hn : xs.length = n) (h : i < n) : chkO ((xs.map OC.o).take i) ((xs.map OC.o).drop i) many = if fineO (nthO xs i).o = true then (if hadO ((xs.map OC.o).take i) (nthO xs i).o.k = true then 5 else chkO ((xs.map OC.o).take (i + 1)) ((xs.map OC.o).drop (i + 1)) (many + lenO (nthO xs i).o)) else 2 := by
  rw [chk_step (by simp; omega), map_oc (by omega)]
theorem chk_end {os : List Opt} {i many : Nat} (h : os.length = i) : chkO (os.take i) (os.drop i) many = if 40 < many then 4 else 0 := by
  rw [List.drop_of_length_le (by omega), chkO]
theorem ks_nth {xs : List OC} {ks : List Int} {i n : Nat} (hn : xs.length = n) (hi : i < n) (h : KsOf ((xs.map OC.o).take i) ks) : KsOf ((xs.map OC.o).take (i + 1)) (addO ks (nthO xs i).o.k) := by
  rw [List.take_succ_eq_append_getElem (by simp; omega), map_oc (by omega)]
  exact ks_more h _
/-- The closure writes nothing but its own. -/
theorem was_below {w w' : World} {base : Nat} (o : Out (WasF w base) w w') (hb : base ≤ w.heap.size) : Below base w w' := o.below hb (fun k h => h.1)
theorem was_apart {w : World} {base g : Nat} (h : TyAt w g 32) : ¬ WasF w base g := by
  rintro ⟨_, t | t⟩
  · exact absurd (ty_one t h) (by decide)
  · exact absurd (ty_one t h) (by decide)
theorem was_apartN {w : World} {base g : Nat} (h : TyAt w g 46) : ¬ WasF w base g := by
  rintro ⟨_, t | t⟩
  · exact absurd (ty_one t h) (by decide)
  · exact absurd (ty_one t h) (by decide)
def ChkI (w : World) (xs : List OC) (T : Int) (n gh : Nat) (vs vi : Value) (wr : World) : Prop :=
  ∃ (i many : Nat) (ks : List Int), vi = .int .i64 (i : Int) ∧ n - i = gh ∧ i ≤ n ∧ vs = .int .i64 (mnO many) ∧ WasAt wr w.heap.size w.heap.size ks ∧ KsOf ((xs.map OC.o).take i) ks ∧ chkO ((xs.map OC.o).take i) ((xs.map OC.o).drop i) many = T ∧ Below w.heap.size w wr
theorem len_few {w : World} {x : OC} (hx : HasO w x) : lenO x.o ≤ 502 := by
  have h1 : szO x.o.k * x.o.zs.length ≤ 4 * 100 := Nat.mul_le_mul (sz_four _) (by rw [hx.len]; exact hx.few)
  have h2 := hx.txt
  unfold lenO; omega
end Go.Proofs.Ytdibhpiafipibaa
