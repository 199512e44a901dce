/- Package option: how many bytes an option has; whether a kind was there (again, and what it hands out). The document's All, Had. -/
import Derived.Test.YtdibhpiafipibaaOptB
namespace Go.Proofs.Ytdibhpiafipibaa
open Go.RowKit
set_option linter.unusedVariables false

def AllI (w : World) (A B : Option Addr) (n : Nat) (xs ys : List OC) (gh : Nat) (vi : Value) (wr : World) : Prop :=
  ∃ k : Nat, vi = .int .i64 (k : Int) ∧ n - k = gh ∧ k ≤ n ∧ OptsAt wr A n xs ∧ OptsAt wr B n ys ∧ Below w.heap.size w wr
theorem map_nth {xs ys : List OC} {n k : Nat} (h : xs.map OC.o = ys.map OC.o) (hx : xs.length = n) (hy : ys.length = n) (hk : k < n) : (nthO xs k).o = (nthO ys k).o := by
  have h1 : (xs.map OC.o)[k]? = (ys.map OC.o)[k]? := by rw [h]
  rw [List.getElem?_map, List.getElem?_map, List.getElem?_eq_getElem (by omega), List.getElem?_eq_getElem (by omega)] at h1
  rw [nthO_eq (by omega), nthO_eq (by omega)]
  simpa using h1

theorem had_step (l : List Opt) (k : Int) (i : Nat) (h : i < l.length) : hadO (l.take (i + 1)) k = (hadO (l.take i) k || (knO k && (l[i].k == k))) := by
  rw [List.take_succ_eq_append_getElem h, hadO, hadO, List.any_append]
  cases knO k <;> simp
theorem had_more {l : List Opt} {k : Int} {i : Nat} (h : hadO (l.take i) k = true) : hadO l k = true := by
  simp only [hadO, Bool.and_eq_true, List.any_eq_true] at h ⊢
  obtain ⟨h0, x, hx, h1⟩ := h
  exact ⟨h0, x, List.mem_of_mem_take hx, h1⟩
theorem map_oc {xs : List OC} {i : Nat} (h : i < xs.length) : (xs.map OC.o)[i]'(by simpa using h) = (nthO xs i).o := by rw [nthO_eq h]; simp
theorem had_nth {xs : List OC} {k : Int} {i n : Nat} (hn : xs.length = n) (h : i < n) : hadO ((xs.map OC.o).take (i + 1)) k = (hadO ((xs.map OC.o).take i) k || (knO k && ((nthO xs i).o.k == k))) := by
  rw [had_step _ _ _ (by simp; omega), map_oc (by omega)]
def HadI (w : World) (xs : List OC) (k : Int) (n gh : Nat) (vi : Value) (wr : World) : Prop := ∃ i : Nat, vi = .int .i64 (i : Int) ∧ n - i = gh ∧ i ≤ n ∧ hadO ((xs.map OC.o).take i) k = false ∧ w = wr

/-- Kinds one behind the other. -/
theorem elI12 : IsElem .i64 24 3 8 := ⟨by kernel_rfl, by kernel_rfl, by decide⟩
abbrev OwnI12 (w : World) (base : Nat) (v : Value) (ks : List Int) : Prop := OwnK .i64 3 w base v ks
def IdxO (w : World) (k : Int) (ks : List Int) (n gh : Nat) (vi : Value) (wr : World) : Prop := ∃ i : Nat, vi = .int .i64 (i : Int) ∧ n - i = gh ∧ i ≤ n ∧ (ks.take i).any (fun x => x == k) = false ∧ w = wr
theorem any_step {ks : List Int} {k : Int} {i : Nat} (h : i < ks.length) : (ks.take (i + 1)).any (fun x => x == k) = ((ks.take i).any (fun x => x == k) || (bF ks i == k)) := by
  rw [List.take_succ_eq_append_getElem h, List.any_append, bF, List.getElem?_eq_getElem h]; simp
theorem any_more {ks : List Int} {k : Int} {i : Nat} (h : (ks.take i).any (fun x => x == k) = true) : ks.any (fun x => x == k) = true := by
  simp only [List.any_eq_true] at h ⊢
  obtain ⟨x, hx, h1⟩ := h
  exact ⟨x, List.mem_of_mem_take hx, h1⟩
/-- Where a number stands first: below 0, if nowhere. -/
def IndexTo (w : World) (k : Int) (ks : List Int) (e : Ending) (w' : World) : Prop := ∃ r : Int, e = .returned (.int .i64 r) ∧ decide (0 ≤ r) = ks.any (fun x => x == k) ∧ w = w'
end Go.Proofs.Ytdibhpiafipibaa
