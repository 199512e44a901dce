/- Package option: Print. -/
import Derived.Test.YtdibhpiafipibaaOptH
namespace Go.Proofs.Ytdibhpiafipibaa
open Go.RowKit
set_option linter.unusedVariables false

/-- What is printed. -/
def prO (os : List Opt) : List Int := if chkO [] os 0 = 0 then padO (allO os) else []
theorem allO_cons (o : Opt) (os : List Opt) : allO (o :: os) = bytO o ++ allO os := rfl
theorem chk_ok : ∀ (os pre : List Opt) (many : Nat), chkO pre os many = 0 → (∀ o ∈ os, fineO o = true) ∧ many + (allO os).length ≤ 40
  | [], pre, many, h => by
    rw [chkO] at h
    refine ⟨fun o ho => (by cases ho), ?_⟩
    split at h
    · cases h
    · simp [allO]; omega
  | o :: os, pre, many, h => by
    rw [chkO] at h
    split at h
    · split at h
      · cases h
      · obtain ⟨h1, h2⟩ := chk_ok os _ _ h
        refine ⟨fun o' ho => ?_, ?_⟩
        · rcases List.mem_cons.1 ho with rfl | ho
          · assumption
          · exact h1 o' ho
        · rw [allO_cons, List.length_append, bytO_len]; omega
    · cases h
theorem fine_kind {o : Opt} (h : fineO o = true) : 2 ≤ o.k ∧ o.k ≤ 255 := by
  simp only [fineO, Bool.and_eq_true, decide_eq_true_eq] at h
  exact h.1
theorem all_len12 {os : List Opt} {i : Nat} (h : i < os.length) : lenO os[i] ≤ (allO os).length := by
  have e : os = os.take i ++ os[i] :: os.drop (i + 1) := by rw [← List.drop_eq_getElem_cons h, List.take_append_drop]
  have : (allO os).length = (allO (os.take i)).length + (lenO os[i] + (allO (os.drop (i + 1))).length) := by
    conv => lhs; rw [e]
    rw [allO, List.flatMap_append, List.length_append, List.flatMap_cons, List.length_append, bytO_len]; rfl
  omega
theorem all_part (os : List Opt) (i : Nat) : (allO (os.take i)).length ≤ (allO os).length := by
  have e : allO os = allO (os.take i) ++ allO (os.drop i) := by rw [allO, allO, allO, ← List.flatMap_append, List.take_append_drop]
  rw [e, List.length_append]; omega
theorem all_nth {xs : List OC} {i n : Nat} (hn : xs.length = n) (h : i < n) : allO ((xs.map OC.o).take (i + 1)) = allO ((xs.map OC.o).take i) ++ bytO (nthO xs i).o := by
  rw [allO_take (by simp; omega), map_oc (by omega)]
/-- A printed answer: the bytes, and what is wrong. -/
def PrnTo (w : World) (os : List Opt) (e : Ending) (w' : World) : Prop :=
  ∃ A n c, e = .returned (.tuple #[.slice A n c, .int .i64 (chkO [] os 0)]) ∧ OwnB w' w.heap.size (.slice A n c) (prO os) ∧ Below w.heap.size w w'
theorem own_form12 {w : World} {base : Nat} {v : Value} {zs : List Int} (h : OwnB w base v zs) : ∃ A n c, v = .slice A n c ∧ zs.length = n := by
  rcases h.form with ⟨rfl, rfl⟩ | ⟨g, c, rfl⟩
  · exact ⟨_, _, _, rfl, rfl⟩
  · exact ⟨_, _, _, rfl, rfl⟩
def PrnI (w : World) (os : List Opt) (n gh : Nat) (vo vi : Value) (wr : World) : Prop :=
  ∃ i : Nat, vi = .int .i64 (i : Int) ∧ n - i = gh ∧ i ≤ n ∧ OwnB wr w.heap.size vo (allO (os.take i)) ∧ Below w.heap.size w wr
def PadI (w : World) (bs : List Int) (gh : Nat) (vo : Value) (wr : World) : Prop :=
  ∃ m : Nat, (4 - bs.length % 4) % 4 - m = gh ∧ m ≤ (4 - bs.length % 4) % 4 ∧ OwnB wr w.heap.size vo (bs ++ List.replicate m 0) ∧ Below w.heap.size w wr
theorem pad_more (bs : List Int) (m : Nat) : bs ++ List.replicate (m + 1) 0 = bs ++ List.replicate m 0 ++ [0] := by rw [List.replicate_succ', List.append_assoc]
end Go.Proofs.Ytdibhpiafipibaa
