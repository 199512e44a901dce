/- Plain facts on the codes behind the places of a way, and on their names joined. -/
import Derived.Test.YtfibjimahkpabaaDoorEcnB
import Derived.Lib.Join
namespace Go.Proofs.YtfibjimahkpabaaDoor
open Go.WideShapes Go.RowKit

theorem markC_twice (c : Int) : markC (markC c) = markC c := by
  unfold markC
  by_cases h : ableC c = true
  · rw [if_pos h]; rfl
  · rw [if_neg h, if_neg h]
/-- The code behind the first k places. -/
def codeAt (c : Int) (ms : List Bool) (k : Nat) : Int := if (ms.take k).any id then markC c else c
/-- The codes behind the first n places, one each. -/
def pathC (c : Int) (ms : List Bool) (n : Nat) : List Int := (List.range n).map fun i => codeAt c ms (i + 1)
theorem pathC_len (c : Int) (ms : List Bool) (n : Nat) : (pathC c ms n).length = n := by simp [pathC]
theorem pathC_succ (c : Int) (ms : List Bool) (n : Nat) : pathC c ms (n + 1) = pathC c ms n ++ [codeAt c ms (n + 1)] := by
  unfold pathC; rw [List.range_succ, List.map_append]; rfl
theorem pathC_at (c : Int) (ms : List Bool) {n i : Nat} (h : i < n) : (pathC c ms n)[i]?.getD 0 = codeAt c ms (i + 1) := by
  unfold pathC; simp [h]
theorem pathC_set (c : Int) (ms : List Bool) (n k : Nat) (h : k < n) : (pathC c ms k ++ List.replicate (n - k) 0).set k (codeAt c ms (k + 1)) = pathC c ms (k + 1) ++ List.replicate (n - (k + 1)) 0 := by
  rw [List.set_append, if_neg (by rw [pathC_len]; omega), pathC_len, Nat.sub_self, pathC_succ, show n - k = (n - (k + 1)) + 1 by omega, List.replicate_succ]
  simp
theorem codeAt_zero (c : Int) (ms : List Bool) : codeAt c ms 0 = c := by simp [codeAt]
theorem any_succ {ms : List Bool} {k : Nat} (h : k < ms.length) : (ms.take (k + 1)).any id = ((ms.take k).any id || ms[k]?.getD false) := by
  rw [List.take_succ_eq_append_getElem h, List.any_append, List.getElem?_eq_getElem h]; simp
theorem codeAt_yes {c : Int} {ms : List Bool} {k : Nat} (h : k < ms.length) (hm : ms[k]?.getD false = true) : codeAt c ms (k + 1) = markC (codeAt c ms k) := by
  unfold codeAt
  rw [any_succ h, hm, Bool.or_true, if_pos rfl]
  split
  · rw [markC_twice]
  · rfl
theorem codeAt_no {c : Int} {ms : List Bool} {k : Nat} (h : k < ms.length) (hm : ms[k]?.getD false = false) : codeAt c ms (k + 1) = codeAt c ms k := by
  unfold codeAt
  rw [any_succ h, hm, Bool.or_false]
theorem codeAt_bd {c : Int} {ms : List Bool} {k : Nat} (h : -9223372036854775808 ≤ c ∧ c ≤ 9223372036854775807) : -9223372036854775808 ≤ codeAt c ms k ∧ codeAt c ms k ≤ 9223372036854775807 := by
  unfold codeAt; split
  · exact markC_bd h
  · exact h
/-- A code may become what it is behind any place. -/
theorem legal_path {c : Int} {ms : List Bool} {k : Nat} (h : isC c = true) : legalC c (codeAt c ms k) = true := by
  have hk : c = 0 ∨ c = 1 ∨ c = 2 ∨ c = 3 := by simp [isC] at h; omega
  unfold codeAt
  rcases hk with rfl | rfl | rfl | rfl <;> split <;> decide

/-- What is told of a code: its name, or a question mark. -/
def nmC (c : Int) : ByteArray := if isC c then nameC c else ⟨#[63]⟩
theorem nmC_size (c : Int) : (nmC c).data.toList.length ≤ 4 := by
  unfold nmC
  split
  · next h =>
    have hk : c = 0 ∨ c = 1 ∨ c = 2 ∨ c = 3 := by simp [isC] at h; omega
    rcases hk with rfl | rfl | rfl | rfl <;> decide
  · decide
theorem nameC_some {c : Int} (h : isC c = true) : ¬ nameC c = ⟨#[]⟩ := by
  have hk : c = 0 ∨ c = 1 ∨ c = 2 ∨ c = 3 := by simp [isC] at h; omega
  rcases hk with rfl | rfl | rfl | rfl <;> decide
/-- The names of codes, with '-' between. -/
def nmsC (l : List Int) : ByteArray := ⟨(Lib.join ((l.map nmC).map (·.data.toList)) [45]).toArray⟩
theorem nms_len (l : List Int) : (Lib.join ((l.map nmC).map (·.data.toList)) [45]).length ≤ 5 * l.length := by
  cases l with
  | nil => simp [Lib.join_nil]
  | cons x r =>
    simp only [List.map_cons]
    rw [Lib.join_length]
    have h1 : ∀ l : List Int, Lib.lens ((l.map nmC).map (·.data.toList)) ≤ 4 * l.length := by
      intro l
      induction l with
      | nil => simp [Lib.lens]
      | cons y t ih =>
        simp only [Lib.lens, List.map_cons, List.sum_cons, List.length_cons] at ih ⊢
        have := nmC_size y
        omega
    have h2 := h1 (x :: r)
    simp only [List.map_cons] at h2
    simp only [List.length_map, List.length_cons, List.length_nil] at *
    omega
theorem nmsC_size (l : List Int) : (nmsC l).size ≤ 5 * l.length := by
  have := nms_len l
  unfold nmsC
  simpa [ByteArray.size] using this
theorem nmsC_one (x : Int) : nmsC [x] = nmC x := by
  unfold nmsC
  rw [List.map_cons, List.map_nil, List.map_cons, List.map_nil, Lib.join_one, Lib.mk_data]
theorem nmsC_take {l : List Int} {k : Nat} {x : Int} (h : l[k + 1]? = some x) : nmsC (l.take (k + 2)) = nmsC (l.take (k + 1)) ++ ⟨#[45]⟩ ++ nmC x := by
  cases l with
  | nil => simp at h
  | cons y r =>
    have h' : r[k]? = some x := by simpa using h
    have hr : ((r.map nmC).map (·.data.toList))[k]? = some (nmC x).data.toList := by simp [h']
    apply bytes_inj
    unfold nmsC
    simp only [List.take_succ_cons, List.map_cons]
    have e : (r.take (k + 1)).map nmC = (r.map nmC).take (k + 1) := by rw [List.map_take]
    have e' : (r.take k).map nmC = (r.map nmC).take k := by rw [List.map_take]
    rw [Lib.join_cons, e, List.map_take, Lib.joinTail_take_succ _ _ _ _ hr, Lib.join_cons, e', List.map_take]
    simp [List.append_assoc]
end Go.Proofs.YtfibjimahkpabaaDoor
