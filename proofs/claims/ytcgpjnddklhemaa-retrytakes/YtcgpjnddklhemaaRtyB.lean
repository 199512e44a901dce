/- The document's own Take of layer 28; states compared; the chapter's example. -/
import Derived.Test.YtcgpjnddklhemaaRtyA
namespace Go.Proofs.Ytcgpjnddklhemaa
open Go.ChangeShapes Go.WideShapes Go.ChangeAt Go.RowKit
set_option linter.unusedVariables false

set_option maxHeartbeats 4000000 in
theorem take28R_any (a d p : Int) (i : Bool) (u s : Int) (D : Ry) (x : Int) (w : World) (h : RyIs ⟨a, d, p, i⟩ u s D x) : Calls Try.prog 6 #[.agg #[.int .i64 a, .int .i64 d, .int .i64 p, .bool i], .int .i64 u, .int .i64 s] w (RyWas w D x) := by
  unfold RyIs at h
  unfold RyWas
  dsimp only at h
  rcases h with ⟨h, k⟩ | ⟨rfl, h2, k⟩ | ⟨rfl, h2, rfl, rfl⟩ | ⟨h, rfl, rfl⟩
  · have h1 : (u == a) = false := by simp; omega
    have h2 : decide (u < a) = false := decide_eq_false (by omega)
    have h3 : ¬ u < a := by omega
    clear h
    rcases k with ⟨rfl, rfl, rfl⟩ | ⟨rfl, h, rfl, rfl⟩ | ⟨rfl, h, rfl, rfl⟩
    · go_enter Try.func6, Try.ntmps6
      go_wp2_with fail
      exact bodyPost_ret (v := .tuple #[.agg #[.int .i64 u, .int .i64 0, .int .i64 p, .bool false], .int .i64 1]) (by simp [results, Try.results6, go_sem]) rfl ⟨rfl, new_alloc (new_alloc (new_refl w) _) _⟩
    · have h4 : decide (p ≤ u) = false := decide_eq_false (by omega)
      have h5 : ¬ p ≤ u := by omega
      clear h
      go_enter Try.func6, Try.ntmps6
      go_wp2_with fail
      exact bodyPost_ret (v := .tuple #[.agg #[.int .i64 u, .int .i64 0, .int .i64 p, .bool true], .int .i64 3]) (by simp [results, Try.results6, go_sem]) rfl ⟨rfl, new_alloc (new_alloc (new_refl w) _) _⟩
    · have h4 : decide (p ≤ u) = true := decide_eq_true (by omega)
      have h5 : p ≤ u := by omega
      clear h
      go_enter Try.func6, Try.ntmps6
      go_wp2_with fail
      exact bodyPost_ret (v := .tuple #[.agg #[.int .i64 u, .int .i64 0, .int .i64 p, .bool false], .int .i64 4]) (by simp [results, Try.results6, go_sem]) rfl ⟨rfl, new_alloc (new_alloc (new_refl w) _) _⟩
  · have h4 : decide (s ≤ u) = false := decide_eq_false (by omega)
    have h5 : ¬ s ≤ u := by omega
    clear h2
    by_cases hl : d < 0
    · rcases k with ⟨k, rfl, rfl, rfl⟩ | ⟨k, rfl, rfl⟩ | ⟨k, rfl, rfl, rfl⟩
      · rw [ryD_low hl] at k; omega
      · rw [ryD_low hl]
        clear k
        go_enter Try.func6, Try.ntmps6
        go_wp2_with fail
        exact bodyPost_ret (v := .tuple #[.agg #[.int .i64 u, .int .i64 1, .int .i64 p, .bool i], .int .i64 0]) (by simp [results, Try.results6, go_sem]) rfl ⟨rfl, new_alloc (new_alloc (new_refl w) _) _⟩
      · rw [ryD_low hl] at k; omega
    · by_cases hh : 999 < d
      · rcases k with ⟨k, rfl, rfl, rfl⟩ | ⟨k, rfl, rfl⟩ | ⟨k, rfl, rfl, rfl⟩
        · rw [ryD_high hh] at k; omega
        · rw [ryD_high hh]
          clear k
          go_enter Try.func6, Try.ntmps6
          go_wp2_with fail
          exact bodyPost_ret (v := .tuple #[.agg #[.int .i64 u, .int .i64 1000, .int .i64 p, .bool i], .int .i64 0]) (by simp [results, Try.results6, go_sem]) rfl ⟨rfl, new_alloc (new_alloc (new_refl w) _) _⟩
        · rw [ryD_high hh] at k; omega
      · have hm := ryD_mid hl hh
        rw [RyRep, hm] at k
        clear hm
        rcases k with ⟨k, rfl, rfl, rfl⟩ | ⟨k, rfl, rfl⟩ | ⟨k, rfl, rfl, rfl⟩
        · obtain rfl : d = 2 := by omega
          clear k hl hh
          go_enter Try.func6, Try.ntmps6
          go_wp2_with fail
          exact bodyPost_ret (v := .tuple #[.agg #[.int .i64 u, .int .i64 3, .int .i64 s, .bool true], .int .i64 2]) (by simp [results, Try.results6, go_sem]) rfl ⟨rfl, new_alloc (new_alloc (new_refl w) _) _⟩
        · have wk : IntKind.i64.wrap (d + 1) = d + 1 := by rw [IntKind.wrap_i64]; omega
          have wk2 : wrap64 (d + 1) = d + 1 := by unfold wrap64; omega
          obtain ⟨M, hM⟩ : ∃ M, d + 1 = M := ⟨_, rfl⟩
          rw [hM] at wk wk2 k ⊢
          have h1 : (M == 3) = false := by simp [k]
          have h2 : (M != 3) = true := by simp [k]
          go_enter Try.func6, Try.ntmps6
          go_wp2_with fail
          exact bodyPost_ret (v := .tuple #[.agg #[.int .i64 u, .int .i64 M, .int .i64 p, .bool i], .int .i64 0]) (by simp [results, Try.results6, go_sem]) rfl ⟨rfl, new_alloc (new_alloc (new_refl w) _) _⟩
        · obtain rfl : d = 2 := by omega
          clear k hl hh
          go_enter Try.func6, Try.ntmps6
          go_wp2_with fail
          exact bodyPost_ret (v := .tuple #[.agg #[.int .i64 u, .int .i64 3, .int .i64 p, .bool true], .int .i64 0]) (by simp [results, Try.results6, go_sem]) rfl ⟨rfl, new_alloc (new_alloc (new_refl w) _) _⟩
  · have h4 : decide (s ≤ u) = true := decide_eq_true (by omega)
    have h5 : s ≤ u := by omega
    clear h2
    go_enter Try.func6, Try.ntmps6
    go_wp2_with fail
    exact bodyPost_ret (v := .tuple #[.agg #[.int .i64 u, .int .i64 d, .int .i64 p, .bool i], .int .i64 0]) (by simp [results, Try.results6, go_sem]) rfl ⟨rfl, new_alloc (new_alloc (new_refl w) _) _⟩
  · go_enter Try.func6, Try.ntmps6
    go_wp2_with fail
    exact bodyPost_ret (v := .tuple #[.agg #[.int .i64 a, .int .i64 d, .int .i64 p, .bool i], .int .i64 0]) (by simp [results, Try.results6, go_sem]) rfl ⟨rfl, new_alloc (new_alloc (new_refl w) _) _⟩

theorem eqlY4 (c : Ry) (w : World) : (binOp .eql 23 (ryG c) (ryG c)).run Try.prog w = .ok (.bool true) w := by
  unfold ryG
  rw [run_eql_struct, show (10000 : Nat) = 9999 + 1 from rfl, run_equalIn_agg w 9999 _ _ _ (by kernel_rfl) (by kernel_rfl)]
  simp only [Program.fieldsOf, Try.underlying23]
  go_simp
end Go.Proofs.Ytcgpjnddklhemaa
