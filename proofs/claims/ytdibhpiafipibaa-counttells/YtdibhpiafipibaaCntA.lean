/- Package count: a count, one packet, many packets; the bits and fields that tell it. The document's own answers. -/
import Derived.Test.YtdibhpiafipibaaOptQ
import Derived.Test.YtdibhpiafipibaaSatE
import Derived.Test.YtdibhpiafipibaaRowL
import Derived.Laws.StructEq
import Derived.Deep.DeepCutAuto
namespace Go.Proofs.Ytdibhpiafipibaa
open Go.RowKit
set_option linter.unusedVariables false

/-- A count's four numbers. -/
structure Cn where
  cep : Int
  ceb : Int
  e0 : Int
  e1 : Int
deriving DecidableEq
def i64R (x : Int) : Prop := -9223372036854775808 ≤ x ∧ x ≤ 9223372036854775807
theorem i64_sat (x : Int) : i64R (sat64 x) := sat64_bd x
structure CnOk (c : Cn) : Prop where
  cep : i64R c.cep
  ceb : i64R c.ceb
  e0 : i64R c.e0
  e1 : i64R c.e1
/-- As how many bytes a size counts. -/
def szC (b : Int) : Int := clampI b 0 65536
theorem szC_bd (b : Int) : 0 ≤ szC b ∧ szC b ≤ 65536 := by unfold szC clampI; split <;> (try split) <;> omega
/-- A count behind a packet. -/
def takC (c : Cn) (k b : Int) : Cn :=
  if k = 3 then ⟨sat64 (c.cep + 1), sat64 (c.ceb + szC b), c.e0, c.e1⟩ else if k = 2 then ⟨c.cep, c.ceb, sat64 (c.e0 + szC b), c.e1⟩ else if k = 1 then ⟨c.cep, c.ceb, c.e0, sat64 (c.e1 + szC b)⟩ else c
theorem takC_ok {c : Cn} (h : CnOk c) (k b : Int) : CnOk (takC c k b) := by
  unfold takC
  split
  · exact ⟨i64_sat _, i64_sat _, h.e0, h.e1⟩
  · split
    · exact ⟨h.cep, h.ceb, i64_sat _, h.e1⟩
    · split
      · exact ⟨h.cep, h.ceb, h.e0, i64_sat _⟩
      · exact h
def allC (c : Cn) (b : Int) (ks : List Int) : Cn := ks.foldl (fun c k => takC c k b) c
theorem allC_ok {c : Cn} (h : CnOk c) (b : Int) (ks : List Int) : CnOk (allC c b ks) := by
  induction ks generalizing c with
  | nil => exact h
  | cons k ks ih => exact ih (takC_ok h k b)
theorem allC_snoc (c : Cn) (b : Int) (ks : List Int) {i : Nat} (h : i < ks.length) : allC c b (ks.take (i + 1)) = takC (allC c b (ks.take i)) (bF ks i) b := by
  rw [allC, List.take_add_one, List.getElem?_eq_getElem h, List.foldl_append, bF, List.getElem?_eq_getElem h]
  rfl
theorem allC_nil (c : Cn) (b : Int) (ks : List Int) : allC c b (ks.take 0) = c := by simp [allC]
def CntIs (w : World) (c : Cn) (e : Ending) (w' : World) : Prop := e = .returned (.agg #[.int .i64 c.cep, .int .i64 c.ceb, .int .i64 c.e0, .int .i64 c.e1]) ∧ Below w.heap.size w w'

theorem take15_any (c : Cn) (k b : Int) (w : World) (ok : CnOk c) :
    Calls Try.prog 6 #[.agg #[.int .i64 c.cep, .int .i64 c.ceb, .int .i64 c.e0, .int .i64 c.e1], .int .i64 k, .int .i64 b] w (CntIs w (takC c k b)) := by
  have r1 := ok.cep; have r2 := ok.ceb; have r3 := ok.e0; have r4 := ok.e1
  have nb := szC_bd b
  unfold CntIs takC
  have CL : Hid (∀ w, Calls Try.prog 19 #[.int .i64 b, .int .i64 0, .int .i64 65536] w fun e w' => e = .returned (.int .i64 (szC b)) ∧ w = w') := Lib.hid (fun w => satClamp_any b 0 65536 w)
  generalize szC b = n at *
  unfold i64R at r1 r2 r3 r4
  have L := Lib.hid (new_alloc (new_alloc (new_refl w) (.cells #[.int .i64 c.cep, .int .i64 c.ceb, .int .i64 c.e0, .int .i64 c.e1] 23)) (.cells #[.int .i64 0, .int .i64 0, .int .i64 0, .int .i64 0] 23))
  by_cases h3 : k = 3
  · subst h3
    rw [if_pos rfl]
    go_enter Try.func6, Try.ntmps6
    go_wp2_with (first
      | (go_at_call 19; refine (CL.out _).mono ?_; rintro e w' ⟨rfl, rfl⟩)
      | (go_at_call 20; refine (satAdd_any _ _ _ (by omega) (by omega)).mono ?_; rintro e w' ⟨rfl, rfl⟩))
    exact bodyPost_ret (v := .agg #[.int .i64 (sat64 (c.cep + 1)), .int .i64 (sat64 (c.ceb + n)), .int .i64 c.e0, .int .i64 c.e1]) (by simp [results, Try.results6, go_sem]) rfl ⟨rfl, new_alloc (new_alloc (new_refl w) _) _⟩
  · rw [if_neg h3]
    by_cases h2 : k = 2
    · subst h2
      rw [if_pos rfl]
      go_enter Try.func6, Try.ntmps6
      go_wp2_with (first
        | (go_at_call 19; refine (CL.out _).mono ?_; rintro e w' ⟨rfl, rfl⟩)
        | (go_at_call 20; refine (satAdd_any _ _ _ (by omega) (by omega)).mono ?_; rintro e w' ⟨rfl, rfl⟩))
      exact bodyPost_ret (v := .agg #[.int .i64 c.cep, .int .i64 c.ceb, .int .i64 (sat64 (c.e0 + n)), .int .i64 c.e1]) (by simp [results, Try.results6, go_sem]) rfl ⟨rfl, new_alloc (new_alloc (new_refl w) _) _⟩
    · rw [if_neg h2]
      by_cases h1 : k = 1
      · subst h1
        rw [if_pos rfl]
        go_enter Try.func6, Try.ntmps6
        go_wp2_with (first
          | (go_at_call 19; refine (CL.out _).mono ?_; rintro e w' ⟨rfl, rfl⟩)
          | (go_at_call 20; refine (satAdd_any _ _ _ (by omega) (by omega)).mono ?_; rintro e w' ⟨rfl, rfl⟩))
        exact bodyPost_ret (v := .agg #[.int .i64 c.cep, .int .i64 c.ceb, .int .i64 c.e0, .int .i64 (sat64 (c.e1 + n))]) (by simp [results, Try.results6, go_sem]) rfl ⟨rfl, new_alloc (new_alloc (new_refl w) _) _⟩
      · rw [if_neg h1]
        go_enter Try.func6, Try.ntmps6
        go_wp2_with (first
          | (go_at_call 19; refine (CL.out _).mono ?_; rintro e w' ⟨rfl, rfl⟩)
          | (go_at_call 20; refine (satAdd_any _ _ _ (by omega) (by omega)).mono ?_; rintro e w' ⟨rfl, rfl⟩))
        exact bodyPost_ret (v := .agg #[.int .i64 c.cep, .int .i64 c.ceb, .int .i64 c.e0, .int .i64 c.e1]) (by simp [results, Try.results6, go_sem]) rfl ⟨rfl, new_alloc (new_alloc (new_refl w) _) _⟩

theorem refTake15_any (c : Cn) (k b : Int) (w : World) (ok : CnOk c) :
    Calls Try.prog 7 #[.agg #[.int .i64 c.cep, .int .i64 c.ceb, .int .i64 c.e0, .int .i64 c.e1], .int .i64 k, .int .i64 b] w (CntIs w (takC c k b)) := by
  have r1 := ok.cep; have r2 := ok.ceb; have r3 := ok.e0; have r4 := ok.e1
  have nb := szC_bd b
  have nh : (b < 0 ∧ szC b = 0) ∨ (0 ≤ b ∧ b ≤ 65536 ∧ szC b = b) ∨ (65536 < b ∧ szC b = 65536) := by unfold szC clampI; split <;> (try split) <;> omega
  have NH := Lib.hid nh
  clear nh
  unfold CntIs takC
  generalize szC b = n at *
  unfold i64R at r1 r2 r3 r4
  rcases NH.out with ⟨h, rfl⟩ | ⟨h, h', rfl⟩ | ⟨h, rfl⟩
  all_goals
    clear NH
    by_cases h3 : k = 3
    · subst h3
      rw [if_pos rfl]
      go_enter Try.func7, Try.ntmps7
      go_wp2_with (first
        | (go_at_call 21; refine (refAdd_any _ _ _ (by omega) (by omega)).mono ?_; rintro e w' ⟨rfl, rfl⟩))
      refine bodyPost_ret (v := .agg #[.int .i64 _, .int .i64 _, .int .i64 _, .int .i64 _]) (by simp [results, Try.results7, go_sem]) rfl ⟨rfl, new_alloc (new_alloc (new_refl w) _) _⟩
    · rw [if_neg h3]
      by_cases h2 : k = 2
      · subst h2
        rw [if_pos rfl]
        go_enter Try.func7, Try.ntmps7
        go_wp2_with (first
          | (go_at_call 21; refine (refAdd_any _ _ _ (by omega) (by omega)).mono ?_; rintro e w' ⟨rfl, rfl⟩))
        refine bodyPost_ret (v := .agg #[.int .i64 _, .int .i64 _, .int .i64 _, .int .i64 _]) (by simp [results, Try.results7, go_sem]) rfl ⟨rfl, new_alloc (new_alloc (new_refl w) _) _⟩
      · rw [if_neg h2]
        by_cases h1 : k = 1
        · subst h1
          rw [if_pos rfl]
          go_enter Try.func7, Try.ntmps7
          go_wp2_with (first
            | (go_at_call 21; refine (refAdd_any _ _ _ (by omega) (by omega)).mono ?_; rintro e w' ⟨rfl, rfl⟩))
          refine bodyPost_ret (v := .agg #[.int .i64 _, .int .i64 _, .int .i64 _, .int .i64 _]) (by simp [results, Try.results7, go_sem]) rfl ⟨rfl, new_alloc (new_alloc (new_refl w) _) _⟩
        · rw [if_neg h1]
          go_enter Try.func7, Try.ntmps7
          go_wp2_with (first
            | (go_at_call 21; refine (refAdd_any _ _ _ (by omega) (by omega)).mono ?_; rintro e w' ⟨rfl, rfl⟩))
          refine bodyPost_ret (v := .agg #[.int .i64 _, .int .i64 _, .int .i64 _, .int .i64 _]) (by simp [results, Try.results7, go_sem]) rfl ⟨rfl, new_alloc (new_alloc (new_refl w) _) _⟩
end Go.Proofs.Ytdibhpiafipibaa
