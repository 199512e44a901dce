/- Package dice and the document's answers: which share a draw hits; slices.Clone of draws; the closure that lets them go round. -/
import Derived.Test.YtdicpocoolmoeaaRowK
import Derived.Test.YtdicpocoolmoeaaCodB
import Derived.BigQuiet
import Derived.Deep.QuietTactic
namespace Go.Proofs.Ytdicpocoolmoeaa
open Go.RowKit
set_option linter.unusedVariables false

/-- Does a draw hit a share? -/
def hitB (x s : Int) : Bool := decide (x / 4096 < s)
theorem hitB_yes {x s : Int} (h : x / 4096 < s) : hitB x s = true := by simp [hitB, h]
theorem hitB_no {x s : Int} (h : s ≤ x / 4096) : hitB x s = false := by simp [hitB]; omega
def isU32 (x : Int) : Prop := 0 ≤ x ∧ x ≤ 4294967295

theorem hits_any (x s : Int) (w : World) (hx : isU32 x) :
    Calls Try.prog 19 #[.int .u32 x, .int .i64 s] w fun e w' => e = .returned (.bool (hitB x s)) ∧ w = w' := by
  obtain ⟨h0, h1⟩ := hx
  go_enter Try.func19, Try.ntmps19
  go_wp2_with fail
  go_ret
  exact ⟨rfl, rfl⟩

theorem refHit8_any (x s : Int) (w : World) (hx : isU32 x) :
    Calls Try.prog 11 #[.int .u32 x, .int .i64 s] w fun e w' => e = .returned (.bool (hitB x s)) ∧ w = w' := by
  obtain ⟨h0, h1⟩ := hx
  by_cases a : s ≤ 0
  · have H := Lib.hid (hitB_no (x := x) (s := s) (by omega))
    go_enter Try.func11, Try.ntmps11
    go_wp2_with fail
    go_ret
    exact ⟨ret_bool H.out.symm, rfl⟩
  · by_cases b : 1048576 ≤ s
    · have H := Lib.hid (hitB_yes (x := x) (s := s) (by omega))
      go_enter Try.func11, Try.ntmps11
      go_wp2_with fail
      go_ret
      exact ⟨ret_bool H.out.symm, rfl⟩
    · go_enter Try.func11, Try.ntmps11
      go_wp2_with fail
      go_ret
      exact ⟨rfl, rfl⟩

/-- The n-th draw. -/
def dr (ds : List Int) (n : Nat) : Int := match ds with
  | [] => 4294967295
  | _ => ds[n % ds.length]?.getD 0
theorem dr_some {ds : List Int} (h : 0 < ds.length) (n : Nat) : dr ds n = ds[n % ds.length]?.getD 0 := by
  cases ds with
  | nil => simp at h
  | cons a l => rfl
theorem dr_is {ds : List Int} (h : ∀ x ∈ ds, isU32 x) (n : Nat) : isU32 (dr ds n) := by
  cases ds with
  | nil => exact ⟨by simp [dr], by simp [dr]⟩
  | cons a l =>
    rw [dr_some (by simp)]
    have hl : n % (a :: l).length < (a :: l).length := Nat.mod_lt _ (by simp)
    rw [List.getElem?_eq_getElem hl]
    exact h _ (List.getElem_mem _)

theorem elU : IsElem .u32 22 26 4 := ⟨by kernel_rfl, by kernel_rfl, by decide⟩
abbrev OwnU (w : World) (base : Nat) (v : Value) (zs : List Int) : Prop := OwnK .u32 26 w base v zs
def ListU (w : World) (zs : List Int) (e : Ending) (w' : World) : Prop := ∃ v, e = .returned v ∧ OwnU w' w.heap.size v zs ∧ Below w.heap.size w w'
theorem cloneU_any (a : Addr) (m c : Nat) (ys : List Int) (w : World) (h : Src .u32 w (some a) m c ys) (hm : m ≤ 1000000) :
    Calls Try.prog 20 #[.slice (some a) m c] w (ListU w ys) := by
  have HL : Hid (([] : List Int).length + ys.length ≤ 1000000000) := Lib.hid (by have := h.1; simp; omega)
  have HS := Lib.hid h
  clear h
  have hq : ∀ (w : World) (a : Option Addr) (n c n' c' : Nat), (binOp .eql 22 (.slice a n c) (.slice none n' c')).run Try.prog w = .ok (.bool a.isNone) w := fun w a n c n' c' => Lib.run_eql_slice_nil w _ _ a n c n' c' Try.underlying22
  go_enter Try.func20, Try.ntmps20
  go_wp2_with (first
    | (at_builtin; refine wp_catK elU (by rfl) _ _ (by rfl) w.heap.size _ [] _ _ _ ys (by rfl) (by rfl) (HS.out.kept (new_alloc (new_refl w) _)) (OwnK.made0 (Nat.le_refl _)) HL.out (alloc_le (Nat.le_refl _) _) ?_; intro v1 w1 O1 G1 hat1))
  go_ret
  exact ⟨v1, rfl, O1, (new_alloc (new_refl w) _).trans (below_push (OwnK.made0 (k := .u32) (Nat.le_refl _)) G1 (alloc_le (Nat.le_refl _) _))⟩

/-- The closure: its captured variable holds the draws. -/
theorem round1_any (k p g n c : Nat) (ds : List Int) (w : World) (hn : ds.length = n) (h0 : 0 < n) (hm : n ≤ 1000000) (hk : k ≤ 1000000000) (hp : w.cell? ⟨p, 0, none⟩ = some (.slice (some ⟨g, 0, none⟩) n c)) (hg : At w g (ds.map (Value.int .u32))) :
    Calls Try.prog 21 #[.int .i64 (k : Int), .pointer (some ⟨p, 0, none⟩)] w (Reads w (.int .u32 (dr ds k))) := by
  have hlt : k % n < n := Nat.mod_lt _ h0
  have hc : w.cell? ⟨g, k % n, none⟩ = some (.int .u32 (dr ds k)) := hg.cell _ (by rw [dr_some (by omega), hn, List.getElem?_map, List.getElem?_eq_getElem (by omega)]; rfl)
  clear hg
  have em : (k : Int) % (n : Int) = ((k % n : Nat) : Int) := by omega
  have em' : ((k : Int).tmod (n : Int)) = ((k % n : Nat) : Int) := by rw [Int.tmod_eq_emod_of_nonneg (by omega)]; exact em
  have z0 : ¬ (n : Int) = 0 := by omega
  clear hn
  generalize k % n = j at *
  have j0 : (0 : Int) ≤ (j : Int) := by omega
  have j1 : (j : Int) < (n : Int) := by omega
  have jn : (j : Int).toNat = j := by omega
  go_enter Try.func21, Try.ntmps21
  go_wp2_with fail
  go_quiet (fail)
  go_wp2_with fail
  go_ret
  exact ⟨rfl, _, rfl⟩
end Go.Proofs.Ytdicpocoolmoeaa
