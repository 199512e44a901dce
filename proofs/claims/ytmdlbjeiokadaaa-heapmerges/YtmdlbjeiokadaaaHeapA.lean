/- What package heap compares by: cmp.Compare, cmp.Or, order. -/
import Derived.Test.YtmdlbjeiokadaaaHeapM
import Derived.Test.YtmdlbjeiokadaaaMem
import Derived.Deep.QuietTactic
import Derived.Deep.LoopGhost
import Derived.Deep.RegionHeld3
import Derived.BigQuiet
import Derived.IntWalk
import Derived.Sort.Grow
namespace Go.Proofs.Ytmdlbjeiokadaaa
open Go.RowKit
open Go.Sort (grow)
set_option linter.unusedVariables false

theorem isNaN_any (x : Int) (w : World) :
    Calls Try.prog 45 #[.int .i64 x] w fun e w' => e = .returned (.bool false) ∧ w = w' := by
  go_enter Try.func45, Try.ntmps45
  go_wp2
  go_ret
  exact ⟨rfl, rfl⟩
/-- What cmp.Compare tells. -/
def cmpv (x y : Int) : Int := if x < y then -1 else if y < x then 1 else 0
theorem cmp_any (x y : Int) (w : World) :
    Calls Try.prog 34 #[.int .i64 x, .int .i64 y] w fun e w' => e = .returned (.int .i64 (cmpv x y)) ∧ w = w' := by
  unfold cmpv
  by_cases h1 : x < y
  · rw [if_pos h1]
    go_enter Try.func34, Try.ntmps34
    go_wp2_with (go_at_call 45; refine (isNaN_any _ _).mono ?_; rintro e w' ⟨rfl, rfl⟩)
    go_ret
    exact ⟨rfl, rfl⟩
  · rw [if_neg h1]
    by_cases h2 : y < x
    · rw [if_pos h2]
      go_enter Try.func34, Try.ntmps34
      go_wp2_with (go_at_call 45; refine (isNaN_any _ _).mono ?_; rintro e w' ⟨rfl, rfl⟩)
      go_ret
      exact ⟨rfl, rfl⟩
    · rw [if_neg h2]
      go_enter Try.func34, Try.ntmps34
      go_wp2_with (go_at_call 45; refine (isNaN_any _ _).mono ?_; rintro e w' ⟨rfl, rfl⟩)
      go_ret
      exact ⟨rfl, rfl⟩

/-- The first of two that is not 0. -/
def orv (a b : Int) : Int := if a = 0 then b else a
def OrInv (w : World) (a b : Int) (gh : Nat) (vi : Value) (wr : World) : Prop := w = wr ∧ ((gh = 2 ∧ vi = .int .i64 0) ∨ (gh = 1 ∧ vi = .int .i64 1 ∧ a = 0) ∨ (gh = 0 ∧ vi = .int .i64 2 ∧ a = 0 ∧ b = 0))
theorem or_two (g : Nat) (a b : Int) (w : World) (h0 : w.cell? ⟨g, 0, none⟩ = some (.int .i64 a)) (h1 : w.cell? ⟨g, 1, none⟩ = some (.int .i64 b)) :
    Calls Try.prog 33 #[.slice (some ⟨g, 0, none⟩) 2 2] w fun e w' => e = .returned (.int .i64 (orv a b)) ∧ w = w' := by
  obtain ⟨r, hr⟩ : ∃ r, orv a b = r := ⟨_, rfl⟩
  rw [hr]
  have R := Lib.hid hr
  clear hr
  go_enter Try.func33, Try.ntmps33
  go_wp2_with fail
  go_loopg [8] 2 (fun gh vi wr => OrInv w a b gh vi wr)
  case atStart => exact ⟨rfl, .inl ⟨rfl, rfl⟩⟩
  case round =>
    obtain ⟨rfl, ⟨rfl, rfl⟩ | ⟨rfl, rfl, rfl⟩ | ⟨rfl, rfl, rfl, rfl⟩⟩ := hrel
    · by_cases ha : a = 0
      · subst ha
        go_wp2
        go_roundg 1
        case measure => omega
        case rel => exact ⟨rfl, .inr (.inl ⟨rfl, rfl, rfl⟩)⟩
      · go_wp2
        go_ret
        exact ⟨ret_int (by rw [← R.out, orv, if_neg ha]), rfl⟩
    · by_cases hb : b = 0
      · subst hb
        go_wp2
        go_roundg 0
        case measure => omega
        case rel => exact ⟨rfl, .inr (.inr ⟨rfl, rfl, rfl, rfl⟩)⟩
      · go_wp2
        go_ret
        exact ⟨ret_int R.out, rfl⟩
    · go_wp2
      go_ret
      exact ⟨ret_int R.out, rfl⟩

/-- The cells of one that waits. -/
def encW (x : Wt) : List Value := [.int .i64 x.a, .int .i64 x.k, .int .i64 x.f, .int .i64 x.n, .int .i64 x.t]
theorem encW_len (x : Wt) : (encW x).length = 5 := rfl
theorem encW_one (x : Wt) : ∀ v ∈ encW x, v.oneCell' = true := by
  intro v hv
  simp [encW] at hv
  rcases hv with rfl | rfl | rfl | rfl | rfl <;> rfl
def ordv (x y : Wt) : Int := orv (cmpv x.a y.a) (cmpv x.t y.t)
theorem ordv_lt (x y : Wt) : ordv x y < 0 ↔ x.lt y := by
  unfold ordv orv cmpv Wt.lt
  constructor
  · intro h; split at h <;> (repeat' split at h) <;> omega
  · intro h; split <;> (repeat' split) <;> omega

theorem new_third (w : World) (A B : Obj) (c d : Int) (t : TypeId) : (((w.alloc A).alloc B).alloc (.cells #[.int .i64 c, .int .i64 d] t)).drew.cell? ⟨w.heap.size + 1 + 1, 0, none⟩ = some (.int .i64 c) ∧ (((w.alloc A).alloc B).alloc (.cells #[.int .i64 c, .int .i64 d] t)).drew.cell? ⟨w.heap.size + 1 + 1, 1, none⟩ = some (.int .i64 d) := by
  have h := At.newAt (w := (w.alloc A).alloc B) (g := w.heap.size + 1 + 1) (by simp) [.int .i64 c, .int .i64 d] t
  exact ⟨h.cell 0 rfl, h.cell 1 rfl⟩
theorem grow_three (w : World) (A B C : Obj) : (((w.alloc A).alloc B).alloc C).drew = grow (w.drewN 1) #[A, B, C] := by
  rw [Go.Sort.alloc_eq_grow, Go.Sort.alloc_eq_grow, Go.Sort.alloc_eq_grow, Go.Sort.grow_grow, Go.Sort.grow_grow]
  rfl
set_option maxRecDepth 100000 in
set_option maxHeartbeats 1000000 in
theorem order_any (x y : Wt) (w : World) :
    Calls Try.prog 29 #[.agg (encW x).toArray, .agg (encW y).toArray] w fun e w' => e = .returned (.int .i64 (ordv x y)) ∧ ∃ q os, w' = grow (w.drewN q) os := by
  obtain ⟨x0, x1, x2, x3, x4⟩ := x
  obtain ⟨y0, y1, y2, y3, y4⟩ := y
  have e : ordv ⟨x0, x1, x2, x3, x4⟩ ⟨y0, y1, y2, y3, y4⟩ = orv (cmpv x0 y0) (cmpv x4 y4) := rfl
  rw [e]
  clear e
  simp only [encW]
  go_enter Try.func29, Try.ntmps29
  go_wp2_with fail
  go_region_held3 (fun w' => w'.cell? ⟨w.heap.size, 0, none⟩ = some (.int .i64 x0) ∧ w'.cell? ⟨w.heap.size, 4, none⟩ = some (.int .i64 x4) ∧ w'.cell? ⟨w.heap.size + 1, 0, none⟩ = some (.int .i64 y0) ∧ w'.cell? ⟨w.heap.size + 1, 4, none⟩ = some (.int .i64 y4))
    (go_keep)
    (first
      | (go_at_call 34; refine (cmp_any _ _ _).mono ?_; rintro e w' ⟨rfl, rfl⟩)
      | (go_at_call 33; refine (or_two _ (cmpv x0 y0) (cmpv x4 y4) _ ?_ ?_).mono ?_; (exact (new_third w _ _ (cmpv x0 y0) (cmpv x4 y4) _).1); (exact (new_third w _ _ (cmpv x0 y0) (cmpv x4 y4) _).2); rintro e w' ⟨rfl, rfl⟩))
  all_goals
    go_wp2_with fail
    go_ret
    exact ⟨rfl, 1, _, grow_three w _ _ _⟩
end Go.Proofs.Ytmdlbjeiokadaaa
