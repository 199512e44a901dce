/- Package heap: what Drop deletes by: its closure, slices.IndexFunc, slices.DeleteFunc. -/
import Derived.Test.YtmdlbjeiokadaaaHeapF
import Derived.Test.YtmdlbjeiokadaaaRowF
namespace Go.Proofs.Ytmdlbjeiokadaaa
open Go.RowKit
set_option linter.unusedVariables false

/-- The closure that Drop hands on, with the variable that it holds. -/
abbrev fDel (fb : Nat) : Value := .func (.func 24) #[] #[.pointer (some ⟨fb, 0, none⟩)]
/-- Does it stay? -/
def kp (f : Int) (x : Wt) : Bool := !(x.f == f)
theorem del_ask (fb : Nat) (f : Int) (x : Wt) (w : World) (hF : Blk w fb [.int .i64 f] 3) :
    Calls Try.prog 24 #[.agg #[.int .i64 x.a, .int .i64 x.k, .int .i64 x.f, .int .i64 x.n, .int .i64 x.t], .pointer (some ⟨fb, 0, none⟩)] w fun e w' => e = .returned (.bool (x.f == f)) ∧ Below w.heap.size w w' := by
  have c0 := fun o => (hF.alloc o).cell 0 rfl
  go_enter Try.func24, Try.ntmps24
  go_wp2
  go_ret
  exact ⟨rfl, new_alloc (new_refl w) _⟩

def IdxInv (w : World) (g n c fb : Nat) (f : Int) (zs : List Wt) (gh : Nat) (vi : Value) (wr : World) : Prop :=
  ∃ k : Nat, vi = .int .i64 (k : Int) ∧ n - k = gh ∧ k ≤ n ∧ (∀ i, i < k → kp f (nth zs i) = true) ∧ OwnW wr 0 (.slice (some ⟨g, 0, none⟩) n c) zs ∧ Blk wr fb [.int .i64 f] 3 ∧ Below w.heap.size w wr
/-- Where the first one stands that is to go. -/
def IdxTo (w : World) (n : Nat) (f : Int) (zs : List Wt) (e : Ending) (w' : World) : Prop :=
  ((e = .returned (.int .i64 (-1)) ∧ ∀ i, i < n → kp f (nth zs i) = true) ∨ ∃ k : Nat, e = .returned (.int .i64 (k : Int)) ∧ k < n ∧ (∀ i, i < k → kp f (nth zs i) = true) ∧ kp f (nth zs k) = false) ∧ Below w.heap.size w w'
set_option maxRecDepth 100000 in
theorem index_any (g n c fb : Nat) (f : Int) (zs : List Wt) (w : World) (hO : OwnW w 0 (.slice (some ⟨g, 0, none⟩) n c) zs) (hF : Blk w fb [.int .i64 f] 3) (hn : n ≤ 1000000) :
    Calls Try.prog 30 #[.slice (some ⟨g, 0, none⟩) n c, fDel fb] w (IdxTo w n f zs) := by
  go_enter Try.func30, Try.ntmps30
  go_wp2_with fail
  go_loopg [8] n (fun gh vi wr => IdxInv w g n c fb f zs gh vi wr)
  case atStart => exact ⟨0, rfl, rfl, by omega, fun i hi => absurd hi (Nat.not_lt_zero _), hO, hF, new_refl w⟩
  case round =>
    clear hO hF
    obtain ⟨k, rfl, rfl, hk, ha, hO, hF, B⟩ := hrel
    have hl := hO.len.1
    by_cases hlt : k < n
    · have k0 : (0 : Int) ≤ (k : Int) := by omega
      have k1 : (k : Int) < (n : Int) := by omega
      obtain ⟨a0, a1, a2, a3, a4⟩ := own_five hO (i := k) (by omega)
      generalize hx : nth zs k = x at a0 a1 a2 a3 a4
      have HX := Lib.hid hx
      have HO := Lib.hid hO
      have HQ := Lib.hid ha
      clear hx hO ha hl
      cases hq : x.f == f
      · go_wp2_with (first
          | (go_at_call 24; refine (del_ask fb f x _ hF).mono ?_; rw [hq]; rintro e w1 ⟨rfl, B1⟩))
        go_roundg (n - (k + 1))
        case measure => omega
        case rel =>
          refine ⟨k + 1, by go_num, rfl, by omega, fun i hi => ?_, HO.out.kept B1, hF.kept B1, new_then B B1⟩
          by_cases e : i = k
          · subst e; rw [HX.out, kp, hq]; rfl
          · exact HQ.out i (by omega)
      · go_wp2_with (first
          | (go_at_call 24; refine (del_ask fb f x _ hF).mono ?_; rw [hq]; rintro e w1 ⟨rfl, B1⟩))
        go_ret
        exact ⟨.inr ⟨k, rfl, hlt, HQ.out, by rw [HX.out, kp, hq]; rfl⟩, new_then B B1⟩
    · obtain rfl : k = n := by omega
      clear hO
      go_wp2_with fail
      go_ret
      exact ⟨.inl ⟨rfl, ha⟩, B⟩
theorem index_none (fb : Nat) (w : World) :
    Calls Try.prog 30 #[.slice none 0 0, fDel fb] w fun e w' => e = .returned (.int .i64 (-1)) ∧ w = w' := by
  go_enter Try.func30, Try.ntmps30
  go_wp2_with fail
  go_loopg [8] 0 (fun gh vi wr => vi = .int .i64 0 ∧ w = wr)
  case atStart => exact ⟨rfl, rfl⟩
  case round =>
    obtain ⟨rfl, rfl⟩ := hrel
    go_wp2_with fail
    go_ret
    exact ⟨rfl, rfl⟩
end Go.Proofs.Ytmdlbjeiokadaaa
