/- Package flags: Has, Ace, Bits. -/
import Derived.Test.YtfoaaoigkdbjmaaFlgC
import Derived.Deep.LoopGhost
namespace Go.Proofs.Ytfoaaoigkdbjmaa
open Go.RowKit
set_option linter.unusedVariables false

/-- Three bits as a number. -/
def aceF (a b c : Bool) : Int := (if a then 4 else 0) + (if b then 2 else 0) + (if c then 1 else 0)
def preF (a b c : Bool) : Nat → Int
  | 0 => 0
  | 1 => if a then 1 else 0
  | 2 => (if a then 2 else 0) + (if b then 1 else 0)
  | _ => aceF a b c
theorem ix3_0 (a b c : Bool) (w : World) : (Instr.index 57 (.agg #[.bool a, .bool b, .bool c]) (.int .i64 0)).run Try.prog w = .ok (.bool a) w := by kernel_rfl
theorem ix3_1 (a b c : Bool) (w : World) : (Instr.index 57 (.agg #[.bool a, .bool b, .bool c]) (.int .i64 1)).run Try.prog w = .ok (.bool b) w := by kernel_rfl
theorem ix3_2 (a b c : Bool) (w : World) : (Instr.index 57 (.agg #[.bool a, .bool b, .bool c]) (.int .i64 2)).run Try.prog w = .ok (.bool c) w := by kernel_rfl
def AceI (a b c : Bool) (w : World) (gh : Nat) (va vi : Value) (wr : World) : Prop := ∃ k : Nat, vi = .int .i64 (k : Int) ∧ 3 - k = gh ∧ k ≤ 3 ∧ va = .int .u8 (preF a b c k) ∧ w = wr
theorem ace3_any (a b c : Bool) (w : World) : Calls Try.prog 14 #[.bool a, .bool b, .bool c] w fun e w' => e = .returned (.int .u8 (aceF a b c)) ∧ w = w' := by
  have i0 := ix3_0
  have i1 := ix3_1
  have i2 := ix3_2
  have o0 : bits .or .u8 0 1 = 1 := by decide
  have o2 : bits .or .u8 2 1 = 3 := by decide
  have o4 : bits .or .u8 4 1 = 5 := by decide
  have o6 : bits .or .u8 6 1 = 7 := by decide
  go_enter Try.func14, Try.ntmps14
  go_wp2_with fail
  go_loopg [7, 14] 3 (fun gh va vi wr => AceI a b c w gh va vi wr)
  case atStart => exact ⟨0, rfl, rfl, by omega, rfl, rfl⟩
  case round =>
    obtain ⟨k, rfl, rfl, hk, rfl, rfl⟩ := hrel
    obtain rfl | rfl | rfl | rfl : k = 0 ∨ k = 1 ∨ k = 2 ∨ k = 3 := by omega
    · cases a
      all_goals
        simp only [preF]
        go_wp2_with fail
        go_roundg (3 - 1)
        case measure => omega
        case rel => exact ⟨1, rfl, rfl, by omega, rfl, rfl⟩
    · cases a <;> cases b
      all_goals
        simp only [preF, Bool.false_eq_true, if_true, if_false]
        go_wp2_with fail
        go_roundg (3 - 2)
        case measure => omega
        case rel => exact ⟨2, rfl, rfl, by omega, rfl, rfl⟩
    · cases a <;> cases b <;> cases c
      all_goals
        simp only [preF, Bool.false_eq_true, if_true, if_false, Int.add_zero, Int.zero_add, Int.reduceAdd]
        go_wp2_with fail
        go_roundg (3 - 3)
        case measure => omega
        case rel => exact ⟨3, rfl, rfl, by omega, rfl, rfl⟩
    · simp only [preF]
      go_wp2_with fail
      go_ret
      exact ⟨rfl, rfl⟩

/-- The bits of a number. -/
def t4F (x : Int) : Bool := decide (x / 4 % 2 = 1)
def t2F (x : Int) : Bool := decide (x / 2 % 2 = 1)
def t1F (x : Int) : Bool := decide (x % 2 = 1)
theorem and4F_n : ∀ n : Nat, n < 256 → (bits .and .u8 (n : Int) 4 != 0) = t4F (n : Int) := by decide +kernel
theorem and2F_n : ∀ n : Nat, n < 256 → (bits .and .u8 (n : Int) 2 != 0) = t2F (n : Int) := by decide +kernel
theorem and1T_n : ∀ n : Nat, n < 256 → (bits .and .u8 (n : Int) 1 != 0) = t1F (n : Int) := by decide +kernel
theorem aceF_is {x : Int} (h : 0 ≤ x ∧ x ≤ 255) : aceF (t4F x) (t2F x) (t1F x) = x % 8 := by
  have : ∀ n : Nat, n < 256 → aceF (t4F (n : Int)) (t2F (n : Int)) (t1F (n : Int)) = (n : Int) % 8 := by decide +kernel
  exact byteF (P := fun x => aceF (t4F x) (t2F x) (t1F x) = x % 8) this h
theorem bits3_any (x : Int) (h : 0 ≤ x ∧ x ≤ 255) (w : World) : Calls Try.prog 13 #[.int .u8 x] w fun e w' => e = .returned (.tuple #[.bool (t4F x), .bool (t2F x), .bool (t1F x)]) ∧ w = w' := by
  have e4 := byteF (P := fun x => (bits .and .u8 x 4 != 0) = t4F x) and4F_n h
  have e2 := byteF (P := fun x => (bits .and .u8 x 2 != 0) = t2F x) and2F_n h
  have e1 := byteF (P := fun x => (bits .and .u8 x 1 != 0) = t1F x) and1T_n h
  clear h
  generalize t4F x = a at *
  generalize t2F x = b at *
  generalize t1F x = c at *
  go_enter Try.func13, Try.ntmps13
  go_wp2_with fail
  go_ret3
  exact ⟨rfl, rfl⟩
theorem has_any (h : Hd) (f : Int) (w : World) : Calls Try.prog 15 #[.agg #[.int .u16 h.src, .int .u16 h.dst, .int .u32 h.seq, .int .u32 h.ack, .int .u8 h.off, .int .u8 h.ace, .int .u8 h.fl, .int .u16 h.win, .int .u16 h.sum, .int .u16 h.urg], .int .u8 f] w
    fun e w' => e = .returned (.bool (bits .and .u8 h.fl f == f)) ∧ Below w.heap.size w w' := by
  go_enter Try.func15, Try.ntmps15
  go_wp2_with fail
  go_ret
  exact ⟨rfl, new_alloc (new_refl w) _⟩
theorem has_n : ∀ a : Nat, a < 256 → ∀ b : Nat, b < 256 → ((a &&& b) == b) = (((255 - a) &&& b) == 0) := by decide +kernel
theorem has_is {x y : Int} (hx : 0 ≤ x ∧ x ≤ 255) (hy : 0 ≤ y ∧ y ≤ 255) : (bits .and .u8 (255 - x) y == 0) = (bits .and .u8 x y == y) := by
  have e := has_n x.toNat (by omega) y.toNat (by omega)
  rw [u8_and (255 - x) y (by omega) (by omega) hy.1 (by omega), u8_and x y hx.1 (by omega) hy.1 (by omega)]
  rw [show (255 - x).toNat = 255 - x.toNat by omega]
  rw [Bool.eq_iff_iff] at e ⊢
  simp only [beq_iff_eq] at e ⊢
  omega
end Go.Proofs.Ytfoaaoigkdbjmaa
