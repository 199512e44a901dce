/- Package flags: flagOf, Text; the document's Text. -/
import Derived.Test.YtfoaaoigkdbjmaaFlgM
import Derived.Test.YtfoaaoigkdbjmaaTextB
import Derived.Laws.RangeAny
import Derived.Deep.LoopGhost
import Derived.Deep.QuietTactic
import Derived.BigQuiet
import Derived.Deep.DeepCutAuto
namespace Go.Proofs.Ytfoaaoigkdbjmaa
open Go.RowKit
set_option linter.unusedVariables false

/-- The letters. -/
def lettersF : ByteArray := ⟨#[70, 83, 82, 80, 65, 85]⟩
/-- The flag of a letter. -/
def lvF (r : Int) : Int := if r = 70 then 1 else if r = 83 then 2 else if r = 82 then 4 else if r = 80 then 8 else if r = 65 then 16 else if r = 85 then 32 else 0
theorem lvF_high {r : Int} (h : 128 ≤ r) : lvF r = 0 := by
  unfold lvF
  rw [if_neg (by omega), if_neg (by omega), if_neg (by omega), if_neg (by omega), if_neg (by omega), if_neg (by omega)]
theorem nx_0 (w : World) (ty : TypeId) : (Instr.next (.pointer (some ⟨w.heap.size, 0, none⟩)) true ty).run Try.prog (w.iter ⟨#[70, 83, 82, 80, 65, 85]⟩ 0) = .ok (.tuple #[.bool true, .int .i64 0, .int .i32 70]) (w.iter ⟨#[70, 83, 82, 80, 65, 85]⟩ 1) := run_next_ascii w _ 0 ty (by decide) (by decide)
theorem nx_1 (w : World) (ty : TypeId) : (Instr.next (.pointer (some ⟨w.heap.size, 0, none⟩)) true ty).run Try.prog (w.iter ⟨#[70, 83, 82, 80, 65, 85]⟩ 1) = .ok (.tuple #[.bool true, .int .i64 1, .int .i32 83]) (w.iter ⟨#[70, 83, 82, 80, 65, 85]⟩ 2) := run_next_ascii w _ 1 ty (by decide) (by decide)
theorem nx_2 (w : World) (ty : TypeId) : (Instr.next (.pointer (some ⟨w.heap.size, 0, none⟩)) true ty).run Try.prog (w.iter ⟨#[70, 83, 82, 80, 65, 85]⟩ 2) = .ok (.tuple #[.bool true, .int .i64 2, .int .i32 82]) (w.iter ⟨#[70, 83, 82, 80, 65, 85]⟩ 3) := run_next_ascii w _ 2 ty (by decide) (by decide)
theorem nx_3 (w : World) (ty : TypeId) : (Instr.next (.pointer (some ⟨w.heap.size, 0, none⟩)) true ty).run Try.prog (w.iter ⟨#[70, 83, 82, 80, 65, 85]⟩ 3) = .ok (.tuple #[.bool true, .int .i64 3, .int .i32 80]) (w.iter ⟨#[70, 83, 82, 80, 65, 85]⟩ 4) := run_next_ascii w _ 3 ty (by decide) (by decide)
theorem nx_4 (w : World) (ty : TypeId) : (Instr.next (.pointer (some ⟨w.heap.size, 0, none⟩)) true ty).run Try.prog (w.iter ⟨#[70, 83, 82, 80, 65, 85]⟩ 4) = .ok (.tuple #[.bool true, .int .i64 4, .int .i32 65]) (w.iter ⟨#[70, 83, 82, 80, 65, 85]⟩ 5) := run_next_ascii w _ 4 ty (by decide) (by decide)
theorem nx_5 (w : World) (ty : TypeId) : (Instr.next (.pointer (some ⟨w.heap.size, 0, none⟩)) true ty).run Try.prog (w.iter ⟨#[70, 83, 82, 80, 65, 85]⟩ 5) = .ok (.tuple #[.bool true, .int .i64 5, .int .i32 85]) (w.iter ⟨#[70, 83, 82, 80, 65, 85]⟩ 6) := run_next_ascii w _ 5 ty (by decide) (by decide)
theorem nx_6 (w : World) (ty : TypeId) : (Instr.next (.pointer (some ⟨w.heap.size, 0, none⟩)) true ty).run Try.prog (w.iter ⟨#[70, 83, 82, 80, 65, 85]⟩ 6) = .ok (.tuple #[.bool false]) (w.iter ⟨#[70, 83, 82, 80, 65, 85]⟩ 6) := run_next_end w _ 6 ty (by decide)
theorem new_iter {a w : World} (h : Below a.heap.size a w) (s : ByteArray) (p : Nat) : Below a.heap.size a (w.iter s p) := new_alloc h _
def FoI (r : Int) (w : World) (gh : Nat) (wr : World) : Prop := ∃ k : Nat, 6 - k = gh ∧ k ≤ 6 ∧ (0 < k → r ≠ 70) ∧ (1 < k → r ≠ 83) ∧ (2 < k → r ≠ 82) ∧ (3 < k → r ≠ 80) ∧ (4 < k → r ≠ 65) ∧ (5 < k → r ≠ 85) ∧ w.iter ⟨#[70, 83, 82, 80, 65, 85]⟩ k = wr
set_option maxRecDepth 100000 in
theorem flagOf_any (r : Int) (w : World) (h : 0 ≤ r ∧ r ≤ 2147483647) : Calls Try.prog 27 #[.int .i32 r] w fun e w' => e = .returned (.int .u8 (lvF r)) ∧ Below w.heap.size w w' := by
  have n0 := nx_0 w
  have n1 := nx_1 w
  have n2 := nx_2 w
  have n3 := nx_3 w
  have n4 := nx_4 w
  have n5 := nx_5 w
  have n6 := nx_6 w
  go_enter Try.func27, Try.ntmps27
  go_wp2_with fail
  go_loopg [] 6 (fun gh wr => FoI r w gh wr)
  case atStart => exact ⟨0, rfl, by omega, by omega, by omega, by omega, by omega, by omega, by omega, rfl⟩
  case round =>
    obtain ⟨k, rfl, hk, h0, h1, h2, h3, h4, h5, rfl⟩ := hrel
    obtain rfl | rfl | rfl | rfl | rfl | rfl | rfl : k = 0 ∨ k = 1 ∨ k = 2 ∨ k = 3 ∨ k = 4 ∨ k = 5 ∨ k = 6 := by omega
    · by_cases hr : r = 70
      · subst hr
        clear h0 h1 h2 h3 h4 h5
        go_wp2_with fail
        go_ret
        exact ⟨rfl, new_iter (new_refl w) _ _⟩
      · have hr2 : (70 == r) = false := by simp; omega
        have H := Lib.hid (And.intro h0 (And.intro h1 (And.intro h2 (And.intro h3 (And.intro h4 (And.intro h5 hr))))))
        clear h0 h1 h2 h3 h4 h5 hr
        go_wp2_with fail
        obtain ⟨h0, h1, h2, h3, h4, h5, hr⟩ := H.out
        go_roundg (6 - 1)
        case measure => omega
        case rel => exact ⟨1, rfl, by omega, by omega, by omega, by omega, by omega, by omega, by omega, rfl⟩
    · by_cases hr : r = 83
      · subst hr
        clear h0 h1 h2 h3 h4 h5
        go_wp2_with fail
        go_ret
        exact ⟨rfl, new_iter (new_refl w) _ _⟩
      · have hr2 : (83 == r) = false := by simp; omega
        have H := Lib.hid (And.intro h0 (And.intro h1 (And.intro h2 (And.intro h3 (And.intro h4 (And.intro h5 hr))))))
        clear h0 h1 h2 h3 h4 h5 hr
        go_wp2_with fail
        obtain ⟨h0, h1, h2, h3, h4, h5, hr⟩ := H.out
        go_roundg (6 - 2)
        case measure => omega
        case rel => exact ⟨2, rfl, by omega, by omega, by omega, by omega, by omega, by omega, by omega, rfl⟩
    · by_cases hr : r = 82
      · subst hr
        clear h0 h1 h2 h3 h4 h5
        go_wp2_with fail
        go_ret
        exact ⟨rfl, new_iter (new_refl w) _ _⟩
      · have hr2 : (82 == r) = false := by simp; omega
        have H := Lib.hid (And.intro h0 (And.intro h1 (And.intro h2 (And.intro h3 (And.intro h4 (And.intro h5 hr))))))
        clear h0 h1 h2 h3 h4 h5 hr
        go_wp2_with fail
        obtain ⟨h0, h1, h2, h3, h4, h5, hr⟩ := H.out
        go_roundg (6 - 3)
        case measure => omega
        case rel => exact ⟨3, rfl, by omega, by omega, by omega, by omega, by omega, by omega, by omega, rfl⟩
    · by_cases hr : r = 80
      · subst hr
        clear h0 h1 h2 h3 h4 h5
        go_wp2_with fail
        go_ret
        exact ⟨rfl, new_iter (new_refl w) _ _⟩
      · have hr2 : (80 == r) = false := by simp; omega
        have H := Lib.hid (And.intro h0 (And.intro h1 (And.intro h2 (And.intro h3 (And.intro h4 (And.intro h5 hr))))))
        clear h0 h1 h2 h3 h4 h5 hr
        go_wp2_with fail
        obtain ⟨h0, h1, h2, h3, h4, h5, hr⟩ := H.out
        go_roundg (6 - 4)
        case measure => omega
        case rel => exact ⟨4, rfl, by omega, by omega, by omega, by omega, by omega, by omega, by omega, rfl⟩
    · by_cases hr : r = 65
      · subst hr
        clear h0 h1 h2 h3 h4 h5
        go_wp2_with fail
        go_ret
        exact ⟨rfl, new_iter (new_refl w) _ _⟩
      · have hr2 : (65 == r) = false := by simp; omega
        have H := Lib.hid (And.intro h0 (And.intro h1 (And.intro h2 (And.intro h3 (And.intro h4 (And.intro h5 hr))))))
        clear h0 h1 h2 h3 h4 h5 hr
        go_wp2_with fail
        obtain ⟨h0, h1, h2, h3, h4, h5, hr⟩ := H.out
        go_roundg (6 - 5)
        case measure => omega
        case rel => exact ⟨5, rfl, by omega, by omega, by omega, by omega, by omega, by omega, by omega, rfl⟩
    · by_cases hr : r = 85
      · subst hr
        clear h0 h1 h2 h3 h4 h5
        go_wp2_with fail
        go_ret
        exact ⟨rfl, new_iter (new_refl w) _ _⟩
      · have hr2 : (85 == r) = false := by simp; omega
        have H := Lib.hid (And.intro h0 (And.intro h1 (And.intro h2 (And.intro h3 (And.intro h4 (And.intro h5 hr))))))
        clear h0 h1 h2 h3 h4 h5 hr
        go_wp2_with fail
        obtain ⟨h0, h1, h2, h3, h4, h5, hr⟩ := H.out
        go_roundg (6 - 6)
        case measure => omega
        case rel => exact ⟨6, rfl, by omega, by omega, by omega, by omega, by omega, by omega, by omega, rfl⟩
    · have e : Hid (0 = lvF r) := Lib.hid (by
        unfold lvF
        rw [if_neg (h0 (by omega)), if_neg (h1 (by omega)), if_neg (h2 (by omega)), if_neg (h3 (by omega)), if_neg (h4 (by omega)), if_neg (h5 (by omega))])
      clear h0 h1 h2 h3 h4 h5
      go_wp2_with fail
      go_ret
      exact ⟨ret_int e.out, new_iter (new_refl w) _ _⟩

/-- Is a flag (1, 2, 4 ..) among flags? -/
def hasF (f v : Int) : Bool := decide (f / v % 2 = 1)
def letF : Nat → UInt8
  | 0 => 70
  | 1 => 83
  | 2 => 82
  | 3 => 80
  | 4 => 65
  | _ => 85
def pwF : Nat → Int
  | 0 => 1
  | 1 => 2
  | 2 => 4
  | 3 => 8
  | 4 => 16
  | _ => 32
/-- The letters of the first k flags. -/
def txF (f : Int) : Nat → ByteArray
  | 0 => ⟨#[]⟩
  | k + 1 => if hasF f (pwF k) then txF f k ++ ⟨#[letF k]⟩ else txF f k
theorem tx_size (f : Int) : (txF f 0).size ≤ 0 ∧ (txF f 1).size ≤ 1 ∧ (txF f 2).size ≤ 2 ∧ (txF f 3).size ≤ 3 ∧ (txF f 4).size ≤ 4 ∧ (txF f 5).size ≤ 5 ∧ (txF f 6).size ≤ 6 := by
  have s : ∀ (a : ByteArray) (b : UInt8) (q : Bool) (n : Nat), a.size ≤ n → (if q then a ++ ⟨#[b]⟩ else a).size ≤ n + 1 := by
    intro a b q n h
    split
    · rw [ByteArray.size_append]; show a.size + 1 ≤ n + 1; omega
    · omega
  have h0 : (txF f 0).size ≤ 0 := Nat.le_refl _
  have h1 : (txF f 1).size ≤ 1 := s _ _ _ _ h0
  have h2 : (txF f 2).size ≤ 2 := s _ _ _ _ h1
  have h3 : (txF f 3).size ≤ 3 := s _ _ _ _ h2
  have h4 : (txF f 4).size ≤ 4 := s _ _ _ _ h3
  have h5 : (txF f 5).size ≤ 5 := s _ _ _ _ h4
  have h6 : (txF f 6).size ≤ 6 := s _ _ _ _ h5
  exact ⟨h0, h1, h2, h3, h4, h5, h6⟩
/-- The text of flags. -/
def teF (f : Int) : ByteArray := if txF f 6 = ⟨#[]⟩ then ⟨#[45]⟩ else txF f 6
theorem andv0_n : ∀ n : Nat, n < 256 → (bits .and .u8 (n : Int) 1 != 0) = hasF (n : Int) 1 := by decide +kernel
theorem rs_0 (w : World) : (convert 21 9 (.int .i32 70)).run Try.prog w = .ok (.string ⟨#[70]⟩) w := by kernel_rfl
theorem sl_0 (w : World) : (Instr.slice 9 (.string ⟨#[70, 83, 82, 80, 65, 85]⟩) (some (.int .i64 0)) (some (.int .i64 1)) none).run Try.prog w = .ok (.string ⟨#[70]⟩) w := by kernel_rfl
theorem andv1_n : ∀ n : Nat, n < 256 → (bits .and .u8 (n : Int) 2 != 0) = hasF (n : Int) 2 := by decide +kernel
theorem rs_1 (w : World) : (convert 21 9 (.int .i32 83)).run Try.prog w = .ok (.string ⟨#[83]⟩) w := by kernel_rfl
theorem sl_1 (w : World) : (Instr.slice 9 (.string ⟨#[70, 83, 82, 80, 65, 85]⟩) (some (.int .i64 1)) (some (.int .i64 2)) none).run Try.prog w = .ok (.string ⟨#[83]⟩) w := by kernel_rfl
theorem andv2_n : ∀ n : Nat, n < 256 → (bits .and .u8 (n : Int) 4 != 0) = hasF (n : Int) 4 := by decide +kernel
theorem rs_2 (w : World) : (convert 21 9 (.int .i32 82)).run Try.prog w = .ok (.string ⟨#[82]⟩) w := by kernel_rfl
theorem sl_2 (w : World) : (Instr.slice 9 (.string ⟨#[70, 83, 82, 80, 65, 85]⟩) (some (.int .i64 2)) (some (.int .i64 3)) none).run Try.prog w = .ok (.string ⟨#[82]⟩) w := by kernel_rfl
theorem andv3_n : ∀ n : Nat, n < 256 → (bits .and .u8 (n : Int) 8 != 0) = hasF (n : Int) 8 := by decide +kernel
theorem rs_3 (w : World) : (convert 21 9 (.int .i32 80)).run Try.prog w = .ok (.string ⟨#[80]⟩) w := by kernel_rfl
theorem sl_3 (w : World) : (Instr.slice 9 (.string ⟨#[70, 83, 82, 80, 65, 85]⟩) (some (.int .i64 3)) (some (.int .i64 4)) none).run Try.prog w = .ok (.string ⟨#[80]⟩) w := by kernel_rfl
theorem andv4_n : ∀ n : Nat, n < 256 → (bits .and .u8 (n : Int) 16 != 0) = hasF (n : Int) 16 := by decide +kernel
theorem rs_4 (w : World) : (convert 21 9 (.int .i32 65)).run Try.prog w = .ok (.string ⟨#[65]⟩) w := by kernel_rfl
theorem sl_4 (w : World) : (Instr.slice 9 (.string ⟨#[70, 83, 82, 80, 65, 85]⟩) (some (.int .i64 4)) (some (.int .i64 5)) none).run Try.prog w = .ok (.string ⟨#[65]⟩) w := by kernel_rfl
theorem andv5_n : ∀ n : Nat, n < 256 → (bits .and .u8 (n : Int) 32 != 0) = hasF (n : Int) 32 := by decide +kernel
theorem rs_5 (w : World) : (convert 21 9 (.int .i32 85)).run Try.prog w = .ok (.string ⟨#[85]⟩) w := by kernel_rfl
theorem sl_5 (w : World) : (Instr.slice 9 (.string ⟨#[70, 83, 82, 80, 65, 85]⟩) (some (.int .i64 5)) (some (.int .i64 6)) none).run Try.prog w = .ok (.string ⟨#[85]⟩) w := by kernel_rfl
theorem strF (a b : ByteArray) : (a.toList == b.toList) = decide (a = b) := by
  rw [Bool.eq_iff_iff, beq_iff_eq, decide_eq_true_eq, ByteArray.toList_eq, ByteArray.toList_eq]
  exact ⟨Go.WideShapes.bytes_inj, fun h => by rw [h]⟩
theorem ret_strF {a b : ByteArray} (h : a = b) : Ending.returned (.string a) = .returned (.string b) := by rw [h]
def TxI (f : Int) (w : World) (gh : Nat) (vs : Value) (wr : World) : Prop := ∃ k : Nat, 6 - k = gh ∧ k ≤ 6 ∧ vs = .string (txF f k) ∧ w.iter ⟨#[70, 83, 82, 80, 65, 85]⟩ k = wr
set_option maxRecDepth 100000 in
set_option maxHeartbeats 1000000 in
theorem text_any (f : Int) (w : World) (h : 0 ≤ f ∧ f ≤ 255) : Calls Try.prog 18 #[.int .u8 f] w fun e w' => e = .returned (.string (teF f)) ∧ Below w.heap.size w w' := by
  have n0 := nx_0 w
  have n1 := nx_1 w
  have n2 := nx_2 w
  have n3 := nx_3 w
  have n4 := nx_4 w
  have n5 := nx_5 w
  have n6 := nx_6 w
  have r0 := rs_0
  have b0 := byteF (P := fun x => (bits .and .u8 x 1 != 0) = hasF x 1) andv0_n h
  have r1 := rs_1
  have b1 := byteF (P := fun x => (bits .and .u8 x 2 != 0) = hasF x 2) andv1_n h
  have r2 := rs_2
  have b2 := byteF (P := fun x => (bits .and .u8 x 4 != 0) = hasF x 4) andv2_n h
  have r3 := rs_3
  have b3 := byteF (P := fun x => (bits .and .u8 x 8 != 0) = hasF x 8) andv3_n h
  have r4 := rs_4
  have b4 := byteF (P := fun x => (bits .and .u8 x 16 != 0) = hasF x 16) andv4_n h
  have r5 := rs_5
  have b5 := byteF (P := fun x => (bits .and .u8 x 32 != 0) = hasF x 32) andv5_n h
  have SZ := Lib.hid (tx_size f)
  go_enter Try.func18, Try.ntmps18
  go_wp2_with fail
  go_loopg [3] 6 (fun gh vs wr => TxI f w gh vs wr)
  case atStart => exact ⟨0, rfl, by omega, rfl, rfl⟩
  case round =>
    obtain ⟨k, rfl, hk, rfl, rfl⟩ := hrel
    obtain ⟨z0, z1, z2, z3, z4, z5, z6⟩ := SZ.out
    obtain rfl | rfl | rfl | rfl | rfl | rfl | rfl : k = 0 ∨ k = 1 ∨ k = 2 ∨ k = 3 ∨ k = 4 ∨ k = 5 ∨ k = 6 := by omega
    · have hs := z0
      clear z0 z1 z2 z3 z4 z5 z6
      cases hb : hasF f 1
      · have et : Hid (txF f 0 = txF f 1) := Lib.hid (by show _ = if hasF f 1 = true then txF f 0 ++ ⟨#[70]⟩ else txF f 0; rw [hb]; rfl)
        generalize txF f 0 = S at hs et ⊢
        rw [hb] at b0
        clear hb
        go_wp2_with fail
        go_roundg (6 - 1)
        case measure => omega
        case rel => exact ⟨1, rfl, by omega, by rw [et.out], rfl⟩
      · have et : Hid (txF f 0 ++ ⟨#[70]⟩ = txF f 1) := Lib.hid (by show _ = if hasF f 1 = true then txF f 0 ++ ⟨#[70]⟩ else txF f 0; rw [hb]; rfl)
        generalize txF f 0 = S at hs et ⊢
        rw [hb] at b0
        clear hb
        go_wp2_with fail
        go_roundg (6 - 1)
        case measure => omega
        case rel => exact ⟨1, rfl, by omega, by rw [← et.out], rfl⟩
    · have hs := z1
      clear z0 z1 z2 z3 z4 z5 z6
      cases hb : hasF f 2
      · have et : Hid (txF f 1 = txF f 2) := Lib.hid (by show _ = if hasF f 2 = true then txF f 1 ++ ⟨#[83]⟩ else txF f 1; rw [hb]; rfl)
        generalize txF f 1 = S at hs et ⊢
        rw [hb] at b1
        clear hb
        go_wp2_with fail
        go_roundg (6 - 2)
        case measure => omega
        case rel => exact ⟨2, rfl, by omega, by rw [et.out], rfl⟩
      · have et : Hid (txF f 1 ++ ⟨#[83]⟩ = txF f 2) := Lib.hid (by show _ = if hasF f 2 = true then txF f 1 ++ ⟨#[83]⟩ else txF f 1; rw [hb]; rfl)
        generalize txF f 1 = S at hs et ⊢
        rw [hb] at b1
        clear hb
        go_wp2_with fail
        go_roundg (6 - 2)
        case measure => omega
        case rel => exact ⟨2, rfl, by omega, by rw [← et.out], rfl⟩
    · have hs := z2
      clear z0 z1 z2 z3 z4 z5 z6
      cases hb : hasF f 4
      · have et : Hid (txF f 2 = txF f 3) := Lib.hid (by show _ = if hasF f 4 = true then txF f 2 ++ ⟨#[82]⟩ else txF f 2; rw [hb]; rfl)
        generalize txF f 2 = S at hs et ⊢
        rw [hb] at b2
        clear hb
        go_wp2_with fail
        go_roundg (6 - 3)
        case measure => omega
        case rel => exact ⟨3, rfl, by omega, by rw [et.out], rfl⟩
      · have et : Hid (txF f 2 ++ ⟨#[82]⟩ = txF f 3) := Lib.hid (by show _ = if hasF f 4 = true then txF f 2 ++ ⟨#[82]⟩ else txF f 2; rw [hb]; rfl)
        generalize txF f 2 = S at hs et ⊢
        rw [hb] at b2
        clear hb
        go_wp2_with fail
        go_roundg (6 - 3)
        case measure => omega
        case rel => exact ⟨3, rfl, by omega, by rw [← et.out], rfl⟩
    · have hs := z3
      clear z0 z1 z2 z3 z4 z5 z6
      cases hb : hasF f 8
      · have et : Hid (txF f 3 = txF f 4) := Lib.hid (by show _ = if hasF f 8 = true then txF f 3 ++ ⟨#[80]⟩ else txF f 3; rw [hb]; rfl)
        generalize txF f 3 = S at hs et ⊢
        rw [hb] at b3
        clear hb
        go_wp2_with fail
        go_roundg (6 - 4)
        case measure => omega
        case rel => exact ⟨4, rfl, by omega, by rw [et.out], rfl⟩
      · have et : Hid (txF f 3 ++ ⟨#[80]⟩ = txF f 4) := Lib.hid (by show _ = if hasF f 8 = true then txF f 3 ++ ⟨#[80]⟩ else txF f 3; rw [hb]; rfl)
        generalize txF f 3 = S at hs et ⊢
        rw [hb] at b3
        clear hb
        go_wp2_with fail
        go_roundg (6 - 4)
        case measure => omega
        case rel => exact ⟨4, rfl, by omega, by rw [← et.out], rfl⟩
    · have hs := z4
      clear z0 z1 z2 z3 z4 z5 z6
      cases hb : hasF f 16
      · have et : Hid (txF f 4 = txF f 5) := Lib.hid (by show _ = if hasF f 16 = true then txF f 4 ++ ⟨#[65]⟩ else txF f 4; rw [hb]; rfl)
        generalize txF f 4 = S at hs et ⊢
        rw [hb] at b4
        clear hb
        go_wp2_with fail
        go_roundg (6 - 5)
        case measure => omega
        case rel => exact ⟨5, rfl, by omega, by rw [et.out], rfl⟩
      · have et : Hid (txF f 4 ++ ⟨#[65]⟩ = txF f 5) := Lib.hid (by show _ = if hasF f 16 = true then txF f 4 ++ ⟨#[65]⟩ else txF f 4; rw [hb]; rfl)
        generalize txF f 4 = S at hs et ⊢
        rw [hb] at b4
        clear hb
        go_wp2_with fail
        go_roundg (6 - 5)
        case measure => omega
        case rel => exact ⟨5, rfl, by omega, by rw [← et.out], rfl⟩
    · have hs := z5
      clear z0 z1 z2 z3 z4 z5 z6
      cases hb : hasF f 32
      · have et : Hid (txF f 5 = txF f 6) := Lib.hid (by show _ = if hasF f 32 = true then txF f 5 ++ ⟨#[85]⟩ else txF f 5; rw [hb]; rfl)
        generalize txF f 5 = S at hs et ⊢
        rw [hb] at b5
        clear hb
        go_wp2_with fail
        go_roundg (6 - 6)
        case measure => omega
        case rel => exact ⟨6, rfl, by omega, by rw [et.out], rfl⟩
      · have et : Hid (txF f 5 ++ ⟨#[85]⟩ = txF f 6) := Lib.hid (by show _ = if hasF f 32 = true then txF f 5 ++ ⟨#[85]⟩ else txF f 5; rw [hb]; rfl)
        generalize txF f 5 = S at hs et ⊢
        rw [hb] at b5
        clear hb
        go_wp2_with fail
        go_roundg (6 - 6)
        case measure => omega
        case rel => exact ⟨6, rfl, by omega, by rw [← et.out], rfl⟩
    · have hs := z6
      clear z0 z1 z2 z3 z4 z5 z6 hs
      by_cases he : txF f 6 = ⟨#[]⟩
      · have et : Hid (⟨#[45]⟩ = teF f) := Lib.hid (by unfold teF; rw [if_pos he])
        rw [he]
        clear he
        go_wp2_with fail
        go_ret
        exact ⟨ret_strF et.out, new_iter (new_refl w) _ _⟩
      · have et : Hid (txF f 6 = teF f) := Lib.hid (by unfold teF; rw [if_neg he])
        generalize txF f 6 = S at he et ⊢
        have h1 : S.toList ≠ [] := fun h => he (Go.WideShapes.bytes_inj (by rw [← ByteArray.toList_eq]; exact h))
        have h2 : S.toList.isEmpty = false := by simpa using h1
        clear he
        go_wp2_with fail
        go_ret
        exact ⟨ret_strF et.out, new_iter (new_refl w) _ _⟩

def dvF (f : Int) : Nat → Int
  | 0 => f
  | k + 1 => dvF f k / 2
def RtI (f : Int) (w : World) (gh : Nat) (vf vs vi : Value) (wr : World) : Prop := ∃ k : Nat, 6 - k = gh ∧ k ≤ 6 ∧ vi = .int .i64 (k : Int) ∧ vf = .int .u8 (dvF f k) ∧ vs = .string (txF f k) ∧ w = wr
theorem dv_bd {f : Int} (h : 0 ≤ f ∧ f ≤ 255) : ∀ k, 0 ≤ dvF f k ∧ dvF f k ≤ 255
  | 0 => h
  | k + 1 => by have := dv_bd h k; unfold dvF; omega
theorem dv_0 (f : Int) : hasF f 1 = decide (dvF f 0 % 2 = 1) := decide_eq_decide.2 ⟨fun h => by simp only [dvF]; omega, fun h => by simp only [dvF] at h; omega⟩
theorem dv_1 (f : Int) : hasF f 2 = decide (dvF f 1 % 2 = 1) := decide_eq_decide.2 ⟨fun h => by simp only [dvF]; omega, fun h => by simp only [dvF] at h; omega⟩
theorem dv_2 (f : Int) : hasF f 4 = decide (dvF f 2 % 2 = 1) := decide_eq_decide.2 ⟨fun h => by simp only [dvF]; omega, fun h => by simp only [dvF] at h; omega⟩
theorem dv_3 (f : Int) : hasF f 8 = decide (dvF f 3 % 2 = 1) := decide_eq_decide.2 ⟨fun h => by simp only [dvF]; omega, fun h => by simp only [dvF] at h; omega⟩
theorem dv_4 (f : Int) : hasF f 16 = decide (dvF f 4 % 2 = 1) := decide_eq_decide.2 ⟨fun h => by simp only [dvF]; omega, fun h => by simp only [dvF] at h; omega⟩
theorem dv_5 (f : Int) : hasF f 32 = decide (dvF f 5 % 2 = 1) := decide_eq_decide.2 ⟨fun h => by simp only [dvF]; omega, fun h => by simp only [dvF] at h; omega⟩
set_option maxRecDepth 100000 in
set_option maxHeartbeats 1000000 in
theorem refText_any (f : Int) (w : World) (h : 0 ≤ f ∧ f ≤ 255) : Calls Try.prog 19 #[.int .u8 f] w fun e w' => e = .returned (.string (teF f)) ∧ w = w' := by
  have r0 := sl_0
  have r1 := sl_1
  have r2 := sl_2
  have r3 := sl_3
  have r4 := sl_4
  have r5 := sl_5
  have SZ := Lib.hid (tx_size f)
  have DB := Lib.hid (dv_bd h)
  have e0 : dvF f 0 = f := rfl
  go_enter Try.func19, Try.ntmps19
  go_wp2_with fail
  go_loopg [0, 3, 4] 6 (fun gh vf vs vi wr => RtI f w gh vf vs vi wr)
  case atStart => exact ⟨0, rfl, by omega, rfl, rfl, rfl, rfl⟩
  case round =>
    clear e0
    obtain ⟨k, rfl, hk, rfl, rfl, rfl, rfl⟩ := hrel
    obtain ⟨z0, z1, z2, z3, z4, z5, z6⟩ := SZ.out
    obtain rfl | rfl | rfl | rfl | rfl | rfl | rfl : k = 0 ∨ k = 1 ∨ k = 2 ∨ k = 3 ∨ k = 4 ∨ k = 5 ∨ k = 6 := by omega
    · have hs := z0
      clear z0 z1 z2 z3 z4 z5 z6
      have hd := DB.out 0
      have ev : Hid (dvF f 0 / 2 = dvF f 1) := Lib.hid rfl
      by_cases hb : dvF f 0 % 2 = 1
      · have et : Hid (txF f 0 ++ ⟨#[70]⟩ = txF f 1) := Lib.hid (by show _ = if hasF f 1 = true then txF f 0 ++ ⟨#[70]⟩ else txF f 0; rw [dv_0, decide_eq_true hb]; rfl)
        generalize txF f 0 = S at hs et ⊢
        generalize dvF f 0 = x at hd ev hb ⊢
        obtain ⟨x0, x1⟩ := hd
        have y1 : x.tdiv 2 = x / 2 := Int.tdiv_eq_ediv_of_nonneg x0
        have y2 : IntKind.u8.wrap (x / 2) = x / 2 := by rw [IntKind.wrap_u8]; omega
        go_wp2_with fail
        go_roundg (6 - 1)
        case measure => omega
        case rel => exact ⟨1, rfl, by omega, by go_num, by rw [← ev.out], by rw [← et.out], rfl⟩
      · have et : Hid (txF f 0 = txF f 1) := Lib.hid (by show _ = if hasF f 1 = true then txF f 0 ++ ⟨#[70]⟩ else txF f 0; rw [dv_0, decide_eq_false hb]; rfl)
        have hb2 : dvF f 0 % 2 = 0 := by omega
        generalize txF f 0 = S at hs et ⊢
        generalize dvF f 0 = x at hd ev hb hb2 ⊢
        clear hb
        obtain ⟨x0, x1⟩ := hd
        have y1 : x.tdiv 2 = x / 2 := Int.tdiv_eq_ediv_of_nonneg x0
        have y2 : IntKind.u8.wrap (x / 2) = x / 2 := by rw [IntKind.wrap_u8]; omega
        go_wp2_with fail
        go_roundg (6 - 1)
        case measure => omega
        case rel => exact ⟨1, rfl, by omega, by go_num, by rw [← ev.out], by rw [et.out], rfl⟩
    · have hs := z1
      clear z0 z1 z2 z3 z4 z5 z6
      have hd := DB.out 1
      have ev : Hid (dvF f 1 / 2 = dvF f 2) := Lib.hid rfl
      by_cases hb : dvF f 1 % 2 = 1
      · have et : Hid (txF f 1 ++ ⟨#[83]⟩ = txF f 2) := Lib.hid (by show _ = if hasF f 2 = true then txF f 1 ++ ⟨#[83]⟩ else txF f 1; rw [dv_1, decide_eq_true hb]; rfl)
        generalize txF f 1 = S at hs et ⊢
        generalize dvF f 1 = x at hd ev hb ⊢
        obtain ⟨x0, x1⟩ := hd
        have y1 : x.tdiv 2 = x / 2 := Int.tdiv_eq_ediv_of_nonneg x0
        have y2 : IntKind.u8.wrap (x / 2) = x / 2 := by rw [IntKind.wrap_u8]; omega
        go_wp2_with fail
        go_roundg (6 - 2)
        case measure => omega
        case rel => exact ⟨2, rfl, by omega, by go_num, by rw [← ev.out], by rw [← et.out], rfl⟩
      · have et : Hid (txF f 1 = txF f 2) := Lib.hid (by show _ = if hasF f 2 = true then txF f 1 ++ ⟨#[83]⟩ else txF f 1; rw [dv_1, decide_eq_false hb]; rfl)
        have hb2 : dvF f 1 % 2 = 0 := by omega
        generalize txF f 1 = S at hs et ⊢
        generalize dvF f 1 = x at hd ev hb hb2 ⊢
        clear hb
        obtain ⟨x0, x1⟩ := hd
        have y1 : x.tdiv 2 = x / 2 := Int.tdiv_eq_ediv_of_nonneg x0
        have y2 : IntKind.u8.wrap (x / 2) = x / 2 := by rw [IntKind.wrap_u8]; omega
        go_wp2_with fail
        go_roundg (6 - 2)
        case measure => omega
        case rel => exact ⟨2, rfl, by omega, by go_num, by rw [← ev.out], by rw [et.out], rfl⟩
    · have hs := z2
      clear z0 z1 z2 z3 z4 z5 z6
      have hd := DB.out 2
      have ev : Hid (dvF f 2 / 2 = dvF f 3) := Lib.hid rfl
      by_cases hb : dvF f 2 % 2 = 1
      · have et : Hid (txF f 2 ++ ⟨#[82]⟩ = txF f 3) := Lib.hid (by show _ = if hasF f 4 = true then txF f 2 ++ ⟨#[82]⟩ else txF f 2; rw [dv_2, decide_eq_true hb]; rfl)
        generalize txF f 2 = S at hs et ⊢
        generalize dvF f 2 = x at hd ev hb ⊢
        obtain ⟨x0, x1⟩ := hd
        have y1 : x.tdiv 2 = x / 2 := Int.tdiv_eq_ediv_of_nonneg x0
        have y2 : IntKind.u8.wrap (x / 2) = x / 2 := by rw [IntKind.wrap_u8]; omega
        go_wp2_with fail
        go_roundg (6 - 3)
        case measure => omega
        case rel => exact ⟨3, rfl, by omega, by go_num, by rw [← ev.out], by rw [← et.out], rfl⟩
      · have et : Hid (txF f 2 = txF f 3) := Lib.hid (by show _ = if hasF f 4 = true then txF f 2 ++ ⟨#[82]⟩ else txF f 2; rw [dv_2, decide_eq_false hb]; rfl)
        have hb2 : dvF f 2 % 2 = 0 := by omega
        generalize txF f 2 = S at hs et ⊢
        generalize dvF f 2 = x at hd ev hb hb2 ⊢
        clear hb
        obtain ⟨x0, x1⟩ := hd
        have y1 : x.tdiv 2 = x / 2 := Int.tdiv_eq_ediv_of_nonneg x0
        have y2 : IntKind.u8.wrap (x / 2) = x / 2 := by rw [IntKind.wrap_u8]; omega
        go_wp2_with fail
        go_roundg (6 - 3)
        case measure => omega
        case rel => exact ⟨3, rfl, by omega, by go_num, by rw [← ev.out], by rw [et.out], rfl⟩
    · have hs := z3
      clear z0 z1 z2 z3 z4 z5 z6
      have hd := DB.out 3
      have ev : Hid (dvF f 3 / 2 = dvF f 4) := Lib.hid rfl
      by_cases hb : dvF f 3 % 2 = 1
      · have et : Hid (txF f 3 ++ ⟨#[80]⟩ = txF f 4) := Lib.hid (by show _ = if hasF f 8 = true then txF f 3 ++ ⟨#[80]⟩ else txF f 3; rw [dv_3, decide_eq_true hb]; rfl)
        generalize txF f 3 = S at hs et ⊢
        generalize dvF f 3 = x at hd ev hb ⊢
        obtain ⟨x0, x1⟩ := hd
        have y1 : x.tdiv 2 = x / 2 := Int.tdiv_eq_ediv_of_nonneg x0
        have y2 : IntKind.u8.wrap (x / 2) = x / 2 := by rw [IntKind.wrap_u8]; omega
        go_wp2_with fail
        go_roundg (6 - 4)
        case measure => omega
        case rel => exact ⟨4, rfl, by omega, by go_num, by rw [← ev.out], by rw [← et.out], rfl⟩
      · have et : Hid (txF f 3 = txF f 4) := Lib.hid (by show _ = if hasF f 8 = true then txF f 3 ++ ⟨#[80]⟩ else txF f 3; rw [dv_3, decide_eq_false hb]; rfl)
        have hb2 : dvF f 3 % 2 = 0 := by omega
        generalize txF f 3 = S at hs et ⊢
        generalize dvF f 3 = x at hd ev hb hb2 ⊢
        clear hb
        obtain ⟨x0, x1⟩ := hd
        have y1 : x.tdiv 2 = x / 2 := Int.tdiv_eq_ediv_of_nonneg x0
        have y2 : IntKind.u8.wrap (x / 2) = x / 2 := by rw [IntKind.wrap_u8]; omega
        go_wp2_with fail
        go_roundg (6 - 4)
        case measure => omega
        case rel => exact ⟨4, rfl, by omega, by go_num, by rw [← ev.out], by rw [et.out], rfl⟩
    · have hs := z4
      clear z0 z1 z2 z3 z4 z5 z6
      have hd := DB.out 4
      have ev : Hid (dvF f 4 / 2 = dvF f 5) := Lib.hid rfl
      by_cases hb : dvF f 4 % 2 = 1
      · have et : Hid (txF f 4 ++ ⟨#[65]⟩ = txF f 5) := Lib.hid (by show _ = if hasF f 16 = true then txF f 4 ++ ⟨#[65]⟩ else txF f 4; rw [dv_4, decide_eq_true hb]; rfl)
        generalize txF f 4 = S at hs et ⊢
        generalize dvF f 4 = x at hd ev hb ⊢
        obtain ⟨x0, x1⟩ := hd
        have y1 : x.tdiv 2 = x / 2 := Int.tdiv_eq_ediv_of_nonneg x0
        have y2 : IntKind.u8.wrap (x / 2) = x / 2 := by rw [IntKind.wrap_u8]; omega
        go_wp2_with fail
        go_roundg (6 - 5)
        case measure => omega
        case rel => exact ⟨5, rfl, by omega, by go_num, by rw [← ev.out], by rw [← et.out], rfl⟩
      · have et : Hid (txF f 4 = txF f 5) := Lib.hid (by show _ = if hasF f 16 = true then txF f 4 ++ ⟨#[65]⟩ else txF f 4; rw [dv_4, decide_eq_false hb]; rfl)
        have hb2 : dvF f 4 % 2 = 0 := by omega
        generalize txF f 4 = S at hs et ⊢
        generalize dvF f 4 = x at hd ev hb hb2 ⊢
        clear hb
        obtain ⟨x0, x1⟩ := hd
        have y1 : x.tdiv 2 = x / 2 := Int.tdiv_eq_ediv_of_nonneg x0
        have y2 : IntKind.u8.wrap (x / 2) = x / 2 := by rw [IntKind.wrap_u8]; omega
        go_wp2_with fail
        go_roundg (6 - 5)
        case measure => omega
        case rel => exact ⟨5, rfl, by omega, by go_num, by rw [← ev.out], by rw [et.out], rfl⟩
    · have hs := z5
      clear z0 z1 z2 z3 z4 z5 z6
      have hd := DB.out 5
      have ev : Hid (dvF f 5 / 2 = dvF f 6) := Lib.hid rfl
      by_cases hb : dvF f 5 % 2 = 1
      · have et : Hid (txF f 5 ++ ⟨#[85]⟩ = txF f 6) := Lib.hid (by show _ = if hasF f 32 = true then txF f 5 ++ ⟨#[85]⟩ else txF f 5; rw [dv_5, decide_eq_true hb]; rfl)
        generalize txF f 5 = S at hs et ⊢
        generalize dvF f 5 = x at hd ev hb ⊢
        obtain ⟨x0, x1⟩ := hd
        have y1 : x.tdiv 2 = x / 2 := Int.tdiv_eq_ediv_of_nonneg x0
        have y2 : IntKind.u8.wrap (x / 2) = x / 2 := by rw [IntKind.wrap_u8]; omega
        go_wp2_with fail
        go_roundg (6 - 6)
        case measure => omega
        case rel => exact ⟨6, rfl, by omega, by go_num, by rw [← ev.out], by rw [← et.out], rfl⟩
      · have et : Hid (txF f 5 = txF f 6) := Lib.hid (by show _ = if hasF f 32 = true then txF f 5 ++ ⟨#[85]⟩ else txF f 5; rw [dv_5, decide_eq_false hb]; rfl)
        have hb2 : dvF f 5 % 2 = 0 := by omega
        generalize txF f 5 = S at hs et ⊢
        generalize dvF f 5 = x at hd ev hb hb2 ⊢
        clear hb
        obtain ⟨x0, x1⟩ := hd
        have y1 : x.tdiv 2 = x / 2 := Int.tdiv_eq_ediv_of_nonneg x0
        have y2 : IntKind.u8.wrap (x / 2) = x / 2 := by rw [IntKind.wrap_u8]; omega
        go_wp2_with fail
        go_roundg (6 - 6)
        case measure => omega
        case rel => exact ⟨6, rfl, by omega, by go_num, by rw [← ev.out], by rw [et.out], rfl⟩
    · have hs := z6
      clear z0 z1 z2 z3 z4 z5 z6 hs
      by_cases he : txF f 6 = ⟨#[]⟩
      · have et : Hid (⟨#[45]⟩ = teF f) := Lib.hid (by unfold teF; rw [if_pos he])
        rw [he]
        clear he
        go_wp2_with fail
        go_ret
        exact ⟨ret_strF et.out, rfl⟩
      · have et : Hid (txF f 6 = teF f) := Lib.hid (by unfold teF; rw [if_neg he])
        generalize txF f 6 = S at he et ⊢
        have h1 : S.toList ≠ [] := fun h => he (Go.WideShapes.bytes_inj (by rw [← ByteArray.toList_eq]; exact h))
        have h2 : S.toList.isEmpty = false := by simpa using h1
        clear he
        go_wp2_with fail
        go_ret
        exact ⟨ret_strF et.out, rfl⟩
end Go.Proofs.Ytfoaaoigkdbjmaa
