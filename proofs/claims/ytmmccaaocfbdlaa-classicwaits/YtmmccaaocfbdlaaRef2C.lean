/- The document's own answers of layer 2, by bits: the order, differences, a number out of bits. -/
import Derived.Test.YtmmccaaocfbdlaaRef2B
import Derived.Test.YtmmccaaocfbdlaaWideA
namespace Go.Proofs.Ytmmccaaocfbdlaa
open Go.RowKit
set_option linter.unusedVariables false

theorem cmp_lt' {m n : Int} (h : m < n) : -1 = cmpI m n := by unfold cmpI; rw [if_pos h]
theorem cmp_gt' {m n : Int} (h : n < m) : 1 = cmpI m n := by unfold cmpI; rw [if_neg (by omega), if_neg (by omega)]
theorem cmp_eq' {m n : Int} (h : m = n) : 0 = cmpI m n := by unfold cmpI; rw [if_neg (by omega), if_pos h]

def CmpInv (a b : List Int) (M : Nat) (g : Nat) (vi : Value) : Prop := ∃ k : Nat, k ≤ M ∧ g = k ∧ vi = .int .i64 ((k : Int) - 1) ∧ val (a.drop k) = val (b.drop k)

theorem drop_same {a b : List Int} {j : Nat} (e : val (a.drop (j + 1)) = val (b.drop (j + 1))) (h : bitAt a j = bitAt b j) : val (a.drop j) = val (b.drop j) := by
  rw [val_drop a, val_drop b, e, h]

set_option maxHeartbeats 1000000 in
theorem refCmp_any (ga na ca gb nb cb : Nat) (a b : List Int) (w : World) (ra : Rd w ga na ca a) (rb : Rd w gb nb cb b) (ha : IsBits a) (hb : IsBits b) (hl : na ≤ 1000000) (hl' : nb ≤ 1000000) :
    Calls Try.prog 36 #[.slice (some ⟨ga, 0, none⟩) na ca, .slice (some ⟨gb, 0, none⟩) nb cb] w fun e w' => e = .returned (.int .i64 (cmpI (val a) (val b))) ∧ w = w' := by
  go_enter Try.func36, Try.ntmps36
  go_wp2
  all_goals
    go_loopg [5] (max na nb) (fun g vi wr => w = wr ∧ CmpInv a b (max na nb) g vi)
    case atStart => exact ⟨rfl, max na nb, by omega, rfl, by congr 1; omega, by rw [List.drop_eq_nil_of_le (by rw [← ra.1]; omega), List.drop_eq_nil_of_le (by rw [← rb.1]; omega)]⟩
    case round =>
      obtain ⟨rfl, k, hk, hg, rfl, he⟩ := hrel
      obtain rfl : k = gk := hg.symm
      have HE := Lib.hid he
      have HA := Lib.hid ha
      have HB := Lib.hid hb
      clear he
      cases k with
      | zero =>
        go_wp2
        all_goals go_ret
        all_goals exact ⟨ret_int (cmp_eq' (by simpa using HE.out)), rfl⟩
      | succ j =>
        have ej : ((j + 1 : Nat) : Int) - 1 = j := by omega
        rw [ej]
        clear ej
        have hx := bit01 ha j
        have hy := bit01 hb j
        have OX := Lib.hid (fun h : na ≤ j => bitAt_off (l := a) (i := j) (by rw [← ra.1]; exact h))
        have OY := Lib.hid (fun h : nb ≤ j => bitAt_off (l := b) (i := j) (by rw [← rb.1]; exact h))
        clear ha hb
        by_cases h1 : j < na <;> by_cases h2 : j < nb
        · have cx := ra.bit h1
          have cy := rb.bit h2
          rcases Int.lt_trichotomy (bitAt a j) (bitAt b j) with h | h | h
          · go_wp2
            all_goals go_ret
            all_goals exact ⟨ret_int (cmp_lt' (cmp_less HA.out HB.out j HE.out h)), rfl⟩
          · have H := Lib.hid h
            have n1 : ¬ bitAt a j < bitAt b j := by omega
            have n2 : ¬ bitAt b j < bitAt a j := by omega
            clear h
            go_wp2
            go_roundg j
            case measure => omega
            case rel => exact ⟨rfl, j, by omega, rfl, rfl, drop_same HE.out H.out⟩
          · have n1 : ¬ bitAt a j < bitAt b j := by omega
            go_wp2
            all_goals go_ret
            all_goals exact ⟨ret_int (cmp_gt' (cmp_less HB.out HA.out j HE.out.symm h)), rfl⟩
        · first
          | (exfalso; omega)
          | (have cx := ra.bit h1
             have e0 := Lib.hid (OY.out (by omega))
             by_cases h : bitAt a j = 0
             · have n2 : ¬ 0 < bitAt a j := by omega
               have H := Lib.hid h
               clear h
               go_wp2
               go_roundg j
               case measure => omega
               case rel => exact ⟨rfl, j, by omega, rfl, rfl, drop_same HE.out (by rw [H.out, e0.out])⟩
             · have n1 : ¬ bitAt a j < 0 := by omega
               have n2 : 0 < bitAt a j := by omega
               clear h
               go_wp2
               all_goals go_ret
               all_goals exact ⟨ret_int (cmp_gt' (cmp_less HB.out HA.out j HE.out.symm (by rw [e0.out]; omega))), rfl⟩)
        · first
          | (exfalso; omega)
          | (have cy := rb.bit h2
             have e0 := Lib.hid (OX.out (by omega))
             by_cases h : bitAt b j = 0
             · have n2 : ¬ 0 < bitAt b j := by omega
               have n3 : ¬ bitAt b j < 0 := by omega
               have H := Lib.hid h
               clear h
               go_wp2
               go_roundg j
               case measure => omega
               case rel => exact ⟨rfl, j, by omega, rfl, rfl, drop_same HE.out (by rw [H.out, e0.out])⟩
             · have n2 : 0 < bitAt b j := by omega
               clear h
               go_wp2
               all_goals go_ret
               all_goals exact ⟨ret_int (cmp_lt' (cmp_less HA.out HB.out j HE.out (by rw [e0.out]; omega))), rfl⟩)
        · have e0 := Lib.hid (OX.out (by omega))
          have e1 := Lib.hid (OY.out (by omega))
          go_wp2
          go_roundg j
          case measure => omega
          case rel => exact ⟨rfl, j, by omega, rfl, rfl, drop_same HE.out (by rw [e0.out, e1.out])⟩
end Go.Proofs.Ytmmccaaocfbdlaa
