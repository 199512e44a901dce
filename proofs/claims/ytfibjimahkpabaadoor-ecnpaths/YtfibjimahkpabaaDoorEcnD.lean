/- Package ecn: Names; the document's Names. -/
import Derived.Test.YtfibjimahkpabaaDoorEcnC
import Derived.Test.YtfibjimahkpabaaDoorJoinS
namespace Go.Proofs.YtfibjimahkpabaaDoor
open Go.RowKit
set_option linter.unusedVariables false

abbrev noS : ByteArray := ⟨#[]⟩
/-- 'make([]string, n)'. -/
theorem make_s (n : Nat) (h : n ≤ 1000000) (w : World) :
    (Instr.makeSlice 39 (.int .i64 (n : Int)) (.int .i64 (n : Int))).run Tryd.prog w = .ok (.slice (some ⟨w.heap.size, 0, none⟩) n n) (w.alloc (.cells (madeCells #[.string noS] n) 9)) :=
  run_make_row' 39 9 (.string noS) 16 (by kernel_rfl) (by kernel_rfl) rfl .i64 .i64 n (by omega) (by omega) w
theorem blk_made (n : Nat) (w : World) : Blk (w.alloc (.cells (madeCells #[.string noS] n) 9)) w.heap.size (List.replicate n (.string noS)) 9 := by
  have e : madeCells #[Value.string noS] n = (List.replicate n (Value.string noS)).toArray := by
    apply Array.toList_inj.1
    rw [toList_madeCells_one]
  rw [e]
  exact Blk.new w _ _
/-- The texts of the first k codes, the rest empty. -/
def saidC (l : List Int) (n k : Nat) : List Value := (l.take k).map (fun c => Value.string (nmC c)) ++ List.replicate (n - k) (.string noS)
theorem said_set {l : List Int} {n k : Nat} (hl : l.length = n) (hk : k < n) (u : Value) : ((saidC l n k).set k u).set k (.string (nmC (l[k]?.getD 0))) = saidC l n (k + 1) ∧ (saidC l n k).set k (.string (nmC (l[k]?.getD 0))) = saidC l n (k + 1) := by
  have h1 : (saidC l n k).set k (.string (nmC (l[k]?.getD 0))) = saidC l n (k + 1) := by
    unfold saidC
    have e : (List.map (fun c => Value.string (nmC c)) (l.take k)).length = k := by simp; omega
    rw [List.set_append, if_neg (by rw [e]; omega), e, Nat.sub_self, show n - k = (n - (k + 1)) + 1 by omega, List.replicate_succ, List.set_cons_zero, List.take_succ_eq_append_getElem (by omega), List.getElem?_eq_getElem (by omega)]
    simp only [List.map_append, List.map_cons, List.map_nil, List.append_assoc, List.cons_append, List.nil_append, Option.getD_some]
  exact ⟨by rw [List.set_set]; exact h1, h1⟩
theorem said_len {l : List Int} {n k : Nat} (hl : l.length = n) (hk : k ≤ n) : (saidC l n k).length = n := by
  unfold saidC; simp; omega
theorem said_last {l : List Int} {n : Nat} (hl : l.length = n) : saidC l n n = (l.map nmC).map Value.string := by
  unfold saidC; rw [List.take_of_length_le (by omega)]; simp
def NamI (w : World) (l : List Int) (n gh : Nat) (vi : Value) (wr : World) : Prop :=
  ∃ k : Nat, vi = .int .i64 (k : Int) ∧ n - k = gh ∧ k ≤ n ∧ Blk wr w.heap.size (saidC l n k) 9 ∧ Below w.heap.size w wr
theorem joinN_any (g c : Nat) (l : List Int) (n : Nat) (hn : l.length = n) (w : World) (h : Blk w g (saidC l n n) 9) (hN : n ≤ 1000) (hc : n ≤ c) :
    Calls Tryd.prog 19 #[.slice (some ⟨g, 0, none⟩) n c, .string ⟨#[45]⟩] w fun e w' => e = .returned (.string (nmsC l)) ∧ Below w.heap.size w w' := by
  refine join_any g 0 c (l.map nmC) n (by rw [List.length_map, hn]) ⟨#[45]⟩ w ?_ h.lt (by omega) hc (Nat.le_trans (nms_len l) (by omega))
  intro j x hx
  rw [Nat.zero_add]
  refine h.cell j ?_
  rw [said_last hn, List.getElem?_map, hx]; rfl
set_option maxHeartbeats 1000000 in
theorem names_any (g n cl : Nat) (A : Option Addr) (l : List Int) (w : World) (hl : LsK .i64 w g A l) (hL : l.length = n) (hn : n ≤ 1000) (hN : NamesAt w) :
    Calls Tryd.prog 11 #[.slice A n cl] w fun e w' => e = .returned (.string (nmsC l)) ∧ Below w.heap.size w w' := by
  have HV := Lib.hid hl
  have HL := Lib.hid hL
  have HN := Lib.hid hN
  clear hl hL hN
  have mk : ∀ w, (Instr.makeSlice 39 (.int .i64 (n : Int)) (.int .i64 (n : Int))).run Tryd.prog w = .ok (.slice (some ⟨w.heap.size, 0, none⟩) n n) (w.alloc (.cells (madeCells #[.string noS] n) 9)) := fun w => make_s n (by omega) w
  have n0 : (0 : Int) ≤ (n : Int) := by omega
  have O0 := Lib.hid (blk_made n w)
  have B0 := Lib.hid (new_alloc (new_refl w) (.cells (madeCells #[.string noS] n) 9))
  go_enter Tryd.func11, Tryd.ntmps11
  go_wp2_with fail
  go_loopg [11] n (fun gh vi wr => NamI w l n gh vi wr)
  case atStart => exact ⟨0, rfl, rfl, by omega, O0.out, B0.out⟩
  case round =>
    obtain ⟨k, rfl, rfl, hk, hO, hB⟩ := hrel
    by_cases hlt : k < n
    · have k0 : (0 : Int) ≤ (k : Int) := by omega
      have k1 : (k : Int) < (n : Int) := by omega
      have hk2 : k < l.length := by rw [HL.out]; exact hlt
      have hf := hO.frozen k
      have hg2 := hO.lt
      have hg1 : w.heap.size ≤ w.heap.size := Nat.le_refl _
      obtain ⟨u0, hu0⟩ : ∃ u, (saidC l n k)[k]? = some u := ⟨_, List.getElem?_eq_getElem (by rw [said_len HL.out hk]; exact hlt)⟩
      have hcl := hO.cell k hu0
      have HO := Lib.hid hO
      have HS := Lib.hid (fun u => said_set (l := l) HL.out hlt u)
      have HK := Lib.hid (HN.out.kept hB)
      clear hO
      rcases HV.out.kept hB with h0 | ⟨off, rfl, hcs⟩
      · simp [h0] at hk2
      have c0 := hcs k hk2
      clear hcs hk2
      generalize l[k]?.getD 0 = x at *
      cases hi : isC x with
      | true =>
        have hne : ((nameC x).toList == noS.toList) = false := strNe (nameC_some hi)
        have hne2 : (nameC x).toList.isEmpty = false := by
          rw [ByteArray.toList_eq]
          cases h : (nameC x).data.toList with
          | nil => exact absurd (Go.WideShapes.bytes_inj (by rw [h])) (nameC_some hi)
          | cons => rfl
        have EX : Hid (nmC x = nameC x) := Lib.hid (by unfold nmC; rw [if_pos hi])
        go_wp2_with (go_at_call 7; refine (ecnName_any _ _ HK.out).mono ?_; rintro e w' ⟨rfl, rfl⟩)
        go_roundg (n - (k + 1))
        case measure => omega
        case rel => exact ⟨k + 1, by go_num, rfl, by omega, by rw [← (HS.out u0).2, EX.out]; exact HO.out.set k _, new_set hB hg1 _⟩
      | false =>
        have hne : nameC x = noS := nameC_not hi
        have EX : Hid (nmC x = ⟨#[63]⟩) := Lib.hid (by unfold nmC; rw [hi]; rfl)
        go_wp2_with (go_at_call 7; refine (ecnName_any _ _ HK.out).mono ?_; rintro e w' ⟨rfl, rfl⟩)
        go_roundg (n - (k + 1))
        case measure => omega
        case rel => exact ⟨k + 1, by go_num, rfl, by omega, by rw [← (HS.out _).1, EX.out]; exact (HO.out.set k _).set k _, new_set (new_set hB hg1 _) hg1 _⟩
    · obtain rfl : k = n := by omega
      have hg2 := hO.lt
      have HO := Lib.hid hO
      clear hO
      go_wp2_with (go_at_call 19; refine (joinN_any _ _ l k HL.out _ HO.out (by omega) (by omega)).mono ?_; rintro e w1 ⟨rfl, B1⟩)
      go_ret
      exact ⟨rfl, new_then hB B1⟩

theorem nameC_size (c : Int) : (nameC c).size ≤ 4 := by
  unfold nameC
  split
  · decide
  split
  · decide
  split
  · decide
  split <;> decide
theorem nmsC_nil (a : ByteArray) : nmsC [] ++ a = a := by
  apply Go.WideShapes.bytes_inj
  simp [nmsC, Lib.join_nil]
def RNamI (w : World) (l : List Int) (n gh : Nat) (vs vi : Value) (wr : World) : Prop :=
  ∃ k : Nat, vi = .int .i64 (k : Int) ∧ n - k = gh ∧ k ≤ n ∧ vs = .string (nmsC (l.take k)) ∧ w = wr
set_option maxHeartbeats 1000000 in
theorem refNames_any (g n cl : Nat) (A : Option Addr) (l : List Int) (w : World) (hl : LsK .i64 w g A l) (hL : l.length = n) (hn : n ≤ 1000) :
    Calls Tryd.prog 12 #[.slice A n cl] w fun e w' => e = .returned (.string (nmsC l)) ∧ w = w' := by
  have HV := Lib.hid hl
  have HL := Lib.hid hL
  clear hl hL
  go_enter Tryd.func12, Tryd.ntmps12
  go_wp2_with fail
  go_loopg [3, 4] n (fun gh vs vi wr => RNamI w l n gh vs vi wr)
  case atStart => exact ⟨0, rfl, rfl, by omega, rfl, rfl⟩
  case round =>
    obtain ⟨k, rfl, rfl, hk, rfl, rfl⟩ := hrel
    by_cases hlt : k < n
    · have k0 : (0 : Int) ≤ (k : Int) := by omega
      have k1 : (k : Int) < (n : Int) := by omega
      have hk2 : k < l.length := by rw [HL.out]; exact hlt
      rcases HV.out with h0 | ⟨off, rfl, hcs⟩
      · simp [h0] at hk2
      have c0 := hcs k hk2
      have hx : l[k]? = some (l[k]?.getD 0) := by rw [List.getElem?_eq_getElem hk2]; rfl
      have hsz := nmsC_size (l.take k)
      have hsl : (l.take k).length ≤ k := List.length_take_le _ _
      cases k with
      | zero =>
        have E1 : Hid (nmsC (l.take 1) = nmC (l[0]?.getD 0)) := Lib.hid (by
          rw [List.take_succ_eq_append_getElem hk2, List.getElem?_eq_getElem hk2]; exact nmsC_one _)
        rw [Nat.add_zero] at c0
        have hs0 : (nmsC []).size ≤ 0 := nmsC_size []
        clear hcs hk2
        generalize l[0]?.getD 0 = x at *
        cases hi : isC x
        · have EX : Hid (nmC x = ⟨#[63]⟩) := Lib.hid (by unfold nmC; rw [hi]; rfl)
          go_wp2_with (go_at_call 13; refine (refIs_any _ _).mono ?_; rintro e w' ⟨rfl, rfl⟩)
          go_roundg (n - (0 + 1))
          case measure => omega
          case rel => exact ⟨0 + 1, by go_num, rfl, by omega, by rw [E1.out, EX.out]; exact congrArg Value.string (nmsC_nil _), rfl⟩
        · have EX : Hid (nmC x = nameC x) := Lib.hid (by unfold nmC; rw [if_pos hi])
          have hns := nameC_size x
          go_wp2_with (first
            | (go_at_call 13; refine (refIs_any _ _).mono ?_; rintro e w' ⟨rfl, rfl⟩)
            | (go_at_call 6; refine (refName_any _ _).mono ?_; rintro e w' ⟨rfl, rfl⟩))
          go_roundg (n - (0 + 1))
          case measure => omega
          case rel => exact ⟨0 + 1, by go_num, rfl, by omega, by rw [E1.out, EX.out]; exact congrArg Value.string (nmsC_nil _), rfl⟩
      | succ k =>
        have E1 : Hid (nmsC (l.take (k + 1 + 1)) = nmsC (l.take (k + 1)) ++ ⟨#[45]⟩ ++ nmC (l[k + 1]?.getD 0)) := Lib.hid (nmsC_take hx)
        clear hcs hk2 hx
        generalize l[k + 1]?.getD 0 = x at *
        generalize nmsC (l.take (k + 1)) = s at *
        have kp : (0 : Int) < (k : Int) + 1 := by omega
        cases hi : isC x
        · have EX : Hid (nmC x = ⟨#[63]⟩) := Lib.hid (by unfold nmC; rw [hi]; rfl)
          go_wp2_with (go_at_call 13; refine (refIs_any _ _).mono ?_; rintro e w' ⟨rfl, rfl⟩)
          go_roundg (n - (k + 1 + 1))
          case measure => omega
          case rel => exact ⟨k + 1 + 1, by go_num, rfl, by omega, by rw [E1.out, EX.out], rfl⟩
        · have EX : Hid (nmC x = nameC x) := Lib.hid (by unfold nmC; rw [if_pos hi])
          have hns := nameC_size x
          go_wp2_with (first
            | (go_at_call 13; refine (refIs_any _ _).mono ?_; rintro e w' ⟨rfl, rfl⟩)
            | (go_at_call 6; refine (refName_any _ _).mono ?_; rintro e w' ⟨rfl, rfl⟩))
          go_roundg (n - (k + 1 + 1))
          case measure => omega
          case rel => exact ⟨k + 1 + 1, by go_num, rfl, by omega, by rw [E1.out, EX.out], rfl⟩
    · obtain rfl : k = n := by omega
      have e1 : Hid (l.take k = l) := Lib.hid (List.take_of_length_le (by have := HL.out; omega))
      go_wp2_with fail
      go_ret
      exact ⟨ret_str (by rw [e1.out]), rfl⟩
end Go.Proofs.YtfibjimahkpabaaDoor
