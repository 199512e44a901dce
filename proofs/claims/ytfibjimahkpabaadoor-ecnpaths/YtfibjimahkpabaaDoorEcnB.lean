/- Package ecn: names of codes (over what the package's table holds), and the code of a name. -/
import Derived.Test.YtfibjimahkpabaaDoorEcnA
import Derived.Deep.LoopGhost
namespace Go.Proofs.YtfibjimahkpabaaDoor
open Go.ChangeShapes Go.WideShapes Go.ChangeAt Go.RowKit

/-- The name of a code; none of others. -/
def nameC (c : Int) : ByteArray := if c = 0 then ⟨#[110, 111, 116]⟩ else if c = 1 then ⟨#[101, 99, 116, 49]⟩ else if c = 2 then ⟨#[101, 99, 116, 48]⟩ else if c = 3 then ⟨#[99, 101]⟩ else ⟨#[]⟩
theorem nameC_not {c : Int} (h : isC c = false) : nameC c = ⟨#[]⟩ := by
  simp [isC] at h
  unfold nameC
  rw [if_neg (by omega), if_neg (by omega), if_neg (by omega), if_neg (by omega)]
/-- The package's table holds the names. -/
def NamesAt (w : World) : Prop := w.cell? ⟨0, 0, none⟩ = some (.string (nameC 0)) ∧ w.cell? ⟨0, 1, none⟩ = some (.string (nameC 1)) ∧ w.cell? ⟨0, 2, none⟩ = some (.string (nameC 2)) ∧ w.cell? ⟨0, 3, none⟩ = some (.string (nameC 3))
theorem NamesAt.kept {w w1 : World} (h : NamesAt w) (hb : Below w.heap.size w w1) : NamesAt w1 := ⟨cell_kept hb h.1, cell_kept hb h.2.1, cell_kept hb h.2.2.1, cell_kept hb h.2.2.2⟩
theorem strB (a b : ByteArray) : (a.toList == b.toList) = decide (a = b) := by
  rw [Bool.eq_iff_iff, beq_iff_eq, decide_eq_true_eq, ByteArray.toList_eq, ByteArray.toList_eq]
  exact ⟨bytes_inj, fun h => by rw [h]⟩
theorem strNe {a b : ByteArray} (h : ¬ a = b) : (a.toList == b.toList) = false := by rw [strB]; exact decide_eq_false h
theorem strEq (a : ByteArray) : (a.toList == a.toList) = true := by simp
theorem ret_str {a b : ByteArray} (h : a = b) : Ending.returned (.string a) = .returned (.string b) := by rw [h]

theorem refName_any (c : Int) (w : World) : Calls Tryd.prog 6 #[.int .i64 c] w fun e w' => e = .returned (.string (nameC c)) ∧ w = w' := by
  go_enter Tryd.func6, Tryd.ntmps6
  go_wp2_with fail
  all_goals go_ret
  all_goals exact ⟨ret_str (by simp_all [nameC]), rfl⟩

theorem ecnName_any (c : Int) (w : World) (h : NamesAt w) : Calls Tryd.prog 7 #[.int .i64 c] w fun e w' => e = .returned (.string (nameC c)) ∧ w = w' := by
  obtain ⟨h0, h1, h2, h3⟩ := h
  have i0 : isC 0 = true := by decide
  have i1 : isC 1 = true := by decide
  have i2 : isC 2 = true := by decide
  have i3 : isC 3 = true := by decide
  by_cases hc : isC c = true
  · have hk : c = 0 ∨ c = 1 ∨ c = 2 ∨ c = 3 := by simp [isC] at hc; omega
    rcases hk with rfl | rfl | rfl | rfl
    all_goals
      go_enter Tryd.func7, Tryd.ntmps7
      go_wp2_with (go_at_call 15; refine (told_any _ _).mono ?_; rintro e w' ⟨rfl, rfl⟩)
      go_ret
      exact ⟨rfl, rfl⟩
  · have hf : isC c = false := by simpa using hc
    clear hc
    go_enter Tryd.func7, Tryd.ntmps7
    go_wp2_with (go_at_call 15; refine (told_any _ _).mono ?_; rintro e w' ⟨rfl, rfl⟩)
    go_ret
    exact ⟨ret_str (nameC_not hf).symm, rfl⟩

/-- Is a text a name? -/
def hasC (s : ByteArray) : Bool := decide (s = nameC 0 ∨ s = nameC 1 ∨ s = nameC 2 ∨ s = nameC 3)
/-- The code of a name; 0 of others. -/
def parC (s : ByteArray) : Int := if s = nameC 0 then 0 else if s = nameC 1 then 1 else if s = nameC 2 then 2 else if s = nameC 3 then 3 else 0
def ParI (s : ByteArray) (w : World) (gh : Nat) (v : Value) (wr : World) : Prop := ∃ k : Nat, gh = 4 - k ∧ v = .int .i64 (k : Int) ∧ k ≤ 4 ∧ (∀ j : Nat, j < k → s ≠ nameC (j : Int)) ∧ w = wr
theorem parC_at {s : ByteArray} (k : Nat) (h4 : k < 4) (h : ∀ j : Nat, j < k → s ≠ nameC (j : Int)) (e : s = nameC (k : Int)) : (k : Int) = parC s ∧ true = hasC s := by
  refine ⟨?_, ?_⟩
  · have q0 : ∀ a : Nat, a < 4 → ∀ b : Nat, b < 4 → nameC (a : Int) = nameC (b : Int) → a = b := by decide
    have q : ∀ a b : Nat, a < 4 → b < 4 → nameC (a : Int) = nameC (b : Int) → a = b := fun a b ha hb => q0 a ha b hb
    have k0 : s = nameC ((0 : Nat) : Int) → k = 0 := fun x => q k 0 h4 (by omega) (e.symm.trans x)
    have k1 : s = nameC ((1 : Nat) : Int) → k = 1 := fun x => q k 1 h4 (by omega) (e.symm.trans x)
    have k2 : s = nameC ((2 : Nat) : Int) → k = 2 := fun x => q k 2 h4 (by omega) (e.symm.trans x)
    have k3 : s = nameC ((3 : Nat) : Int) → k = 3 := fun x => q k 3 h4 (by omega) (e.symm.trans x)
    unfold parC
    split
    · next x => have := k0 x; omega
    split
    · next x => have := k1 x; omega
    split
    · next x => have := k2 x; omega
    split
    · next x => have := k3 x; omega
    next n0 n1 n2 n3 =>
      match k, h4, e with
      | 0, _, e => exact absurd e n0
      | 1, _, e => exact absurd e n1
      | 2, _, e => exact absurd e n2
      | 3, _, e => exact absurd e n3
  · have : s = nameC 0 ∨ s = nameC 1 ∨ s = nameC 2 ∨ s = nameC 3 := by
      match k, h4, e with
      | 0, _, e => exact .inl e
      | 1, _, e => exact .inr (.inl e)
      | 2, _, e => exact .inr (.inr (.inl e))
      | 3, _, e => exact .inr (.inr (.inr e))
    exact (decide_eq_true this).symm
theorem parC_none {s : ByteArray} (h : ∀ j : Nat, j < 4 → s ≠ nameC (j : Int)) : 0 = parC s ∧ false = hasC s := by
  have h0 : s ≠ nameC 0 := h 0 (by omega)
  have h1 : s ≠ nameC 1 := h 1 (by omega)
  have h2 : s ≠ nameC 2 := h 2 (by omega)
  have h3 : s ≠ nameC 3 := h 3 (by omega)
  simp [parC, hasC, h0, h1, h2, h3]

abbrev fourN : Value := .agg #[.string (nameC 0), .string (nameC 1), .string (nameC 2), .string (nameC 3)]
theorem idx0 (w : World) : (Instr.index 34 fourN (.int .i64 0)).run Tryd.prog w = .ok (.string (nameC 0)) w := by kernel_rfl
theorem idx1 (w : World) : (Instr.index 34 fourN (.int .i64 1)).run Tryd.prog w = .ok (.string (nameC 1)) w := by kernel_rfl
theorem idx2 (w : World) : (Instr.index 34 fourN (.int .i64 2)).run Tryd.prog w = .ok (.string (nameC 2)) w := by kernel_rfl
theorem idx3 (w : World) : (Instr.index 34 fourN (.int .i64 3)).run Tryd.prog w = .ok (.string (nameC 3)) w := by kernel_rfl

theorem parse_any (s : ByteArray) (w : World) (h : NamesAt w) : Calls Tryd.prog 5 #[.string s] w fun e w' => e = .returned (.tuple #[.int .i64 (parC s), .bool (hasC s)]) ∧ w = w' := by
  obtain ⟨h0, h1, h2, h3⟩ := h
  go_enter Tryd.func5, Tryd.ntmps5
  go_wp2_with fail
  clear h0 h1 h2 h3
  go_loopg [7] 4 (fun gh v wr => ParI s w gh v wr)
  case atStart => exact ⟨0, rfl, rfl, by omega, fun j hj => absurd hj (by omega), rfl⟩
  case round =>
    obtain ⟨k, rfl, rfl, hk, hn, rfl⟩ := hrel
    have x0 := idx0
    have x1 := idx1
    have x2 := idx2
    have x3 := idx3
    have HN := Lib.hid hn
    clear hn
    obtain rfl | rfl | rfl | rfl | rfl : k = 0 ∨ k = 1 ∨ k = 2 ∨ k = 3 ∨ k = 4 := by omega
    rotate_right
    · have P := Lib.hid (parC_none HN.out)
      go_wp2_with fail
      go_ret2
      exact ⟨ret_ib P.out.1 P.out.2, rfl⟩
    · by_cases he : s = nameC 0
      · have P := Lib.hid (parC_at 0 (by omega) HN.out he)
        clear HN
        subst he
        go_wp2_with fail
        go_ret2
        exact ⟨ret_ib P.out.1 P.out.2, rfl⟩
      · have hf : ((nameC 0).toList == s.toList) = false := strNe fun e => he e.symm
        have HE := Lib.hid he
        clear he
        go_wp2_with fail
        go_roundg (4 - 1)
        case measure => omega
        case rel => exact ⟨1, rfl, by go_num, by omega, fun j hj => by
          by_cases e : j = 0
          · subst e; exact HE.out
          · exact HN.out j (by omega), rfl⟩
    · by_cases he : s = nameC 1
      · have P := Lib.hid (parC_at 1 (by omega) HN.out he)
        clear HN
        subst he
        go_wp2_with fail
        go_ret2
        exact ⟨ret_ib P.out.1 P.out.2, rfl⟩
      · have hf : ((nameC 1).toList == s.toList) = false := strNe fun e => he e.symm
        have HE := Lib.hid he
        clear he
        go_wp2_with fail
        go_roundg (4 - 2)
        case measure => omega
        case rel => exact ⟨2, rfl, by go_num, by omega, fun j hj => by
          by_cases e : j = 1
          · subst e; exact HE.out
          · exact HN.out j (by omega), rfl⟩
    · by_cases he : s = nameC 2
      · have P := Lib.hid (parC_at 2 (by omega) HN.out he)
        clear HN
        subst he
        go_wp2_with fail
        go_ret2
        exact ⟨ret_ib P.out.1 P.out.2, rfl⟩
      · have hf : ((nameC 2).toList == s.toList) = false := strNe fun e => he e.symm
        have HE := Lib.hid he
        clear he
        go_wp2_with fail
        go_roundg (4 - 3)
        case measure => omega
        case rel => exact ⟨3, rfl, by go_num, by omega, fun j hj => by
          by_cases e : j = 2
          · subst e; exact HE.out
          · exact HN.out j (by omega), rfl⟩
    · by_cases he : s = nameC 3
      · have P := Lib.hid (parC_at 3 (by omega) HN.out he)
        clear HN
        subst he
        go_wp2_with fail
        go_ret2
        exact ⟨ret_ib P.out.1 P.out.2, rfl⟩
      · have hf : ((nameC 3).toList == s.toList) = false := strNe fun e => he e.symm
        have HE := Lib.hid he
        clear he
        go_wp2_with fail
        go_roundg (4 - 4)
        case measure => omega
        case rel => exact ⟨4, rfl, by go_num, by omega, fun j hj => by
          by_cases e : j = 3
          · subst e; exact HE.out
          · exact HN.out j (by omega), rfl⟩
end Go.Proofs.YtfibjimahkpabaaDoor
