/- Package nego and the document's own answers of layer 14: what tells a code, and which code is told. -/
import Derived.Test.YtelodojaicdebaaDoorEcnA
import Derived.Deep.LoopGhost
namespace Go.Proofs.YtelodojaicdebaaDoor
open Go.ChangeShapes Go.WideShapes Go.ChangeAt Go.RowKit

/-- The three bits that tell a code; 0 of none. -/
def shkC (c : Int) : Int := if c = 0 then 2 else if c = 1 then 3 else if c = 2 then 4 else if c = 3 then 6 else 0
/-- The code that three bits tell; else 0. -/
def shnC (a : Int) : Int := if a = 2 then 0 else if a = 3 then 1 else if a = 4 then 2 else if a = 6 then 3 else 0
/-- Do three bits tell a code? -/
def isShn (a : Int) : Bool := decide (a = 2 ∨ a = 3 ∨ a = 4 ∨ a = 6)
/-- A code; Not, if it is none. -/
def knwC (c : Int) : Int := if isC c then c else 0
/-- The package's table holds the codes' bits. -/
def ShkAt (w : World) : Prop := w.cell? ⟨0, 0, none⟩ = some (.int .u8 2) ∧ w.cell? ⟨0, 1, none⟩ = some (.int .u8 3) ∧ w.cell? ⟨0, 2, none⟩ = some (.int .u8 4) ∧ w.cell? ⟨0, 3, none⟩ = some (.int .u8 6)
theorem ShkAt.kept {w w1 : World} (h : ShkAt w) (hb : Below w.heap.size w w1) : ShkAt w1 := ⟨cell_kept hb h.1, cell_kept hb h.2.1, cell_kept hb h.2.2.1, cell_kept hb h.2.2.2⟩

theorem sh_at {a : Int} (k : Nat) (h4 : k < 4) (e : a = shkC (k : Int)) : (k : Int) = shnC a ∧ true = isShn a := by
  subst e
  match k, h4 with
  | 0, _ => decide
  | 1, _ => decide
  | 2, _ => decide
  | 3, _ => decide
theorem sh_none {a : Int} (h : ∀ j : Nat, j < 4 → a ≠ shkC (j : Int)) : 0 = shnC a ∧ false = isShn a := by
  have h0 : a ≠ 2 := h 0 (by omega)
  have h1 : a ≠ 3 := h 1 (by omega)
  have h2 : a ≠ 4 := h 2 (by omega)
  have h3 : a ≠ 6 := h 3 (by omega)
  simp [shnC, isShn, h0, h1, h2, h3]
theorem shkC_bd (c : Int) : 0 ≤ shkC c ∧ shkC c ≤ 6 := by unfold shkC; split <;> (try split) <;> (try split) <;> (try split) <;> omega
theorem code_cases (c : Int) : (c = 0 ∨ c = 1 ∨ c = 2 ∨ c = 3) ∨ isC c = false := by
  by_cases h : isC c = true
  · left; simp [isC] at h; omega
  · right; simpa using h

theorem known_any (c : Int) (w : World) : Calls Tryd.prog 18 #[.int .i64 c] w fun e w' => e = .returned (.int .i64 (knwC c)) ∧ w = w' := by
  have e : legalC c c = isC c := by simp [legalC]
  go_enter Tryd.func18, Tryd.ntmps18
  go_wp2_with (go_at_call 20; refine (legal_any _ _ _).mono ?_; rintro e w' ⟨rfl, rfl⟩)
  all_goals go_ret
  all_goals exact ⟨ret_int (by unfold knwC; simp_all), rfl⟩

theorem shake_any (c : Int) (w : World) (h : ShkAt w) : Calls Tryd.prog 8 #[.int .i64 c] w fun e w' => e = .returned (.int .u8 (shkC c)) ∧ w = w' := by
  obtain ⟨h0, h1, h2, h3⟩ := h
  rcases code_cases c with (rfl | rfl | rfl | rfl) | hc
  rotate_right
  · have k0 : knwC c = 0 := by simp [knwC, hc]
    have k1 : ¬ c = 0 := by intro x; subst x; revert hc; decide
    have k2 : shkC c = 0 := by
      have hh := hc
      simp [isC] at hh
      unfold shkC
      rw [if_neg (by omega), if_neg (by omega), if_neg (by omega), if_neg (by omega)]
    have k3 : ¬ 0 = c := fun x => k1 x.symm
    clear hc
    go_enter Tryd.func8, Tryd.ntmps8
    go_wp2_with (go_at_call 18; refine (known_any _ _).mono ?_; rintro e w' ⟨rfl, rfl⟩)
    go_ret
    exact ⟨ret_int k2.symm, rfl⟩
  all_goals
    have k0 : knwC 0 = 0 := by decide
    have k1 : knwC 1 = 1 := by decide
    have k2 : knwC 2 = 2 := by decide
    have k3 : knwC 3 = 3 := by decide
    go_enter Tryd.func8, Tryd.ntmps8
    go_wp2_with (go_at_call 18; refine (known_any _ _).mono ?_; rintro e w' ⟨rfl, rfl⟩)
    go_ret
    exact ⟨rfl, rfl⟩

theorem refShake_any (c : Int) (w : World) : Calls Tryd.prog 9 #[.int .i64 c] w fun e w' => e = .returned (.int .u8 (shkC c)) ∧ w = w' := by
  go_enter Tryd.func9, Tryd.ntmps9
  go_wp2_with fail
  all_goals go_ret
  all_goals exact ⟨ret_int (by unfold shkC; simp_all), rfl⟩

def ShnI (a : Int) (w : World) (gh : Nat) (v : Value) (wr : World) : Prop := ∃ k : Nat, gh = 4 - k ∧ v = .int .i64 (k : Int) ∧ k ≤ 4 ∧ (∀ j : Nat, j < k → a ≠ shkC (j : Int)) ∧ w = wr
theorem shn_next {a : Int} {k : Nat} (h : ∀ j : Nat, j < k → a ≠ shkC (j : Int)) (he : ¬ a = shkC (k : Int)) : ∀ j : Nat, j < k + 1 → a ≠ shkC (j : Int) := by
  intro j hj
  by_cases e : j = k
  · subst e; exact he
  · exact h j (by omega)

theorem refShaken_any (a : Int) (w : World) : Calls Tryd.prog 7 #[.int .u8 a] w fun e w' => e = .returned (.tuple #[.int .i64 (shnC a), .bool (isShn a)]) ∧ w = w' := by
  go_enter Tryd.func7, Tryd.ntmps7
  go_wp2_with fail
  go_loopg [4] 4 (fun gh v wr => ShnI a w gh v wr)
  case atStart => exact ⟨0, rfl, rfl, by omega, fun j hj => absurd hj (by omega), rfl⟩
  case round =>
    obtain ⟨k, rfl, rfl, hk, hn, rfl⟩ := hrel
    have HN := Lib.hid hn
    clear hn
    by_cases h4 : k < 4
    · by_cases he : a = shkC (k : Int)
      · have P := Lib.hid (sh_at k h4 he)
        have q : shkC (k : Int) = a := he.symm
        have q1 : (k : Int) < 4 := by omega
        clear HN he
        go_wp2_with (go_at_call 9; refine (refShake_any _ _).mono ?_; rintro e w' ⟨rfl, rfl⟩)
        go_ret2
        exact ⟨ret_ib P.out.1 P.out.2, rfl⟩
      · have q : ¬ shkC (k : Int) = a := fun e => he e.symm
        have q1 : (k : Int) < 4 := by omega
        have HE := Lib.hid (shn_next HN.out he)
        clear he HN
        go_wp2_with (go_at_call 9; refine (refShake_any _ _).mono ?_; rintro e w' ⟨rfl, rfl⟩)
        go_roundg (4 - (k + 1))
        case measure => omega
        case rel => exact ⟨k + 1, rfl, by go_num, by omega, HE.out, rfl⟩
    · obtain rfl : k = 4 := by omega
      have P := Lib.hid (sh_none HN.out)
      go_wp2_with fail
      go_ret2
      exact ⟨ret_ib P.out.1 P.out.2, rfl⟩

abbrev fourS : Value := .agg #[.int .u8 2, .int .u8 3, .int .u8 4, .int .u8 6]
theorem sdx0 (w : World) : (Instr.index 34 fourS (.int .i64 0)).run Tryd.prog w = .ok (.int .u8 2) w := by kernel_rfl
theorem sdx1 (w : World) : (Instr.index 34 fourS (.int .i64 1)).run Tryd.prog w = .ok (.int .u8 3) w := by kernel_rfl
theorem sdx2 (w : World) : (Instr.index 34 fourS (.int .i64 2)).run Tryd.prog w = .ok (.int .u8 4) w := by kernel_rfl
theorem sdx3 (w : World) : (Instr.index 34 fourS (.int .i64 3)).run Tryd.prog w = .ok (.int .u8 6) w := by kernel_rfl

theorem shaken_any (a : Int) (w : World) (h : ShkAt w) : Calls Tryd.prog 6 #[.int .u8 a] w fun e w' => e = .returned (.tuple #[.int .i64 (shnC a), .bool (isShn a)]) ∧ w = w' := by
  obtain ⟨h0, h1, h2, h3⟩ := h
  go_enter Tryd.func6, Tryd.ntmps6
  go_wp2_with fail
  clear h0 h1 h2 h3
  go_loopg [7] 4 (fun gh v wr => ShnI a w gh v wr)
  case atStart => exact ⟨0, rfl, rfl, by omega, fun j hj => absurd hj (by omega), rfl⟩
  case round =>
    obtain ⟨k, rfl, rfl, hk, hn, rfl⟩ := hrel
    have x0 := sdx0
    have x1 := sdx1
    have x2 := sdx2
    have x3 := sdx3
    have HN := Lib.hid hn
    clear hn
    obtain rfl | rfl | rfl | rfl | rfl : k = 0 ∨ k = 1 ∨ k = 2 ∨ k = 3 ∨ k = 4 := by omega
    rotate_right
    · have P := Lib.hid (sh_none HN.out)
      go_wp2_with fail
      go_ret2
      exact ⟨ret_ib P.out.1 P.out.2, rfl⟩
    · by_cases he : a = 2
      · have P := Lib.hid (sh_at 0 (by omega) he)
        clear HN
        subst he
        go_wp2_with fail
        go_ret2
        exact ⟨ret_ib P.out.1 P.out.2, rfl⟩
      · have hf : ¬ 2 = a := fun e => he e.symm
        have HE := Lib.hid (shn_next HN.out he)
        clear he HN
        go_wp2_with fail
        go_roundg (4 - 1)
        case measure => omega
        case rel => exact ⟨1, rfl, by go_num, by omega, HE.out, rfl⟩
    · by_cases he : a = 3
      · have P := Lib.hid (sh_at 1 (by omega) he)
        clear HN
        subst he
        go_wp2_with fail
        go_ret2
        exact ⟨ret_ib P.out.1 P.out.2, rfl⟩
      · have hf : ¬ 3 = a := fun e => he e.symm
        have HE := Lib.hid (shn_next HN.out he)
        clear he HN
        go_wp2_with fail
        go_roundg (4 - 2)
        case measure => omega
        case rel => exact ⟨2, rfl, by go_num, by omega, HE.out, rfl⟩
    · by_cases he : a = 4
      · have P := Lib.hid (sh_at 2 (by omega) he)
        clear HN
        subst he
        go_wp2_with fail
        go_ret2
        exact ⟨ret_ib P.out.1 P.out.2, rfl⟩
      · have hf : ¬ 4 = a := fun e => he e.symm
        have HE := Lib.hid (shn_next HN.out he)
        clear he HN
        go_wp2_with fail
        go_roundg (4 - 3)
        case measure => omega
        case rel => exact ⟨3, rfl, by go_num, by omega, HE.out, rfl⟩
    · by_cases he : a = 6
      · have P := Lib.hid (sh_at 3 (by omega) he)
        clear HN
        subst he
        go_wp2_with fail
        go_ret2
        exact ⟨ret_ib P.out.1 P.out.2, rfl⟩
      · have hf : ¬ 6 = a := fun e => he e.symm
        have HE := Lib.hid (shn_next HN.out he)
        clear he HN
        go_wp2_with fail
        go_roundg (4 - 4)
        case measure => omega
        case rel => exact ⟨4, rfl, by go_num, by omega, HE.out, rfl⟩

theorem start_any (a : Int) (w : World) (h : ShkAt w) : Calls Tryd.prog 12 #[.int .u8 a] w fun e w' => e = .returned (.int .i64 (if a = 6 then 6 else 5)) ∧ w = w' := by
  by_cases h6 : a = 6
  · subst h6
    have e1 : isShn 6 = true := by decide
    have e2 : shnC 6 = 3 := by decide
    go_enter Tryd.func12, Tryd.ntmps12
    go_wp2_with (go_at_call 6; refine (shaken_any _ _ h).mono ?_; rintro e w' ⟨rfl, rfl⟩)
    go_ret
    exact ⟨rfl, rfl⟩
  · have e2 : shnC a ≠ 3 := by
      unfold shnC; split <;> (try split) <;> (try split) <;> (try split) <;> omega
    cases e1 : isShn a with
    | true =>
      go_enter Tryd.func12, Tryd.ntmps12
      go_wp2_with (go_at_call 6; refine (shaken_any _ _ h).mono ?_; rintro e w' ⟨rfl, rfl⟩)
      all_goals go_ret
      all_goals exact ⟨ret_int (by simp_all), rfl⟩
    | false =>
      go_enter Tryd.func12, Tryd.ntmps12
      go_wp2_with (go_at_call 6; refine (shaken_any _ _ h).mono ?_; rintro e w' ⟨rfl, rfl⟩)
      all_goals go_ret
      all_goals exact ⟨ret_int (by simp_all), rfl⟩

/-- A mode, whatever the number. -/
def modN (n : Int) : Int := if n ≤ 0 then 0 else if n = 1 then 1 else 2
theorem modN_is (n : Int) : (n ≤ 0 ∧ modN n = 0) ∨ (n = 1 ∧ modN n = 1) ∨ (2 ≤ n ∧ modN n = 2) := by
  unfold modN
  obtain h | h | h : n ≤ 0 ∨ n = 1 ∨ 2 ≤ n := by omega
  · exact .inl ⟨h, by rw [if_pos h]⟩
  · exact .inr (.inl ⟨h, by rw [if_neg (by omega), if_pos h]⟩)
  · exact .inr (.inr ⟨h, by rw [if_neg (by omega), if_neg (by omega)]⟩)
theorem mode_any (n : Int) (w : World) : Calls Tryd.prog 19 #[.int .i64 n] w fun e w' => e = .returned (.int .i64 (modN n)) ∧ w = w' := by
  obtain h | h | h : n ≤ 0 ∨ n = 1 ∨ 2 ≤ n := by omega
  · have e : modN n = 0 := by unfold modN; rw [if_pos h]
    obtain h | rfl : n < 0 ∨ n = 0 := by omega
    · go_enter Tryd.func19, Tryd.ntmps19
      go_wp2_with fail
      all_goals go_ret
      all_goals exact ⟨ret_int (by rw [e]), rfl⟩
    · go_enter Tryd.func19, Tryd.ntmps19
      go_wp2_with fail
      all_goals go_ret
      all_goals exact ⟨ret_int (by rw [e]), rfl⟩
  · subst h
    go_enter Tryd.func19, Tryd.ntmps19
    go_wp2_with fail
    all_goals go_ret
    all_goals exact ⟨rfl, rfl⟩
  · have e : modN n = 2 := by unfold modN; rw [if_neg (by omega), if_neg (by omega)]
    obtain h | rfl : 2 < n ∨ n = 2 := by omega
    · have h1 : 0 < n := by omega
      go_enter Tryd.func19, Tryd.ntmps19
      go_wp2_with fail
      all_goals go_ret
      all_goals exact ⟨ret_int (by rw [e]), rfl⟩
    · go_enter Tryd.func19, Tryd.ntmps19
      go_wp2_with fail
      all_goals go_ret
      all_goals exact ⟨rfl, rfl⟩

/-- What asks for a mode. -/
def askN (n : Int) : Int := if 2 ≤ n then 7 else if n = 1 then 3 else 0
theorem ask_any (n : Int) (w : World) : Calls Tryd.prog 10 #[.int .i64 n] w fun e w' => e = .returned (.int .u8 (askN n)) ∧ w = w' := by
  obtain h | h | h : n ≤ 0 ∨ n = 1 ∨ 2 ≤ n := by omega
  · have e : modN n = 0 := by unfold modN; rw [if_pos h]
    have e2 : askN n = 0 := by unfold askN; rw [if_neg (by omega), if_neg (by omega)]
    clear h
    go_enter Tryd.func10, Tryd.ntmps10
    go_wp2_with (go_at_call 19; refine (mode_any _ _).mono ?_; rintro e w' ⟨rfl, rfl⟩)
    go_ret
    exact ⟨ret_int e2.symm, rfl⟩
  · have e : modN n = 1 := by unfold modN; rw [if_neg (by omega), if_pos h]
    have e2 : askN n = 3 := by unfold askN; rw [if_neg (by omega), if_pos h]
    clear h
    go_enter Tryd.func10, Tryd.ntmps10
    go_wp2_with (go_at_call 19; refine (mode_any _ _).mono ?_; rintro e w' ⟨rfl, rfl⟩)
    go_ret
    exact ⟨ret_int e2.symm, rfl⟩
  · have e : modN n = 2 := by unfold modN; rw [if_neg (by omega), if_neg (by omega)]
    have e2 : askN n = 7 := by unfold askN; rw [if_pos h]
    clear h
    go_enter Tryd.func10, Tryd.ntmps10
    go_wp2_with (go_at_call 19; refine (mode_any _ _).mono ?_; rintro e w' ⟨rfl, rfl⟩)
    go_ret
    exact ⟨ret_int e2.symm, rfl⟩
theorem refAsk_any (n : Int) (w : World) : Calls Tryd.prog 11 #[.int .i64 n] w fun e w' => e = .returned (.int .u8 (askN n)) ∧ w = w' := by
  obtain h | rfl | h : n ≤ 0 ∨ n = 1 ∨ 2 ≤ n := by omega
  · have e2 : askN n = 0 := by unfold askN; rw [if_neg (by omega), if_neg (by omega)]
    have h1 : n ≤ 1 := by omega
    have h2 : ¬ n = 1 := by omega
    go_enter Tryd.func11, Tryd.ntmps11
    go_wp2_with fail
    go_ret
    exact ⟨ret_int e2.symm, rfl⟩
  · go_enter Tryd.func11, Tryd.ntmps11
    go_wp2_with fail
    go_ret
    exact ⟨ret_int (by decide), rfl⟩
  · have e2 : askN n = 7 := by unfold askN; rw [if_pos h]
    have h1 : 1 < n := by omega
    go_enter Tryd.func11, Tryd.ntmps11
    go_wp2_with fail
    go_ret
    exact ⟨ret_int e2.symm, rfl⟩

/-- What answers a question, and on which mode. -/
def repB (ask c able : Int) : Int := if ask = 7 ∧ 2 ≤ able then shkC (knwC c) else if (ask = 7 ∨ ask = 3) ∧ 1 ≤ able then 1 else 0
def repM (ask able : Int) : Int := if ask = 7 ∧ 2 ≤ able then 2 else if (ask = 7 ∨ ask = 3) ∧ 1 ≤ able then 1 else 0
theorem ret_bi {k : IntKind} {a a' b b' : Int} (h : a = a') (h' : b = b') : Ending.returned (.tuple #[.int k a, .int .i64 b]) = .returned (.tuple #[.int k a', .int .i64 b']) := by rw [h, h']
theorem reply_any (q c n : Int) (w : World) (h : ShkAt w) : Calls Tryd.prog 14 #[.int .u8 q, .int .i64 c, .int .i64 n] w fun e w' => e = .returned (.tuple #[.int .u8 (repB q c n), .int .i64 (repM q n)]) ∧ w = w' := by
  have HS := Lib.hid h
  clear h
  rcases modN_is n with ⟨h, e⟩ | ⟨h, e⟩ | ⟨h, e⟩
  all_goals
    obtain h7 | ⟨h7, h3⟩ | ⟨h7, h3⟩ : q = 7 ∨ (¬ q = 7 ∧ q = 3) ∨ (¬ q = 7 ∧ ¬ q = 3) := by omega
    all_goals
      have HB : Hid (repB q c n = if q = 7 ∧ 2 ≤ n then shkC (knwC c) else if (q = 7 ∨ q = 3) ∧ 1 ≤ n then 1 else 0) := Lib.hid rfl
      have HM : Hid (repM q n = if q = 7 ∧ 2 ≤ n then 2 else if (q = 7 ∨ q = 3) ∧ 1 ≤ n then 1 else 0) := Lib.hid rfl
      have HN := Lib.hid h
      clear h
      go_enter Tryd.func14, Tryd.ntmps14
      go_wp2_with (first
        | (go_at_call 19; refine (mode_any _ _).mono ?_; rintro e w' ⟨rfl, rfl⟩)
        | (go_at_call 18; refine (known_any _ _).mono ?_; rintro e w' ⟨rfl, rfl⟩)
        | (go_at_call 8; refine (shake_any _ _ HS.out).mono ?_; rintro e w' ⟨rfl, rfl⟩))
      all_goals go_ret2
      all_goals exact ⟨ret_bi (by have := HN.out; rw [HB.out]; simp_all <;> omega) (by have := HN.out; rw [HM.out]; simp_all <;> omega), rfl⟩
end Go.Proofs.YtelodojaicdebaaDoor
