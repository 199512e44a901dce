/- Package option: what a kind is; the number of bytes; how many bytes an option has. The document's Size, May, num. -/
import Derived.Test.YtnkcnfkonifmhaaZOptM
import Derived.OwnWalk
namespace Go.Proofs.Ytnkcnfkonifmhaa
open Go.RowKit
set_option linter.unusedVariables false

/-- The shape of a kind. -/
def ShapeOf (k : Int) (w : World) (e : Ending) (w' : World) : Prop :=
  e = .returned (.tuple #[.agg #[.int .i64 (szO k : Int), .int .i64 (leO k : Int), .int .i64 (moO k : Int)], .bool (knO k)]) ∧ Below w.heap.size w w'
theorem shapeOf_any (k : Int) (w : World) : Calls Try.prog 62 #[.int .i64 k] w (ShapeOf k w) := by
  rcases kind_five k with rfl | rfl | rfl | rfl | h
  · go_enter Try.func62, Try.ntmps62
    go_wp2_with fail
    exact bodyPost_ret (v := .tuple #[.agg #[.int .i64 2, .int .i64 1, .int .i64 1], .bool true]) (by simp [results, Try.results62, go_sem]) rfl ⟨rfl, new_alloc (new_refl w) _⟩
  · go_enter Try.func62, Try.ntmps62
    go_wp2_with fail
    exact bodyPost_ret (v := .tuple #[.agg #[.int .i64 4, .int .i64 2, .int .i64 2], .bool true]) (by simp [results, Try.results62, go_sem]) rfl ⟨rfl, new_alloc (new_refl w) _⟩
  · go_enter Try.func62, Try.ntmps62
    go_wp2_with fail
    exact bodyPost_ret (v := .tuple #[.agg #[.int .i64 3, .int .i64 0, .int .i64 3], .bool true]) (by simp [results, Try.results62, go_sem]) rfl ⟨rfl, new_alloc (new_refl w) _⟩
  · go_enter Try.func62, Try.ntmps62
    go_wp2_with fail
    exact bodyPost_ret (v := .tuple #[.agg #[.int .i64 3, .int .i64 0, .int .i64 3], .bool true]) (by simp [results, Try.results62, go_sem]) rfl ⟨rfl, new_alloc (new_refl w) _⟩
  · have HN := Lib.hid h
    obtain ⟨h1, h2, h3, h4⟩ := h
    go_enter Try.func62, Try.ntmps62
    go_wp2_with fail
    exact bodyPost_ret (v := .tuple #[.agg #[.int .i64 0, .int .i64 0, .int .i64 0], .bool false]) (by simp [results, Try.results62, go_sem]) rfl ⟨by rw [sz_no HN.out, le_no HN.out, mo_no HN.out, knO, sz_no HN.out]; rfl, new_alloc (new_refl w) _⟩
theorem shapeK (k : Int) (b : Bool) (h : knO k = b) (w : World) : Calls Try.prog 62 #[.int .i64 k] w fun e w' => e = .returned (.tuple #[.agg #[.int .i64 (szO k : Int), .int .i64 (leO k : Int), .int .i64 (moO k : Int)], .bool b]) ∧ Below w.heap.size w w' := by
  subst h; exact shapeOf_any k w

theorem allows_any (a b c n : Nat) (w : World) :
    Calls Try.prog 69 #[.agg #[.int .i64 (a : Int), .int .i64 (b : Int), .int .i64 (c : Int)], .int .i64 (n : Int)] w fun e w' => e = .returned (.bool (decide (b ≤ n) && decide (n ≤ c))) ∧ Below w.heap.size w w' := by
  by_cases h : b ≤ n
  · have h0 : (b : Int) ≤ (n : Int) := by omega
    by_cases h' : n ≤ c
    · have h1 : (n : Int) ≤ (c : Int) := by omega
      have e1 : Hid ((decide (b ≤ n) && decide (n ≤ c)) = true) := Lib.hid (by simp [h, h'])
      clear h h'
      go_enter Try.func69, Try.ntmps69
      go_wp2_with fail
      go_ret
      exact ⟨ret_bool e1.out.symm, new_alloc (new_refl w) _⟩
    · have h1 : ¬ (n : Int) ≤ (c : Int) := by omega
      have e1 : Hid ((decide (b ≤ n) && decide (n ≤ c)) = false) := Lib.hid (by simp [h, h'])
      clear h h'
      go_enter Try.func69, Try.ntmps69
      go_wp2_with fail
      go_ret
      exact ⟨ret_bool e1.out.symm, new_alloc (new_refl w) _⟩
  · have h0 : ¬ (b : Int) ≤ (n : Int) := by omega
    have e1 : Hid ((decide (b ≤ n) && decide (n ≤ c)) = false) := Lib.hid (by simp [h])
    clear h
    go_enter Try.func69, Try.ntmps69
    go_wp2_with fail
    go_ret
    exact ⟨ret_bool e1.out.symm, new_alloc (new_refl w) _⟩

/-- The document's Size, May. -/
theorem refSize_any (k : Int) (w : World) : Calls Try.prog 44 #[.int .i64 k] w fun e w' => e = .returned (.int .i64 (szO k : Int)) ∧ w = w' := by
  rcases kind_five k with rfl | rfl | rfl | rfl | h
  iterate 4
    go_enter Try.func44, Try.ntmps44
    go_wp2_with fail
    go_ret
    exact ⟨rfl, rfl⟩
  · have HN := Lib.hid h
    have h3 : (k == 172) = false := by simp [h]
    have h4 : (k == 174) = false := by simp [h]
    have h1 : (k == 2) = false := by simp [h]
    have h2 : (k == 8) = false := by simp [h]
    clear h
    go_enter Try.func44, Try.ntmps44
    go_wp2_with fail
    go_ret
    exact ⟨by rw [sz_no HN.out]; rfl, rfl⟩
theorem may_two (n : Nat) : mayO 2 n = decide ((n : Int) = 1) := by
  have : (1 ≤ n ∧ n ≤ 1) ↔ (n : Int) = 1 := by omega
  simp [mayO, leO, moO, ← Bool.decide_and, this]
theorem may_eight (n : Nat) : mayO 8 n = decide ((n : Int) = 2) := by
  have : (2 ≤ n ∧ n ≤ 2) ↔ (n : Int) = 2 := by omega
  simp [mayO, leO, moO, ← Bool.decide_and, this]
theorem may_acc {k : Int} (h : k = 172 ∨ k = 174) (n : Nat) : mayO k n = decide ((n : Int) ≤ 3) := by
  have e : (n ≤ 3) ↔ ((n : Int) ≤ 3) := by omega
  rcases h with rfl | rfl <;> simp [mayO, leO, moO, e]
theorem refMay_any (k : Int) (n : Nat) (w : World) (hk : szO k ≠ 0) : Calls Try.prog 56 #[.int .i64 k, .int .i64 (n : Int)] w fun e w' => e = .returned (.bool (mayO k n)) ∧ w = w' := by
  rcases kind_five k with rfl | rfl | h | h | h
  · have e1 := Lib.hid (may_two n)
    clear hk
    go_enter Try.func56, Try.ntmps56
    go_wp2_with fail
    go_ret
    exact ⟨ret_bool (by rw [e1.out]; rfl), rfl⟩
  · have e1 := Lib.hid (may_eight n)
    clear hk
    go_enter Try.func56, Try.ntmps56
    go_wp2_with fail
    go_ret
    exact ⟨ret_bool (by rw [e1.out]; rfl), rfl⟩
  · have e1 := Lib.hid (may_acc (.inl h) n)
    subst h
    clear hk
    go_enter Try.func56, Try.ntmps56
    go_wp2_with fail
    go_ret
    exact ⟨ret_bool e1.out.symm, rfl⟩
  · have e1 := Lib.hid (may_acc (.inr h) n)
    subst h
    clear hk
    go_enter Try.func56, Try.ntmps56
    go_wp2_with fail
    go_ret
    exact ⟨ret_bool e1.out.symm, rfl⟩
  · exact absurd (sz_no h) hk

/-- The number of at most four bytes. -/
def NumO (w : World) (xs : List Int) (L gh : Nat) (vn vi : Value) (wr : World) : Prop := ∃ k : Nat, vi = .int .i64 (k : Int) ∧ L - k = gh ∧ k ≤ L ∧ vn = .int .u32 (numF (xs.take k)) ∧ w = wr
theorem or8O {y x : Int} (hy : 0 ≤ y ∧ y ≤ 16777215) (hx : 0 ≤ x ∧ x ≤ 255) : bits .or .u32 (y * 256) x = y * 256 + x := bits_join .u32 32 (by decide) wrapsF_u32 8 (y * 256) x (by omega) (by omega) (by omega) hx.1 (by omega) (by omega)
theorem refNum12_any (g off L c : Nat) (xs : List Int) (w : World) (h : LsK .u8 w g (some ⟨g, off, none⟩) xs) (hL : xs.length = L) (hb : bytS xs) (hL4 : L ≤ 4) :
    Calls Try.prog 57 #[.slice (some ⟨g, off, none⟩) L c] w fun e w' => e = .returned (.int .u32 (numF xs)) ∧ w = w' := by
  have HV := Lib.hid h
  have HL := Lib.hid hL
  have HB := Lib.hid hb
  clear h hL hb
  go_enter Try.func57, Try.ntmps57
  go_wp2_with fail
  go_loopg [3, 4] L (fun gh vn vi wr => NumO w xs L gh vn vi wr)
  case atStart => exact ⟨0, rfl, rfl, by omega, by simp [numF], rfl⟩
  case round =>
    obtain ⟨k, rfl, rfl, hk, rfl, rfl⟩ := hrel
    by_cases hlt : k < L
    · have k0 : (0 : Int) ≤ (k : Int) := by omega
      have k1 : (k : Int) < (L : Int) := by omega
      have c0 := HV.out.at HL.out hlt
      have b0 := bF_bd HB.out HL.out hlt
      have b1 := numF_bd HB.out k (by omega) (by have := HL.out; omega)
      have en : Hid (numF (xs.take k) * 256 + bF xs k = numF (xs.take (k + 1))) := Lib.hid (num_take (by have := HL.out; omega)).symm
      generalize bF xs k = x at *
      generalize numF (xs.take k) = y at *
      obtain ⟨x0, x1⟩ := b0
      obtain ⟨y0, y1⟩ := b1
      have e1 : IntKind.u32.wrap (y * 256) = y * 256 := by rw [IntKind.wrap_u32]; omega
      have e2 : IntKind.u32.wrap x = x := by rw [IntKind.wrap_u32]; omega
      have e3 : IntKind.u32.wrap (y * 256 + x) = y * 256 + x := by rw [IntKind.wrap_u32]; omega
      go_wp2_with fail
      go_roundg (L - (k + 1))
      case measure => omega
      case rel => exact ⟨k + 1, by go_num, rfl, by omega, by rw [en.out], rfl⟩
    · obtain rfl : k = L := by omega
      have e1 : xs.take k = xs := List.take_of_length_le (by have := HL.out; omega)
      rw [e1]
      clear e1
      go_wp2_with fail
      go_ret
      exact ⟨rfl, rfl⟩
theorem join12_any (g off L c : Nat) (xs : List Int) (w : World) (h : LsK .u8 w g (some ⟨g, off, none⟩) xs) (hL : xs.length = L) (hb : bytS xs) (hL4 : L ≤ 4) :
    Calls Try.prog 70 #[.slice (some ⟨g, off, none⟩) L c] w fun e w' => e = .returned (.int .u32 (numF xs)) ∧ w = w' := by
  have HV := Lib.hid h
  have HL := Lib.hid hL
  have HB := Lib.hid hb
  clear h hL hb
  go_enter Try.func70, Try.ntmps70
  go_wp2_with fail
  go_loopg [3, 8] L (fun gh vn vi wr => NumO w xs L gh vn vi wr)
  case atStart => exact ⟨0, rfl, rfl, by omega, by simp [numF], rfl⟩
  case round =>
    obtain ⟨k, rfl, rfl, hk, rfl, rfl⟩ := hrel
    by_cases hlt : k < L
    · have k0 : (0 : Int) ≤ (k : Int) := by omega
      have k1 : (k : Int) < (L : Int) := by omega
      have c0 := HV.out.at HL.out hlt
      have b0 := bF_bd HB.out HL.out hlt
      have b1 := numF_bd HB.out k (by omega) (by have := HL.out; omega)
      have en : Hid (numF (xs.take k) * 256 + bF xs k = numF (xs.take (k + 1))) := Lib.hid (num_take (by have := HL.out; omega)).symm
      generalize bF xs k = x at *
      generalize numF (xs.take k) = y at *
      have eo := or8O b1 b0
      obtain ⟨x0, x1⟩ := b0
      obtain ⟨y0, y1⟩ := b1
      have e1 : IntKind.u32.wrap (y * 256) = y * 256 := by rw [IntKind.wrap_u32]; omega
      have e2 : IntKind.u32.wrap x = x := by rw [IntKind.wrap_u32]; omega
      go_wp2_with fail
      go_roundg (L - (k + 1))
      case measure => omega
      case rel => exact ⟨k + 1, by go_num, rfl, by omega, by rw [en.out], rfl⟩
    · obtain rfl : k = L := by omega
      have e1 : xs.take k = xs := List.take_of_length_le (by have := HL.out; omega)
      rw [e1]
      clear e1
      go_wp2_with fail
      go_ret
      exact ⟨rfl, rfl⟩

/-- How many bytes the option has with which bytes begin. -/
def ExtO (bs : List Int) : Int × Int :=
  if bs.length < 2 then (0, 3) else if bF bs 1 < 2 then (0, 5) else if (bs.length : Int) < bF bs 1 then (0, 3) else (bF bs 1, 0)
theorem extent_few (A : Option Addr) (L c : Nat) (w : World) (h : L < 2) :
    Calls Try.prog 53 #[.slice A L c] w fun e w' => e = .returned (.tuple #[.int .i64 0, .int .i64 3]) ∧ w = w' := by
  have h0 : (L : Int) < 2 := by omega
  go_enter Try.func53, Try.ntmps53
  go_wp2_with fail
  go_ret2
  exact ⟨rfl, rfl⟩
theorem extent12_any (g off L c : Nat) (bs : List Int) (w : World) (h : LsK .u8 w g (some ⟨g, off, none⟩) bs) (hL : bs.length = L) (hb : bytS bs) (h2 : 2 ≤ L) :
    Calls Try.prog 53 #[.slice (some ⟨g, off, none⟩) L c] w fun e w' => e = .returned (.tuple #[.int .i64 (ExtO bs).1, .int .i64 (ExtO bs).2]) ∧ w = w' := by
  have h0 : ¬ (L : Int) < 2 := by omega
  have h1 : (1 : Int) < (L : Int) := by omega
  have c0 := h.at hL (i := 1) (by omega)
  have b0 := bF_bd hb hL (i := 1) (by omega)
  have e0 : Hid (ExtO bs = if bF bs 1 < 2 then (0, 5) else if (L : Int) < bF bs 1 then (0, 3) else (bF bs 1, 0)) := Lib.hid (by rw [ExtO, if_neg (by omega), hL])
  clear h hL hb h2
  generalize bF bs 1 = x at *
  obtain ⟨x0, x1⟩ := b0
  by_cases a : x < 2
  · have e1 : Hid (ExtO bs = (0, 5)) := Lib.hid (by rw [e0.out, if_pos a])
    go_enter Try.func53, Try.ntmps53
    go_wp2_with fail
    go_ret2
    exact ⟨by rw [e1.out]; rfl, rfl⟩
  · by_cases b : (L : Int) < x
    · have e1 : Hid (ExtO bs = (0, 3)) := Lib.hid (by rw [e0.out, if_neg a, if_pos b])
      go_enter Try.func53, Try.ntmps53
      go_wp2_with fail
      go_ret2
      exact ⟨by rw [e1.out]; rfl, rfl⟩
    · have e1 : Hid (ExtO bs = (x, 0)) := Lib.hid (by rw [e0.out, if_neg a, if_neg b])
      go_enter Try.func53, Try.ntmps53
      go_wp2_with fail
      go_ret2
      exact ⟨by rw [e1.out]; rfl, rfl⟩
end Go.Proofs.Ytnkcnfkonifmhaa
