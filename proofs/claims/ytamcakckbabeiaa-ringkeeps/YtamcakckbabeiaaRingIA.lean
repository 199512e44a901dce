/- Package ring at int: New, Len, place, At, Front: they make a row, or only read. -/
import Derived.Test.YtamcakckbabeiaaMem
import Derived.Deep.QuietTactic
import Derived.BigQuiet
import Derived.IntWalk
namespace Go.Proofs.Ytamcakckbabeiaa
namespace R0
open Go.RowKit
set_option linter.unusedVariables false

/-- The row's own block: its slots, the first item's slot, how many there are, how many there may be. -/
def RB (w : World) (b : Nat) (sv : Value) (f cnt most : Nat) : Prop := Blk w b [sv, .int .i64 (f : Int), .int .i64 (cnt : Int), .int .i64 (most : Int)] 64
theorem RB.c0 {w : World} {b f cnt most : Nat} {sv : Value} (h : RB w b sv f cnt most) : w.cell? ⟨b, 0, none⟩ = some sv := h.cell 0 rfl
theorem RB.c1 {w : World} {b f cnt most : Nat} {sv : Value} (h : RB w b sv f cnt most) : w.cell? ⟨b, 1, none⟩ = some (.int .i64 (f : Int)) := h.cell 1 rfl
theorem RB.c2 {w : World} {b f cnt most : Nat} {sv : Value} (h : RB w b sv f cnt most) : w.cell? ⟨b, 2, none⟩ = some (.int .i64 (cnt : Int)) := h.cell 2 rfl
theorem RB.c3 {w : World} {b f cnt most : Nat} {sv : Value} (h : RB w b sv f cnt most) : w.cell? ⟨b, 3, none⟩ = some (.int .i64 (most : Int)) := h.cell 3 rfl

theorem len_any (b : Nat) (cnt : Int) (w : World) (h2 : w.cell? ⟨b, 2, none⟩ = some (.int .i64 cnt)) :
    Calls Try.prog 28 #[.pointer (some ⟨b, 0, none⟩)] w fun e w' => e = .returned (.int .i64 cnt) ∧ w = w' := by
  go_enter Try.func28, Try.ntmps28
  go_wp2
  go_ret
  exact ⟨rfl, rfl⟩
theorem len_nil (w : World) :
    Calls Try.prog 28 #[.pointer none] w fun e w' => e = .returned (.int .i64 0) ∧ w = w' := by
  go_enter Try.func28, Try.ntmps28
  go_wp2
  go_ret
  exact ⟨rfl, rfl⟩

theorem place_any (b n c f i : Nat) (sp : Option Addr) (w : World) (h0 : w.cell? ⟨b, 0, none⟩ = some (.slice sp n c)) (h1 : w.cell? ⟨b, 1, none⟩ = some (.int .i64 (f : Int))) (hn : 1 ≤ n) (hf : f ≤ 65536) (hi : i ≤ 65536) :
    Calls Try.prog 32 #[.pointer (some ⟨b, 0, none⟩), .int .i64 (i : Int)] w (Reads w (.int .i64 (((f + i) % n : Nat) : Int))) := by
  have e1 : IntKind.i64.wrap ((f : Int) + (i : Int)) = (f : Int) + (i : Int) := IntWalk.i64_in _ (by omega)
  have e2 : ((f : Int) + (i : Int)).tmod (n : Int) = (((f + i) % n : Nat) : Int) := by
    rw [Int.tmod_eq_emod_of_nonneg (by omega)]; push_cast; rfl
  have e3 : ¬ (n : Int) = 0 := by omega
  go_enter Try.func32, Try.ntmps32
  go_wp2_with fail
  go_quiet (fail)
  go_wp2_with fail
  go_ret
  exact ⟨rfl, _, rfl⟩
theorem place_at (b n c f i p : Nat) (sp : Option Addr) (w : World) (h0 : w.cell? ⟨b, 0, none⟩ = some (.slice sp n c)) (h1 : w.cell? ⟨b, 1, none⟩ = some (.int .i64 (f : Int))) (hn : 1 ≤ n) (hf : f ≤ 65536) (hi : i ≤ 65536) (hp : Hid ((f + i) % n = p)) :
    Calls Try.prog 32 #[.pointer (some ⟨b, 0, none⟩), .int .i64 (i : Int)] w (Reads w (.int .i64 (p : Int))) := by
  have h := place_any b n c f i sp w h0 h1 hn hf hi
  rwa [hp.out] at h

theorem place_one (b n c f p : Nat) (sp : Option Addr) (w : World) (h0 : w.cell? ⟨b, 0, none⟩ = some (.slice sp n c)) (h1 : w.cell? ⟨b, 1, none⟩ = some (.int .i64 (f : Int))) (hn : 1 ≤ n) (hf : f ≤ 65536) (hp : Hid ((f + 1) % n = p)) :
    Calls Try.prog 32 #[.pointer (some ⟨b, 0, none⟩), .int .i64 1] w (Reads w (.int .i64 (p : Int))) := place_at b n c f 1 p sp w h0 h1 hn hf (by omega) hp

/-- There is no such item. -/
theorem at_out (b cnt : Nat) (i : Int) (w : World) (h2 : w.cell? ⟨b, 2, none⟩ = some (.int .i64 (cnt : Int))) (hi : i < 0 ∨ (cnt : Int) ≤ i) :
    Calls Try.prog 37 #[.pointer (some ⟨b, 0, none⟩), .int .i64 i] w (Reads w (.tuple #[.int .i64 0, .bool false])) := by
  by_cases h : i < 0
  · clear hi
    go_enter Try.func37, Try.ntmps37
    go_wp2
    go_ret2
    exact ⟨rfl, 0, rfl⟩
  · have h' : (cnt : Int) ≤ i := by omega
    clear hi
    go_enter Try.func37, Try.ntmps37
    go_wp2_with (go_at_call 28; refine (len_any _ _ _ h2).mono ?_; rintro e w' ⟨rfl, rfl⟩)
    go_ret2
    exact ⟨rfl, 0, rfl⟩
theorem at_nil (i : Int) (w : World) :
    Calls Try.prog 37 #[.pointer none, .int .i64 i] w (Reads w (.tuple #[.int .i64 0, .bool false])) := by
  by_cases h : i < 0
  · go_enter Try.func37, Try.ntmps37
    go_wp2
    go_ret2
    exact ⟨rfl, 0, rfl⟩
  · have h' : 0 ≤ i := by omega
    go_enter Try.func37, Try.ntmps37
    go_wp2_with (go_at_call 28; refine (len_nil _).mono ?_; rintro e w' ⟨rfl, rfl⟩)
    go_ret2
    exact ⟨rfl, 0, rfl⟩
theorem at_in (b g n c f cnt i p : Nat) (x : Int) (w : World) (h0 : w.cell? ⟨b, 0, none⟩ = some (.slice (some ⟨g, 0, none⟩) n c)) (h1 : w.cell? ⟨b, 1, none⟩ = some (.int .i64 (f : Int))) (h2 : w.cell? ⟨b, 2, none⟩ = some (.int .i64 (cnt : Int)))
    (hi : i < cnt) (hn : 1 ≤ n) (hm : n ≤ 65536) (hf : f ≤ 65536) (hc : cnt ≤ 65536) (hp : Hid ((f + i) % n = p)) (hx : w.cell? ⟨g, p, none⟩ = some (.int .i64 x)) :
    Calls Try.prog 37 #[.pointer (some ⟨b, 0, none⟩), .int .i64 (i : Int)] w (Reads w (.tuple #[.int .i64 x, .bool true])) := by
  have hpn : p < n := by have := hp.out; have := Nat.mod_lt (f + i) (show 0 < n by omega); omega
  have k1 : (0 : Int) ≤ (p : Int) := by omega
  have k2 : (p : Int) < (n : Int) := by omega
  have k3 : (i : Int) < (cnt : Int) := by omega
  have k4 : (0 : Int) ≤ (i : Int) := by omega
  go_enter Try.func37, Try.ntmps37
  go_wp2_with (go_at_call 28; refine (len_any _ _ _ h2).mono ?_; rintro e w' ⟨rfl, rfl⟩)
  go_quiet ((go_at_call 32; exact Reads.quiet (place_at b n c f i p _ _ h0 h1 hn hf (by omega) hp)))
  go_wp2_with fail
  go_ret2
  exact ⟨rfl, _, rfl⟩

/-- The first one. -/
theorem front_out (b : Nat) (w : World) (h2 : w.cell? ⟨b, 2, none⟩ = some (.int .i64 ((0 : Nat) : Int))) :
    Calls Try.prog 33 #[.pointer (some ⟨b, 0, none⟩)] w (Reads w (.tuple #[.int .i64 0, .bool false])) := by
  have H := at_out b 0 0 w h2 (.inr (by omega))
  clear h2
  have H' := Lib.hid H
  clear H
  go_enter Try.func33, Try.ntmps33
  go_wp2_with (go_at_call 37; refine H'.out.mono ?_; rintro e w' ⟨rfl, m, rfl⟩)
  go_ret2
  exact ⟨rfl, m, rfl⟩
theorem front_nil (w : World) :
    Calls Try.prog 33 #[.pointer none] w (Reads w (.tuple #[.int .i64 0, .bool false])) := by
  go_enter Try.func33, Try.ntmps33
  go_wp2_with (go_at_call 37; refine (at_nil _ _).mono ?_; rintro e w' ⟨rfl, m, rfl⟩)
  go_ret2
  exact ⟨rfl, m, rfl⟩
theorem front_in (b g n c f cnt p : Nat) (x : Int) (w : World) (h0 : w.cell? ⟨b, 0, none⟩ = some (.slice (some ⟨g, 0, none⟩) n c)) (h1 : w.cell? ⟨b, 1, none⟩ = some (.int .i64 (f : Int))) (h2 : w.cell? ⟨b, 2, none⟩ = some (.int .i64 (cnt : Int)))
    (hi : 0 < cnt) (hn : 1 ≤ n) (hm : n ≤ 65536) (hf : f ≤ 65536) (hc : cnt ≤ 65536) (hp : Hid ((f + 0) % n = p)) (hx : w.cell? ⟨g, p, none⟩ = some (.int .i64 x)) :
    Calls Try.prog 33 #[.pointer (some ⟨b, 0, none⟩)] w (Reads w (.tuple #[.int .i64 x, .bool true])) := by
  have H := Lib.hid (at_in b g n c f cnt 0 p x w h0 h1 h2 hi hn hm hf hc hp hx)
  clear h0 h1 h2 hx
  go_enter Try.func33, Try.ntmps33
  go_wp2_with (go_at_call 37; refine H.out.mono ?_; rintro e w' ⟨rfl, m, rfl⟩)
  go_ret2
  exact ⟨rfl, m, rfl⟩

/-- How many there may be. -/
def mst (most : Int) : Nat := (min (max most 0) 65536).toNat
theorem mst_le (most : Int) : mst most ≤ 65536 := by unfold mst; omega
theorem mst_eq (most : Int) : min (max most 0) 65536 = ((mst most : Nat) : Int) := by unfold mst; omega
theorem mst_nat (n : Nat) (h : n ≤ 65536) : mst (n : Int) = n := by unfold mst; omega
theorem new_any (most : Int) (w : World) :
    Calls Try.prog 25 #[.int .i64 most] w fun e w' => e = .returned (.pointer (some ⟨w.heap.size, 0, none⟩)) ∧ w' = w.alloc (.cells #[.slice none 0 0, .int .i64 0, .int .i64 0, .int .i64 ((mst most : Nat) : Int)] 64) := by
  obtain ⟨m, e⟩ : ∃ m, mst most = m := ⟨_, rfl⟩
  rw [e]
  by_cases h1 : most < 0
  · obtain rfl : m = 0 := by rw [← e]; unfold mst; omega
    clear e
    go_enter Try.func25, Try.ntmps25
    go_wp2
    go_ret
    exact ⟨rfl, rfl⟩
  · by_cases h2 : most ≤ 65536
    · obtain rfl : most = (m : Int) := by rw [← e]; unfold mst; omega
      clear e
      go_enter Try.func25, Try.ntmps25
      go_wp2
      go_ret
      exact ⟨rfl, rfl⟩
    · obtain rfl : m = 65536 := by rw [← e]; unfold mst; omega
      clear e
      go_enter Try.func25, Try.ntmps25
      go_wp2
      go_ret
      exact ⟨rfl, rfl⟩
end R0
end Go.Proofs.Ytamcakckbabeiaa
