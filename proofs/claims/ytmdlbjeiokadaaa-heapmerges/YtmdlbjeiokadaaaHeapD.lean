/- Package heap: settle, New, Len, Peek, Push. -/
import Derived.Test.YtmdlbjeiokadaaaHeapC
namespace Go.Proofs.Ytmdlbjeiokadaaa
open Go.RowKit
set_option linter.unusedVariables false

def SettleInv (w : World) (b g n c : Nat) (zs0 : List Wt) (p : Int) (gh : Nat) (vi : Value) (wr : World) : Prop :=
  ∃ (k : Nat) (zs : List Wt), vi = .int .i64 ((k : Int) - 1) ∧ k = gh ∧ k ≤ n ∧ SunkAt zs k ∧ zs.Perm zs0 ∧ HF wr b g n c zs p ∧ Out (fun k => k = g) w wr
set_option maxRecDepth 100000 in
set_option maxHeartbeats 1000000 in
theorem settle_any (b g n c : Nat) (zs : List Wt) (p : Int) (w : World) (h : HF w b g n c zs p) (hn : n ≤ 1000000) :
    Calls Try.prog 25 #[.pointer (some ⟨b, 0, none⟩)] w fun e w' => e = .returned (.tuple #[]) ∧ Settled w b g n c zs p w' := by
  have c0 := h.c0
  have hl := h.len
  have H := Lib.hid h
  have S := Lib.hid (sunk_half (zs := zs) (i := n / 2) (by omega))
  obtain ⟨m, hm⟩ : ∃ m, n / 2 = m := ⟨_, rfl⟩
  have e1 : (n : Int).tdiv 2 = (m : Int) := by rw [Int.tdiv_eq_ediv_of_nonneg (by omega)]; omega
  have e2 : (n : Int) / 2 = (m : Int) := by omega
  have m0 : (0 : Int) ≤ (m : Int) := by omega
  have m1 : (m : Int) ≤ 1000000 := by omega
  have hmn : m ≤ n := by omega
  rw [hm] at S
  clear h hl hm
  go_enter Try.func25, Try.ntmps25
  go_wp2_with fail
  go_loopg [2] m (fun gh vi wr => SettleInv w b g n c zs p gh vi wr)
  case atStart => exact ⟨m, zs, rfl, rfl, hmn, S.out, List.Perm.refl _, H.out, Out.refl _ _⟩
  case round =>
    clear c0 H S e1 e2 m0 m1 hmn
    obtain ⟨k, ys, rfl, rfl, hk, hs, hp, h, o⟩ := hrel
    cases k with
    | zero =>
      have e0 : ((0 : Nat) : Int) - 1 = -1 := rfl
      go_wp2_with fail
      go_end0
      exact ⟨rfl, ys, sunk_heap hs, hp, h, o⟩
    | succ k =>
      have e0 : ((k + 1 : Nat) : Int) - 1 = (k : Int) := by omega
      have k1 : (0 : Int) ≤ (k : Int) := by omega
      have k2 : (k : Int) ≤ 1000000 := by omega
      have HS := Lib.hid (sink_any b g n c k ys p wr h (by omega) hn hs)
      clear h hs
      rw [e0]
      go_wp2_with (first
        | (go_at_call 21; refine HS.out.mono ?_; rintro e w1 ⟨rfl, zs1, s1, p1, h1, o1⟩))
      go_roundg k
      case measure => omega
      case rel => exact ⟨k, zs1, rfl, rfl, by omega, s1, p1.trans hp, h1, o.trans o1 (fun _ _ e => e)⟩
theorem settle_none (b : Nat) (w : World) (c0 : w.cell? ⟨b, 0, none⟩ = some (.slice none 0 0)) :
    Calls Try.prog 25 #[.pointer (some ⟨b, 0, none⟩)] w fun e w' => e = .returned (.tuple #[]) ∧ w = w' := by
  go_enter Try.func25, Try.ntmps25
  go_wp2_with fail
  go_loopg [2] 0 (fun gh vi wr => vi = .int .i64 (-1) ∧ w = wr)
  case atStart => exact ⟨rfl, rfl⟩
  case round =>
    obtain ⟨rfl, rfl⟩ := hrel
    go_wp2_with fail
    go_end0
    exact ⟨rfl, rfl⟩

theorem new_heap (w : World) :
    Calls Try.prog 7 #[] w fun e w' => e = .returned (.pointer (some ⟨w.heap.size, 0, none⟩)) ∧ w' = w.alloc (.cells #[.slice none 0 0, .int .i64 0] 52) := by
  go_enter Try.func7, Try.ntmps7
  go_wp2
  go_ret
  exact ⟨rfl, rfl⟩
theorem len_raw (b n c : Nat) (A : Option Addr) (w : World) (c0 : w.cell? ⟨b, 0, none⟩ = some (.slice A n c)) :
    Calls Try.prog 16 #[.pointer (some ⟨b, 0, none⟩)] w fun e w' => e = .returned (.int .i64 (n : Int)) ∧ w = w' := by
  go_enter Try.func16, Try.ntmps16
  go_wp2
  go_ret
  exact ⟨rfl, rfl⟩
theorem len_nilH (w : World) :
    Calls Try.prog 16 #[.pointer none] w fun e w' => e = .returned (.int .i64 0) ∧ w = w' := by
  go_enter Try.func16, Try.ntmps16
  go_wp2
  go_ret
  exact ⟨rfl, rfl⟩
/-- An event's cells. -/
def encE (x : Ev) : List Value := [.int .i64 x.a, .int .i64 x.k, .int .i64 x.f, .int .i64 x.n]
abbrev aggE (x : Ev) : Value := .agg #[.int .i64 x.a, .int .i64 x.k, .int .i64 x.f, .int .i64 x.n]
abbrev noE : Value := .agg #[.int .i64 0, .int .i64 0, .int .i64 0, .int .i64 0]

theorem peek_out (b c : Nat) (A : Option Addr) (w : World) (c0 : w.cell? ⟨b, 0, none⟩ = some (.slice A 0 c)) :
    Calls Try.prog 15 #[.pointer (some ⟨b, 0, none⟩)] w fun e w' => e = .returned (.tuple #[noE, .bool false]) ∧ Below w.heap.size w w' := by
  have C0 := cell_kept (new_alloc (new_refl w) (.cells #[.int .i64 0, .int .i64 0, .int .i64 0, .int .i64 0] 27)) c0
  go_enter Try.func15, Try.ntmps15
  go_wp2_with (first | (go_at_call 16; refine (len_raw b 0 c A _ C0).mono ?_; rintro e w' ⟨rfl, rfl⟩))
  exact bodyPost_ret (v := .tuple #[noE, .bool false]) (by simp [results, Try.results15, go_sem]) rfl ⟨rfl, new_alloc (new_refl w) _⟩
theorem peek_nilH (w : World) :
    Calls Try.prog 15 #[.pointer none] w fun e w' => e = .returned (.tuple #[noE, .bool false]) ∧ Below w.heap.size w w' := by
  go_enter Try.func15, Try.ntmps15
  go_wp2_with (first | (go_at_call 16; refine (len_nilH _).mono ?_; rintro e w' ⟨rfl, rfl⟩))
  exact bodyPost_ret (v := .tuple #[noE, .bool false]) (by simp [results, Try.results15, go_sem]) rfl ⟨rfl, new_alloc (new_refl w) _⟩
set_option maxRecDepth 100000 in
theorem peek_in (b g n c : Nat) (x : Wt) (w : World) (c0 : w.cell? ⟨b, 0, none⟩ = some (.slice (some ⟨g, 0, none⟩) n c)) (hn : 0 < n) (h : Five w g 0 x) :
    Calls Try.prog 15 #[.pointer (some ⟨b, 0, none⟩)] w fun e w' => e = .returned (.tuple #[aggE x.ev, .bool true]) ∧ Below w.heap.size w w' := by
  have BA := new_alloc (new_refl w) (.cells #[.int .i64 0, .int .i64 0, .int .i64 0, .int .i64 0] 27)
  have C0 := cell_kept BA c0
  obtain ⟨a0, a1, a2, a3, a4⟩ := h
  rw [Nat.zero_mul] at a0
  rw [Nat.zero_mul, Nat.zero_add] at a1 a2 a3 a4
  have hb := World.block_lt_of_cell? w _ c0
  have hg := World.block_lt_of_cell? w _ a0
  have n1 : ¬ b = w.heap.size := by simp at hb; omega
  have n2 : ¬ g = w.heap.size := by simp at hg; omega
  have k0 : ¬ (n : Int) = 0 := by omega
  have k1 : (0 : Int) < (n : Int) := by omega
  have k2 : ¬ n = 0 := by omega
  go_enter Try.func15, Try.ntmps15
  go_wp2_with (first | (go_at_call 16; refine (len_raw b n c _ _ C0).mono ?_; rintro e w' ⟨rfl, rfl⟩))
  exact bodyPost_ret (v := .tuple #[aggE x.ev, .bool true]) (by simp [results, Try.results15, go_sem, Wt.ev]) rfl ⟨rfl, new_alloc (new_refl w) _⟩
end Go.Proofs.Ytmdlbjeiokadaaa
