/- Package heap: what a heap is in memory; ahead, swap. -/
import Derived.Test.YtmdlbjeiokadaaaHeapA
import Derived.Test.YtmdlbjeiokadaaaRowE
import Derived.BigRegion
import Derived.Shelf.SlSortCmp.QuietGrown
namespace Go.Proofs.Ytmdlbjeiokadaaa
open Go.RowKit
open Go.Sort (grow)
set_option linter.unusedVariables false

theorem encW_is : IsEnc encW 5 := ⟨by decide, encW_len, encW_one⟩
theorem strW : IsStr 50 58 (.agg #[.int .i64 0, .int .i64 0, .int .i64 0, .int .i64 0, .int .i64 0]) 5 40 := ⟨by kernel_rfl, by kernel_rfl, rfl, by decide⟩
/-- The slice v holds these that wait, in a row of its own. -/
abbrev OwnW (w : World) (base : Nat) (v : Value) (zs : List Wt) : Prop := OwnE encW 5 58 w base v zs

/-- What a call that only draws and makes memory leaves. -/
def Grew (w w' : World) : Prop := ∃ q os, w' = grow (w.drewN q) os
theorem Grew.below {w w' : World} (h : Grew w w') : Below w.heap.size w w' := by
  obtain ⟨q, os, rfl⟩ := h
  refine ⟨rfl, rfl, rfl, by simp [grow, World.drewN], fun k hk => ?_⟩
  show (w.heap ++ os)[k]? = w.heap[k]?
  rw [Array.getElem?_append_left hk]

/-- A heap at block b, whose row lies at block g. -/
def HF (w : World) (b g n c : Nat) (zs : List Wt) (p : Int) : Prop :=
  Blk w b [.slice (some ⟨g, 0, none⟩) n c, .int .i64 p] 52 ∧ OwnW w 0 (.slice (some ⟨g, 0, none⟩) n c) zs ∧ g ≠ b
theorem HF.len {w : World} {b g n c : Nat} {zs : List Wt} {p : Int} (h : HF w b g n c zs p) : zs.length = n := h.2.1.len.1
theorem HF.lt {w : World} {b g n c : Nat} {zs : List Wt} {p : Int} (h : HF w b g n c zs p) : b < w.heap.size ∧ g < w.heap.size := ⟨h.1.lt, (h.2.1.lt encW_is).2⟩
theorem HF.out {F : Nat → Prop} {w w' : World} {b g n c : Nat} {zs : List Wt} {p : Int} (h : HF w b g n c zs p) (o : Out F w w') (hb : ¬ F b) (hg : ¬ F g) : HF w' b g n c zs p :=
  ⟨h.1.out o hb, h.2.1.out o (fun k e => by simp [Value.ownBlock] at e; subst e; exact hg), h.2.2⟩
theorem HF.kept {w w' : World} {b g n c : Nat} {zs : List Wt} {p : Int} (h : HF w b g n c zs p) (o : Below w.heap.size w w') : HF w' b g n c zs p := h.out (F := fun _ => False) (Out.of o _) (fun x => x) (fun x => x)
theorem HF.c0 {w : World} {b g n c : Nat} {zs : List Wt} {p : Int} (h : HF w b g n c zs p) : w.cell? ⟨b, 0, none⟩ = some (.slice (some ⟨g, 0, none⟩) n c) := h.1.cell 0 rfl
theorem HF.c1 {w : World} {b g n c : Nat} {zs : List Wt} {p : Int} (h : HF w b g n c zs p) : w.cell? ⟨b, 1, none⟩ = some (.int .i64 p) := h.1.cell 1 rfl

/-- The five cells of the one at i. -/
def Five (w : World) (g i : Nat) (x : Wt) : Prop :=
  w.cell? ⟨g, i * 5, none⟩ = some (.int .i64 x.a) ∧ w.cell? ⟨g, i * 5 + 1, none⟩ = some (.int .i64 x.k) ∧ w.cell? ⟨g, i * 5 + 2, none⟩ = some (.int .i64 x.f) ∧ w.cell? ⟨g, i * 5 + 3, none⟩ = some (.int .i64 x.n) ∧ w.cell? ⟨g, i * 5 + 4, none⟩ = some (.int .i64 x.t)
theorem own_five {w : World} {base g n c : Nat} {zs : List Wt} (h : OwnW w base (.slice (some ⟨g, 0, none⟩) n c) zs) {i : Nat} (hi : i < zs.length) : Five w g i (nth zs i) := by
  rw [nth_eq hi]
  exact ⟨h.cells encW_is hi (j := 0) rfl, h.cells encW_is hi (j := 1) rfl, h.cells encW_is hi (j := 2) rfl, h.cells encW_is hi (j := 3) rfl, h.cells encW_is hi (j := 4) rfl⟩
theorem HF.five {w : World} {b g n c : Nat} {zs : List Wt} {p : Int} (h : HF w b g n c zs p) {i : Nat} (hi : i < zs.length) : Five w g i (nth zs i) := own_five h.2.1 hi

set_option maxRecDepth 100000 in
set_option maxHeartbeats 1000000 in
theorem ahead_raw (b g n c i j : Nat) (x y : Wt) (w : World) (hb : b < w.heap.size) (hg : g < w.heap.size) (h0 : w.cell? ⟨b, 0, none⟩ = some (.slice (some ⟨g, 0, none⟩) n c)) (hi : i < n) (hj : j < n) (hx : Five w g i x) (hy : Five w g j y) :
    Calls Try.prog 22 #[.pointer (some ⟨b, 0, none⟩), .int .i64 (i : Int), .int .i64 (j : Int)] w fun e w' => e = .returned (.bool (decide (ordv x y < 0))) ∧ Grew w w' := by
  have mixed : Try.prog.follows .mixedOrders = true := by kernel_rfl
  have k0 : (0 : Int) ≤ (i : Int) := by omega
  have k1 : (i : Int) < (n : Int) := by omega
  have k2 : (0 : Int) ≤ (j : Int) := by omega
  have k3 : (j : Int) < (n : Int) := by omega
  obtain ⟨a0, a1, a2, a3, a4⟩ := hx
  obtain ⟨b0, b1, b2, b3, b4⟩ := hy
  have H0 := cell_grown (a := ⟨b, 0, none⟩) hb h0
  have A0 := cell_grown (a := ⟨g, i * 5, none⟩) hg a0
  have A1 := cell_grown (a := ⟨g, i * 5 + 1, none⟩) hg a1
  have A2 := cell_grown (a := ⟨g, i * 5 + 2, none⟩) hg a2
  have A3 := cell_grown (a := ⟨g, i * 5 + 3, none⟩) hg a3
  have A4 := cell_grown (a := ⟨g, i * 5 + 4, none⟩) hg a4
  have B0 := cell_grown (a := ⟨g, j * 5, none⟩) hg b0
  have B1 := cell_grown (a := ⟨g, j * 5 + 1, none⟩) hg b1
  have B2 := cell_grown (a := ⟨g, j * 5 + 2, none⟩) hg b2
  have B3 := cell_grown (a := ⟨g, j * 5 + 3, none⟩) hg b3
  have B4 := cell_grown (a := ⟨g, j * 5 + 4, none⟩) hg b4
  clear h0 a0 a1 a2 a3 a4 b0 b1 b2 b3 b4
  go_enter Try.func22, Try.ntmps22
  go_wp2_with fail
  go_quiet_grown (first | (go_at_call 29; refine Calls.grown_of (order_any x y _)))
  go_wp2_with fail
  go_ret
  exact ⟨rfl, nq, osq, rfl⟩
theorem ahead_any (b g n c i j : Nat) (zs : List Wt) (p : Int) (w : World) (h : HF w b g n c zs p) (hi : i < n) (hj : j < n) :
    Calls Try.prog 22 #[.pointer (some ⟨b, 0, none⟩), .int .i64 (i : Int), .int .i64 (j : Int)] w fun e w' => e = .returned (.bool (decide ((nth zs i).lt (nth zs j)))) ∧ Below w.heap.size w w' := by
  have hl := h.len
  refine (ahead_raw b g n c i j (nth zs i) (nth zs j) w h.lt.1 h.lt.2 h.c0 hi hj (h.five (by omega)) (h.five (by omega))).mono fun e w' ⟨he, hw⟩ => ⟨?_, hw.below⟩
  rw [he]
  exact ret_bool (decide_eq_decide.2 (ordv_lt _ _))

theorem swapped_out {w : World} {g i j : Nat} {us vs : List Value} : Out (fun k => k = g) w ((w.setCells g i us).setCells g j vs) := Out.setCells (F := fun k => k = g) (.inl rfl) _ _ (Out.setCells (F := fun k => k = g) (.inl rfl) _ _ (Out.refl _ _))
/-- Two change places. -/
theorem HF.swapped {w : World} {b g n c : Nat} {zs : List Wt} {p : Int} (h : HF w b g n c zs p) {i j : Nat} (hi : i < n) (hj : j < n) : HF ((w.setCells g (i * 5) (encW (nth zs j))).setCells g (j * 5) (encW (nth zs i))) b g n c (swq zs i j) p := by
  have hl := h.len
  obtain ⟨h1, h2, h3⟩ := h
  refine ⟨?_, (h2.put encW_is (by omega) (nth zs j)).put encW_is (by simp; omega) (nth zs i), h3⟩
  exact h1.out swapped_out (fun e => h3 e.symm)
/-- No cell of the row is frozen. -/
theorem five_free {w : World} {g i : Nat} (h : ∀ o, w.frozen? ⟨g, o, none⟩ = false) : w.frozen? ⟨g, i * 5, none⟩ = false ∧ w.frozen? ⟨g, i * 5 + 1, none⟩ = false ∧ w.frozen? ⟨g, i * 5 + 2, none⟩ = false ∧ w.frozen? ⟨g, i * 5 + 3, none⟩ = false ∧ w.frozen? ⟨g, i * 5 + 4, none⟩ = false := ⟨h _, h _, h _, h _, h _⟩
def SwapTo (w : World) (g i j : Nat) (x y : Wt) (e : Ending) (w' : World) : Prop := e = .returned (.tuple #[]) ∧ w' = ((w.setCells g (i * 5) (encW y)).setCells g (j * 5) (encW x)).drew
set_option maxRecDepth 100000 in
set_option maxHeartbeats 4000000 in
theorem swap_same (b g n c i : Nat) (x : Wt) (w : World) (h0 : w.cell? ⟨b, 0, none⟩ = some (.slice (some ⟨g, 0, none⟩) n c)) (hi : i < n) (hx : Five w g i x) (hf : ∀ o, w.frozen? ⟨g, o, none⟩ = false) :
    Calls Try.prog 20 #[.pointer (some ⟨b, 0, none⟩), .int .i64 (i : Int), .int .i64 (i : Int)] w (SwapTo w g i i x x) := by
  have k0 : (0 : Int) ≤ (i : Int) := by omega
  have k1 : (i : Int) < (n : Int) := by omega
  obtain ⟨a0, a1, a2, a3, a4⟩ := hx
  obtain ⟨f0, f1, f2, f3, f4⟩ := five_free (i := i) hf
  clear hf hi
  go_enter Try.func20, Try.ntmps20
  go_region
  all_goals
    go_end0
    exact ⟨rfl, rfl⟩
set_option maxRecDepth 100000 in
set_option maxHeartbeats 4000000 in
theorem swap_two (b g n c i j : Nat) (x y : Wt) (w : World) (h0 : w.cell? ⟨b, 0, none⟩ = some (.slice (some ⟨g, 0, none⟩) n c)) (hi : i < n) (hj : j < n) (hx : Five w g i x) (hy : Five w g j y) (hf : ∀ o, w.frozen? ⟨g, o, none⟩ = false) (n0 : ¬ i = j) :
    Calls Try.prog 20 #[.pointer (some ⟨b, 0, none⟩), .int .i64 (i : Int), .int .i64 (j : Int)] w (SwapTo w g i j x y) := by
  have k0 : (0 : Int) ≤ (i : Int) := by omega
  have k1 : (i : Int) < (n : Int) := by omega
  have k2 : (0 : Int) ≤ (j : Int) := by omega
  have k3 : (j : Int) < (n : Int) := by omega
  have n1 : ¬ j = i := fun e => n0 e.symm
  have m1 : ¬ i * 5 = j * 5 + 1 := by omega
  have m1' : ¬ j * 5 + 1 = i * 5 := by omega
  have q1 : ¬ j * 5 = i * 5 + 1 := by omega
  have q1' : ¬ i * 5 + 1 = j * 5 := by omega
  have m2 : ¬ i * 5 = j * 5 + 2 := by omega
  have m2' : ¬ j * 5 + 2 = i * 5 := by omega
  have q2 : ¬ j * 5 = i * 5 + 2 := by omega
  have q2' : ¬ i * 5 + 2 = j * 5 := by omega
  have m3 : ¬ i * 5 = j * 5 + 3 := by omega
  have m3' : ¬ j * 5 + 3 = i * 5 := by omega
  have q3 : ¬ j * 5 = i * 5 + 3 := by omega
  have q3' : ¬ i * 5 + 3 = j * 5 := by omega
  have m4 : ¬ i * 5 = j * 5 + 4 := by omega
  have m4' : ¬ j * 5 + 4 = i * 5 := by omega
  have q4 : ¬ j * 5 = i * 5 + 4 := by omega
  have q4' : ¬ i * 5 + 4 = j * 5 := by omega
  obtain ⟨a0, a1, a2, a3, a4⟩ := hx
  obtain ⟨b0, b1, b2, b3, b4⟩ := hy
  obtain ⟨f0, f1, f2, f3, f4⟩ := five_free (i := i) hf
  obtain ⟨g0, g1, g2, g3, g4⟩ := five_free (i := j) hf
  clear hf hi hj
  go_enter Try.func20, Try.ntmps20
  go_region
  all_goals
    go_end0
    exact ⟨rfl, rfl⟩
theorem swap_any (b g n c i j : Nat) (zs : List Wt) (p : Int) (w : World) (h : HF w b g n c zs p) (hi : i < n) (hj : j < n) :
    Calls Try.prog 20 #[.pointer (some ⟨b, 0, none⟩), .int .i64 (i : Int), .int .i64 (j : Int)] w fun e w' => e = .returned (.tuple #[]) ∧ HF w' b g n c (swq zs i j) p ∧ Out (fun k => k = g) w w' := by
  have hl := h.len
  have h1 := h.five (i := i) (by omega)
  have h2 := h.five (i := j) (by omega)
  have hf := h.2.1.frozen encW_is
  have key : Calls Try.prog 20 #[.pointer (some ⟨b, 0, none⟩), .int .i64 (i : Int), .int .i64 (j : Int)] w (SwapTo w g i j (nth zs i) (nth zs j)) := by
    by_cases e : i = j
    · subst e; exact swap_same b g n c i _ w h.c0 hi h1 hf
    · exact swap_two b g n c i j _ _ w h.c0 hi hj h1 h2 hf e
  refine key.mono fun e w' ⟨he, hw⟩ => ⟨he, ?_, ?_⟩
  · rw [hw]; exact (h.swapped hi hj).kept (new_drew (new_refl _))
  · rw [hw]; exact swapped_out.drew
end Go.Proofs.Ytmdlbjeiokadaaa
