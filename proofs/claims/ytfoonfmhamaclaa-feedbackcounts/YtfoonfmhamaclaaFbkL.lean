/- A sender among the blocks that came since w; leatlaw19.works. -/
import Derived.Test.YtfoonfmhamaclaaFbkE
namespace Go.Proofs.Ytfoonfmhamaclaa
open Go.ChangeShapes Go.WideShapes Go.ChangeAt Go.RowKit
set_option linter.unusedVariables false

/-- Behind an acknowledgement: all but the sender is as it was. -/
def Taken19 (w : World) (b : Nat) (r er : Int) (s' : Sn) (wr : World) (e : Ending) (w' : World) : Prop := e = .returned (.tuple #[.int .i64 r, .int .i64 er]) ∧ Out (fun j => j = b) wr w' ∧ SIn w b s' w'
theorem SIn.take {w wr : World} {b n : Nat} {s : Sn} {a : Ak} (h : SIn w b s wr) (hs : OkS n s) (ha : OkA a) (hN : n < 100) :
    Calls Try.prog 8 #[.pointer (some ⟨b, 0, none⟩), .agg #[.int .i64 a.u, .int .u32 a.s, .int .u8 a.c, .int .i64 a.t0, .int .i64 a.t1, .int .i64 a.t2]] wr (Taken19 w b ((tkK s a).m - s.m) (erK s a) (tkK s a) wr) := by
  refine (take19_any b n s a wr h.snd hs ha hN).mono ?_
  rintro e w' ⟨he, o, k⟩
  exact ⟨he, o, h.out o k⟩
theorem Taken19.to {w wr w' : World} {b : Nat} {r er r' er' : Int} {s' : Sn} {e : Ending} (h : Taken19 w b r er s' wr e w') (h1 : r = r') (h2 : er = er') : Taken19 w b r' er' s' wr e w' := by subst h1; subst h2; exact h
theorem stK_bd (n : Int) : 0 ≤ stK n ∧ stK n ≤ 1099511627776 := by
  unfold stK clampI
  split <;> (try split) <;> omega
theorem ok_start {mss : Int} (m : Int) (h : int64F mss) (hm : 0 ≤ m ∧ m ≤ 1099511627776) : OkS 0 ⟨0, 0, 0, mss, m, m, 1, 0, 1⟩ :=
  ⟨by omega, by simp only []; omega, by simp only []; omega, by simp only []; omega, h, by simp only []; omega, by simp only []; omega, by simp only []; omega, by simp only []; omega, by simp only []; omega⟩
theorem works19_any (w : World) : Calls Try.prog 12 #[] w fun e w' => e = .returned (.bool true) ∧ Below w.heap.size w w' := by
  have K0 := ok_start (mss := 1000) 5 (by unfold int64F; omega) (by omega)
  have A1 : OkA ⟨0, 1, 6, -1, -1, -1⟩ := ⟨by simp only []; omega, by simp only []; omega, by unfold int64F; simp only []; omega, by unfold int64F; simp only []; omega, by unfold int64F; simp only []; omega⟩
  have A2 : OkA ⟨0, 2, 5, -1, 8000, -1⟩ := ⟨by simp only []; omega, by simp only []; omega, by unfold int64F; simp only []; omega, by unfold int64F; simp only []; omega, by unfold int64F; simp only []; omega⟩
  have K1 := ok_more (by omega) K0 A1
  have e0 : stK 5 = 5 := by decide
  have e1 : (tkK ⟨0, 0, 0, 1000, 5, 5, 1, 0, 1⟩ ⟨0, 1, 6, -1, -1, -1⟩).m - (Sn.mk 0 0 0 1000 5 5 1 0 1).m = 1 := by decide
  have e3 : (tkK (tkK ⟨0, 0, 0, 1000, 5, 5, 1, 0, 1⟩ ⟨0, 1, 6, -1, -1, -1⟩) ⟨0, 2, 5, -1, 8000, -1⟩).m - (tkK ⟨0, 0, 0, 1000, 5, 5, 1, 0, 1⟩ ⟨0, 1, 6, -1, -1, -1⟩).m = 7 := by decide
  have e4 : erK (tkK ⟨0, 0, 0, 1000, 5, 5, 1, 0, 1⟩ ⟨0, 1, 6, -1, -1, -1⟩) ⟨0, 2, 5, -1, 8000, -1⟩ = 0 := by decide
  have e5 : (tkK (tkK ⟨0, 0, 0, 1000, 5, 5, 1, 0, 1⟩ ⟨0, 1, 6, -1, -1, -1⟩) ⟨0, 2, 5, -1, 8000, -1⟩).m = 13 := by decide
  have N0 := Lib.hid (fun w => new19_any 1000 5 w)
  rw [e0] at N0
  have T0 := Lib.hid (fun (wr : World) (b : Nat) (h : SIn w b ⟨0, 0, 0, 1000, 5, 5, 1, 0, 1⟩ wr) => (h.take K0 A1 (by omega)).mono fun _ _ h => h.to e1 rfl)
  have T1 := Lib.hid (fun (wr : World) (b : Nat) (h : SIn w b (tkK ⟨0, 0, 0, 1000, 5, 5, 1, 0, 1⟩ ⟨0, 1, 6, -1, -1, -1⟩) wr) => (h.take K1 A2 (by omega)).mono fun _ _ h => h.to e3 e4)
  have M2 := Lib.hid (fun (wr : World) (b : Nat) (h : SIn w b (tkK (tkK ⟨0, 0, 0, 1000, 5, 5, 1, 0, 1⟩ ⟨0, 1, 6, -1, -1, -1⟩) ⟨0, 2, 5, -1, 8000, -1⟩) wr) => marked19_any b _ wr h.snd)
  rw [e5] at M2
  clear K0 A1 A2 K1 e0 e1 e3 e4 e5
  go_enter Try.func12, Try.ntmps12
  go_wp2_with (first
    | (go_at_call 6; refine (N0.out _).mono ?_; rintro e w1 ⟨b, rfl, D1⟩)
    | (go_at_call 8; have h := D2; clear h; refine (T1.out _ _ D2).mono ?_; rintro e w3 ⟨rfl, O3, D3⟩)
    | (go_at_call 8; refine (T0.out _ _ D1).mono ?_; rintro e w2 ⟨rfl, O2, D2⟩)
    | (go_at_call 10; refine (M2.out _ _ D3).mono ?_; rintro e w4 ⟨rfl, rfl⟩))
  go_ret
  exact ⟨rfl, D3.low⟩
end Go.Proofs.Ytfoonfmhamaclaa
