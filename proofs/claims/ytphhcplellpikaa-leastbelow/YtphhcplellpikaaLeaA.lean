/- Package least: a filter in memory; counted, New, Len, notAhead, cut; the document's near. -/
import Derived.Test.YtphhcplellpikaaLeaM
import Derived.Test.YtphhcplellpikaaRowE
import Derived.Deep.CutBlock
import Derived.Deep.DeepCutAuto
import Derived.Deep.QuietTactic
import Derived.BigQuiet
namespace Go.Proofs.Ytphhcplellpikaa
open Go.RowKit
set_option linter.unusedVariables false

def encL (c : Lc) : List Value := [.int .i64 c.a, .int .i64 c.x]
theorem encL_is : IsEnc encL 2 := ⟨by decide, fun _ => rfl, fun x v hv => by simp [encL] at hv; rcases hv with rfl | rfl <;> rfl⟩
theorem strL : IsStr 38 44 (.agg #[.int .i64 0, .int .i64 0]) 2 16 := ⟨by kernel_rfl, by kernel_rfl, rfl, by decide⟩
abbrev OwnL (w : World) (base : Nat) (v : Value) (zs : List Lc) : Prop := OwnE encL 2 44 w base v zs
/-- A filter at block b, of this window, which keeps these in the slice V. -/
structure LF (base : Nat) (w : World) (b : Nat) (W : Int) (V : Value) (zs : List Lc) : Prop where
  blk : Blk w b [.int .i64 W, V] 40
  own : OwnL w base V zs
  apart : ∀ g, V.ownBlock = some g → g ≠ b
theorem LF.out {F : Nat → Prop} {base : Nat} {w w' : World} {b : Nat} {W : Int} {V : Value} {zs : List Lc} (h : LF base w b W V zs) (o : Out F w w') (hb : ¬ F b) (hV : ∀ g, V.ownBlock = some g → ¬ F g) : LF base w' b W V zs :=
  ⟨h.blk.out o hb, h.own.out o hV, h.apart⟩
theorem LF.kept {base : Nat} {w w' : World} {b : Nat} {W : Int} {V : Value} {zs : List Lc} (h : LF base w b W V zs) (o : Below w.heap.size w w') : LF base w' b W V zs := h.out (F := fun _ => False) (Out.of o _) (fun x => x) (fun _ _ x => x)
/-- The two cells of one. -/
def TwoL (w : World) (g i : Nat) (c : Lc) : Prop := w.cell? ⟨g, i * 2, none⟩ = some (.int .i64 c.a) ∧ w.cell? ⟨g, i * 2 + 1, none⟩ = some (.int .i64 c.x)
theorem own_two {t : TypeId} {w : World} {base g n c : Nat} {zs : List Lc} (h : OwnE encL 2 t w base (.slice (some ⟨g, 0, none⟩) n c) zs) {i : Nat} (hi : i < zs.length) : TwoL w g i (nthC zs i) := by
  rw [nthC_eq hi]
  exact ⟨h.cells encL_is hi (j := 0) rfl, h.cells encL_is hi (j := 1) rfl⟩

theorem counted21_any (t : Int) (w : World) : Calls Try.prog 18 #[.int .i64 t] w fun e w' => e = .returned (.int .i64 (nrL t)) ∧ w = w' := by
  rw [← nrL_clamp]
  generalize hq : clampI t (-1152921504606846976) 1152921504606846976 = q
  have C := Lib.hid (fun w => satClamp_any t (-1152921504606846976) 1152921504606846976 w)
  rw [hq] at C
  clear hq
  go_enter Try.func18, Try.ntmps18
  go_wp2_with (go_at_call 13; refine (C.out _).mono ?_; rintro e w1 ⟨rfl, rfl⟩)
  go_ret
  exact ⟨rfl, rfl⟩
theorem near21_any (t : Int) (w : World) : Calls Try.prog 16 #[.int .i64 t] w fun e w' => e = .returned (.int .i64 (nrL t)) ∧ w = w' := by
  go_enter Try.func16, Try.ntmps16
  go_wp2
  all_goals go_ret
  all_goals exact ⟨ret_int (by unfold nrL; omega), rfl⟩
/-- A new one. -/
def NewL (w : World) (W : Int) (e : Ending) (w' : World) : Prop := ∃ b, e = .returned (.pointer (some ⟨b, 0, none⟩)) ∧ w.heap.size ≤ b ∧ LF w.heap.size w' b W (.slice none 0 0) [] ∧ Below w.heap.size w w'
theorem new21_any (t : Int) (w : World) : Calls Try.prog 5 #[.int .i64 t] w (NewL w (wnL t)) := by
  rw [← wnL_clamp]
  generalize hq : clampI t 0 1125899906842624 = q
  have C := Lib.hid (fun w => satClamp_any t 0 1125899906842624 w)
  rw [hq] at C
  clear hq
  go_enter Try.func5, Try.ntmps5
  go_wp2_with (go_at_call 13; refine (C.out _).mono ?_; rintro e w1 ⟨rfl, rfl⟩)
  go_ret
  exact ⟨w.heap.size, rfl, Nat.le_refl _, ⟨Blk.new w [.int .i64 q, .slice none 0 0] _, OwnE.nil _ _ _ _ _, fun g h => by simp [Value.ownBlock] at h⟩, new_alloc (new_refl w) _⟩

theorem len21_nil (w : World) : Calls Try.prog 10 #[.pointer none] w fun e w' => e = .returned (.int .i64 0) ∧ w = w' := by
  go_enter Try.func10, Try.ntmps10
  go_wp2
  go_ret
  exact ⟨rfl, rfl⟩
theorem len21_raw (b n c : Nat) (A : Option Addr) (w : World) (c1 : w.cell? ⟨b, 1, none⟩ = some (.slice A n c)) :
    Calls Try.prog 10 #[.pointer (some ⟨b, 0, none⟩)] w fun e w' => e = .returned (.int .i64 (n : Int)) ∧ w = w' := by
  go_enter Try.func10, Try.ntmps10
  go_wp2
  go_ret
  exact ⟨rfl, rfl⟩
/-- What the slice is. -/
theorem LF.form {base : Nat} {w : World} {b : Nat} {W : Int} {V : Value} {zs : List Lc} (h : LF base w b W V zs) : (V = .slice none 0 0 ∧ zs = []) ∨ ∃ g c, V = .slice (some ⟨g, 0, none⟩) zs.length c := h.own.form
theorem len21_any {base : Nat} {b : Nat} {W : Int} {V : Value} {zs : List Lc} {w : World} (h : LF base w b W V zs) (n : Nat) (hn : zs.length = n) :
    Calls Try.prog 10 #[.pointer (some ⟨b, 0, none⟩)] w fun e w' => e = .returned (.int .i64 (n : Int)) ∧ w = w' := by
  subst hn
  have c1 := h.blk.cell 1 rfl
  rcases h.form with ⟨rfl, rfl⟩ | ⟨g, c, rfl⟩
  · exact len21_raw b 0 0 none w c1
  · exact len21_raw b _ c _ w c1

theorem ahead21_any {base : Nat} {b : Nat} {W : Int} {V : Value} {zs : List Lc} {w : World} (h : LF base w b W V zs) (t : Int) (hl : zs.length ≤ 1000000) :
    Calls Try.prog 14 #[.pointer (some ⟨b, 0, none⟩), .int .i64 t] w fun e w' => e = .returned (.int .i64 (atL zs t)) ∧ w = w' := by
  have c1 := h.blk.cell 1 rfl
  have C := Lib.hid (fun w => counted21_any t w)
  rcases hz : zs.length with _ | k
  · obtain rfl := List.length_eq_zero_iff.1 hz
    rw [atL_nil]
    generalize nrL t = q at *
    have d1 : decide ((0 : Int) > 0) = false := rfl
    rcases h.form with ⟨rfl, _⟩ | ⟨g, c, rfl⟩
    · clear h hz hl
      go_enter Try.func14, Try.ntmps14
      go_wp2_with (go_at_call 18; refine (C.out _).mono ?_; rintro e w1 ⟨rfl, rfl⟩)
      go_ret
      exact ⟨rfl, rfl⟩
    · rw [hz] at c1
      clear h hz hl
      go_enter Try.func14, Try.ntmps14
      go_wp2_with (go_at_call 18; refine (C.out _).mono ?_; rintro e w1 ⟨rfl, rfl⟩)
      go_ret
      exact ⟨rfl, rfl⟩
  · rw [atL_some hz]
    rcases h.form with ⟨_, rfl⟩ | ⟨g, c, rfl⟩
    · simp at hz
    · obtain ⟨t0, _⟩ := own_two h.own (i := k) (by omega)
      rw [hz] at c1
      generalize nthC zs k = z at *
      generalize nrL t = q at *
      have k0 : (0 : Int) ≤ (k : Int) := by omega
      have k1 : (k : Int) < (k : Int) + 1 := by omega
      have k2 : ((k + 1 : Nat) : Int) = (k : Int) + 1 := by omega
      have k3 : (0 : Int) < (k : Int) + 1 := by omega
      have k4 : (k : Int) ≤ 1000000 := by omega
      clear h hz hl
      go_enter Try.func14, Try.ntmps14
      go_wp2_with (go_at_call 18; refine (C.out _).mono ?_; rintro e w1 ⟨rfl, rfl⟩)
      all_goals go_ret
      all_goals exact ⟨ret_int (by omega), rfl⟩

/-- Behind cut. -/
def CutL (base : Nat) (w : World) (b : Nat) (W : Int) (V : Value) (zs : List Lc) (e : Ending) (w' : World) : Prop :=
  e = .returned (.tuple #[]) ∧ ∃ V', LF base w' b W V' zs ∧ V'.ownBlock = V.ownBlock ∧ Out (fun k => k = b) w w'
theorem cutL_nil {base : Nat} {b : Nat} {W : Int} {w : World} (h : LF base w b W (.slice none 0 0) []) (x : Int) :
    Calls Try.prog 15 #[.pointer (some ⟨b, 0, none⟩), .int .i64 x] w (CutL base w b W (.slice none 0 0) []) := by
  have c1 := h.blk.cell 1 rfl
  have f1 := h.blk.frozen 1
  have H := Lib.hid h
  clear h
  go_enter Try.func15, Try.ntmps15
  go_wp2_with fail
  go_loopg [4] 0 (fun gh vi wr => vi = .int .i64 0 ∧ w = wr)
  case atStart => exact ⟨rfl, rfl⟩
  case round =>
    obtain ⟨rfl, rfl⟩ := hrel
    go_wp2_with fail
    go_end0
    exact ⟨rfl, _, ⟨H.out.blk.set 1 _, OwnE.nil _ _ _ _ _, H.out.apart⟩, rfl, Out.set (p := ⟨b, 1, none⟩) (Out.refl (fun k => k = b) w) (.inl rfl) _⟩
def CutI (w : World) (zs : List Lc) (x : Int) (n gh : Nat) (vi : Value) (wr : World) : Prop := ∃ k : Nat, vi = .int .i64 (k : Int) ∧ k = gh ∧ k ≤ n ∧ w = wr ∧ ∀ j, k ≤ j → j < n → x ≤ (nthC zs j).x
theorem LF.cut {base : Nat} {w : World} {b g n c m : Nat} {W : Int} {zs : List Lc} (h : LF base w b W (.slice (some ⟨g, 0, none⟩) n c) zs) (hm : m ≤ zs.length) : LF base (w.setCell ⟨b, 1, none⟩ (.slice (some ⟨g, 0, none⟩) m c)) b W (.slice (some ⟨g, 0, none⟩) m c) (zs.take m) :=
  ⟨h.blk.set 1 _, (h.own.cut encL_is hm).out (Out.set (p := ⟨b, 1, none⟩) (Out.refl (fun k => k = b) w) (.inl rfl) _) (fun k e => h.apart k (by simpa [Value.ownBlock] using e)), fun k e => h.apart k (by simpa [Value.ownBlock] using e)⟩
set_option maxHeartbeats 1000000 in
theorem cutL_some {base : Nat} {b g n c : Nat} {W : Int} {zs : List Lc} {w : World} (h : LF base w b W (.slice (some ⟨g, 0, none⟩) n c) zs) (hn : zs.length = n) (hl : n ≤ 1000000) (hr : zs.Pairwise (fun c d => c.x < d.x)) (x : Int) :
    Calls Try.prog 15 #[.pointer (some ⟨b, 0, none⟩), .int .i64 x] w (CutL base w b W (.slice (some ⟨g, 0, none⟩) n c) (zs.filter (fun d => decide (d.x < x)))) := by
  have c1 := h.blk.cell 1 rfl
  have f1 := h.blk.frozen 1
  have hnc : n ≤ c := h.own.len.2
  have H := Lib.hid h
  have HR := Lib.hid hr
  have HN := Lib.hid hn
  have n0 : (0 : Int) ≤ (n : Int) := by omega
  have n1 : (n : Int) ≤ 1000000 := by omega
  clear h hr hn
  go_enter Try.func15, Try.ntmps15
  go_wp2_with fail
  go_loopg [4] n (fun gh vi wr => CutI w zs x n gh vi wr)
  case atStart => exact ⟨n, rfl, rfl, Nat.le_refl _, rfl, fun j h1 h2 => by omega⟩
  case round =>
    obtain ⟨k, rfl, rfl, hk, rfl, hge⟩ := hrel
    have HG := Lib.hid hge
    clear hge n0 n1
    by_cases hgo : ∃ i, k = i + 1 ∧ x ≤ (nthC zs i).x
    · obtain ⟨i, rfl, hx⟩ := hgo
      obtain ⟨_, t1⟩ := own_two H.out.own (i := i) (by have := HN.out; omega)
      have HX := Lib.hid hx
      generalize hz : nthC zs i = z at *
      have HZ := Lib.hid hz
      have k0 : (0 : Int) ≤ (i : Int) := by omega
      have k1 : (i : Int) < (n : Int) := by omega
      have k2 : ((i + 1 : Nat) : Int) = (i : Int) + 1 := by omega
      have k3 : (0 : Int) < (i : Int) + 1 := by omega
      have k4 : (i : Int) ≤ 1000000 := by omega
      clear hz
      go_wp2_with fail
      go_roundg i
      case measure => omega
      case rel =>
        refine ⟨i, rfl, rfl, by omega, rfl, fun j h1 h2 => ?_⟩
        by_cases e : j = i
        · subst e; rw [HZ.out]; exact HX.out
        · exact HG.out j (by omega) h2
    · have E := Lib.hid (cut_is HR.out (show k ≤ zs.length by rw [HN.out]; exact hk) (fun j h1 h2 => HG.out j h1 (by rw [HN.out] at h2; exact h2)) (fun i hi => by
        rcases Int.lt_or_le (nthC zs i).x x with q | q
        · exact q
        · exact absurd ⟨i, hi, q⟩ hgo))
      have D := Lib.hid (H.out.cut (m := k) (by rw [HN.out]; exact hk))
      rw [E.out] at D
      have hkc : (k : Int) ≤ (c : Int) := by omega
      have k0 : (0 : Int) ≤ (k : Int) := by omega
      rcases k with _ | i
      · clear hgo
        go_wp2_with fail
        go_end0
        exact ⟨rfl, _, D.out, rfl, Out.set (p := ⟨b, 1, none⟩) (Out.refl (fun k => k = b) w) (.inl rfl) _⟩
      · have hx : ¬ x ≤ (nthC zs i).x := fun q => hgo ⟨i, rfl, q⟩
        obtain ⟨_, t1⟩ := own_two H.out.own (i := i) (by have := HN.out; omega)
        generalize nthC zs i = z at *
        have k0 : (0 : Int) ≤ (i : Int) := by omega
        have k1 : (i : Int) < (n : Int) := by omega
        have k2 : ((i + 1 : Nat) : Int) = (i : Int) + 1 := by omega
        have k3 : (0 : Int) < (i : Int) + 1 := by omega
        have k4 : (i : Int) ≤ 1000000 := by omega
        have k5 : (i : Int) + 1 ≤ (c : Int) := by omega
        have k6 : (0 : Int) ≤ (i : Int) + 1 := by omega
        clear hgo hkc
        go_wp2_with fail
        go_end0
        exact ⟨rfl, _, D.out, rfl, Out.set (p := ⟨b, 1, none⟩) (Out.refl (fun k => k = b) w) (.inl rfl) _⟩
theorem cutL_any {base : Nat} {b : Nat} {W : Int} {V : Value} {zs : List Lc} {w : World} (h : LF base w b W V zs) (hl : zs.length ≤ 1000000) (hr : zs.Pairwise (fun c d => c.x < d.x)) (x : Int) :
    Calls Try.prog 15 #[.pointer (some ⟨b, 0, none⟩), .int .i64 x] w (CutL base w b W V (zs.filter (fun d => decide (d.x < x)))) := by
  rcases h.form with ⟨rfl, rfl⟩ | ⟨g, c, rfl⟩
  · exact cutL_nil h x
  · exact cutL_some h rfl hl hr x
end Go.Proofs.Ytphhcplellpikaa
