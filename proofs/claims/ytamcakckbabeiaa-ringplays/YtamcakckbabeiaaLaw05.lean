/- leatlaw05.same: a row and a list that are the same. -/
import Derived.Test.YtamcakckbabeiaaRef5B
namespace Go.Proofs.Ytamcakckbabeiaa
open Go.RowKit
set_option linter.unusedVariables false

/-- What At tells is one of two. -/
theorem tell_is (zs : List Int) (i : Int) : ∃ x b, R8.tell zs i = .tuple #[.int .i64 x, .bool b] := by
  unfold R8.tell; split <;> exact ⟨_, _, rfl⟩

theorem ref_at {g c L : Nat} {A : Option Addr} {zs : List Int} {m v : Value} {i : Int} {w : World} (hL : zs.length = L) (hv : R8.tell zs i = v) (h : Lst w g A zs) (hl : L ≤ 65536) :
    Calls Try.prog 24 #[.agg #[.slice A L c, m], .int .i64 i] w fun e w' => e = .returned v ∧ Below w.heap.size w w' := by
  subst hL hv
  exact refAt5_any g c A zs m i w h hl

def SameInv (W : World) (L gh : Nat) (vi : Value) (wr : World) : Prop := ∃ k : Nat, k ≤ L + 2 ∧ gh = L + 2 - k ∧ vi = .int .i64 ((k : Int) - 1) ∧ Below W.heap.size W wr

set_option maxRecDepth 100000 in
set_option maxHeartbeats 1000000 in
theorem same5_any (b gr most g c : Nat) (A : Option Addr) (zs : List Int) (m : Value) (w : World) (hR : R8.IsRing w b gr zs most) (hL : Lst w g A zs) (hl : zs.length ≤ 65536) :
    Calls Try.prog 12 #[.pointer (some ⟨b, 0, none⟩), .agg #[.slice A zs.length c, m]] w fun e w' => e = .returned (.bool true) ∧ Below w.heap.size w w' := by
  obtain ⟨L, eL⟩ : ∃ L, zs.length = L := ⟨_, rfl⟩
  have EL := Lib.hid eL
  have BW := new_alloc (new_refl w) (.cells #[.slice A L c, m] 27)
  have RW := Lib.hid (hR.kept BW)
  have LW := Lib.hid (hL.kept BW)
  have A0 := At.new w [.slice A L c, m] 27
  have c2 := hR.c2
  rw [eL] at hl c2 ⊢
  clear eL hR hL
  go_enter Try.func12, Try.ntmps12
  go_wp2_with fail
  generalize hW : w.alloc (.cells #[.slice A L c, m] 27) = W at BW RW LW A0 ⊢
  clear hW c2
  have x0 := A0.cell 0 rfl
  have l0 := A0.1
  have HLen : Hid (∀ n, Calls Try.prog 14 #[.pointer (some ⟨b, 0, none⟩)] (W.drewN n) fun e w' => e = .returned (.int .i64 (L : Int)) ∧ W.drewN n = w') := Lib.hid fun n => by
    have := R8.len_ring b gr zs most (W.drewN n) (RW.out.draw n)
    rw [EL.out] at this
    exact this
  go_quiet ((go_at_call 14; exact quiet_as (HLen.out _)))
  go_wp2_with fail
  go_loopg [5] (L + 2) (fun gh vi wr => SameInv W L gh vi wr)
  case atStart => exact ⟨0, by omega, rfl, rfl, new_draw (new_refl W) _⟩
  case round =>
    obtain ⟨k, hk, rfl, rfl, hb⟩ := hrel
    have y0 := cell_kept hb x0
    have y1 := (A0.kept hb).cell 1 rfl
    have RR := Lib.hid (RW.out.kept hb)
    have LR := Lib.hid (LW.out.kept hb)
    by_cases hlt : k ≤ L + 1
    · obtain ⟨x, t, ht⟩ := tell_is zs ((k : Int) - 1)
      have HA := Lib.hid (R8.at_ring b gr zs most ((k : Int) - 1) wr RR.out)
      rw [ht] at HA
      have T := Lib.hid ht
      clear ht
      have k1 : (k : Int) - 1 ≤ (L : Int) := by omega
      go_wp2_with (first
        | (go_at_call 23; refine HA.out.mono ?_; rintro e w1 ⟨rfl, n1, rfl⟩)
        | (go_at_call 24; refine (ref_at (zs := zs) EL.out T.out (LR.out.kept (new_draw (new_refl wr) n1)) hl).mono ?_; rintro e w2 ⟨rfl, B2⟩))
      go_roundg (L + 2 - (k + 1))
      case measure => omega
      case rel => exact ⟨k + 1, by omega, rfl, by congr 1; omega, new_then hb ⟨B2.os, B2.tape, B2.output, B2.size, B2.block⟩⟩
    · have k1 : (L : Int) < (k : Int) - 1 := by omega
      obtain ⟨x, t, ht⟩ := tell_is zs 0
      have HF := Lib.hid (R8.front_ring b gr zs most wr RR.out)
      rw [ht] at HF
      have T := Lib.hid ht
      clear ht
      go_wp2_with (first
        | (go_at_call 20; refine HF.out.mono ?_; rintro e w1 ⟨rfl, n1, rfl⟩)
        | (go_at_call 24; refine (ref_at (zs := zs) EL.out T.out (LR.out.kept (new_draw (new_refl wr) n1)) hl).mono ?_; rintro e w2 ⟨rfl, B2⟩))
      go_ret
      exact ⟨rfl, new_then BW (new_then hb ⟨B2.os, B2.tape, B2.output, B2.size, B2.block⟩)⟩
end Go.Proofs.Ytamcakckbabeiaa
