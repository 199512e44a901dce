/- For every list of uint32, of its first hundred stamps, one behind the other, just those are taken that are newer than the last one taken, Last and Counts tell them, and the chapter's example holds: FreshTakes returns true and changes nothing that was there. No conditions. -/
import Derived.Test.YtdlfgpjmokbddaaKit
import Derived.Test.YtdlfgpjmokbddaaFreA
import Derived.Test.YtdlfgpjmokbddaaRowK
namespace Go.Proofs.Ytdlfgpjmokbddaa
namespace freshTakes
open Go.ChangeShapes Go.WideShapes Go.ChangeAt Go.RowKit
open Go.ChangeMaps (open_string shut_string)
set_option linter.unusedVariables false

/-- Behind k stamps: t were taken, x the last one. -/
def FTI (w : World) (b len gh : Nat) (vt vx vi : Value) (wr : World) : Prop :=
  ∃ (k t p : Nat) (x : Int), vi = .int .i64 (k : Int) ∧ vt = .int .i64 (t : Int) ∧ vx = .int .u32 x ∧ len - k = gh ∧ k ≤ len ∧ k ≤ 100 ∧ t + p = k ∧ (0 ≤ x ∧ x ≤ 4294967295) ∧ FIn w b x t p wr
theorem own : ownKnob Try.prog.godebug = none := by kernel_rfl
theorem laidOut : laidOutB Try.prog = true := by kernel_rfl

set_option maxHeartbeats 4000000 in
set_option maxRecDepth 100000 in
theorem walk (a0 : Option Addr) (len0 cap0 : Nat) (z0 : List Int) (w : World) (w0 : IsRow .u32 w a0 len0 cap0 z0) :
    Calls Try.prog 3 #[.slice a0 len0 cap0] w fun e w' => e = .returned (.bool true) ∧ Below w.heap.size w w' := by
  have hc1 := row_len w0
  have HX := Lib.hid w0
  clear w0
  go_enter Try.func3, Try.ntmps3
  go_wp2_with (first
    | (go_at_call 6; refine (new18_any _).mono ?_; rintro e w1 ⟨b, rfl, D1⟩))
  go_loopg [4, 5, 16] len0 (fun gh vt vx vi wr => FTI w b len0 gh vt vx vi wr)
  case atStart => exact ⟨0, 0, 0, 0, rfl, rfl, rfl, rfl, by omega, by omega, rfl, by omega, D1⟩
  case round =>
    clear D1
    obtain ⟨k, t, p, x, rfl, rfl, rfl, rfl, hk, hk1, htp, hx, D⟩ := hrel
    by_cases hlt : k < len0
    · have i0 : (0 : Int) ≤ (k : Int) := by omega
      have i1 : (k : Int) < (len0 : Int) := by omega
      obtain ⟨bl, off, rfl, e0, hbl, s0⟩ := row_at HX.out hlt
      have c0 := cell_low D.low hbl e0
      have hs := bounds_u32 s0
      generalize z0[k]?.getD 0 = s at c0 e0 s0 hs
      by_cases h1 : k < 100
      · have i2 : (k : Int) < 100 := by omega
        by_cases ht : t = 0
        · subst ht
          have YS := Lib.hid (D.yes (s := s) (by omega) hx (by omega) (by omega) (nwR_0 _ _))
          clear s0
          go_wp2_with (first
            | (go_at_call 8; refine YS.out.mono ?_; rintro e w2 ⟨rfl, D2⟩)
            | (go_at_call 9; refine (last_some b s 1 p _ D2.fil (by omega)).mono ?_; rintro e w3 ⟨rfl, B3⟩; have D3 := D2.kept B3)
            | (go_at_call 10; refine (counts_any b s 1 p _ D3.fil).mono ?_; rintro e w4 ⟨rfl, B4⟩; have D4 := D3.kept B4))
          go_roundg (len0 - (k + 1))
          case measure => omega
          case rel => exact ⟨k + 1, 1, p, s, by go_num, rfl, rfl, rfl, by omega, by omega, by omega, hs, D4⟩
        · have t0 : ¬ (t : Int) = 0 := by omega
          have t1 : ¬ t = 0 := ht
          have t2 : ((t : Int) == 0) = false := by simpa using t0
          by_cases hd : 0 < dif s x 32
          · have YS := Lib.hid (D.yes (s := s) (by omega) hx (by omega) (by omega) (by rw [nwR_s _ _ (by omega)]; simpa using hd))
            have DF := Lib.hid (fun w => refDiff_any s x 32 w (by omega) (by omega) (by omega))
            have hd2 := dif_bd s x 32
            generalize dif s x 32 = d at *
            clear s0
            go_wp2_with (first
              | (go_at_call 7; refine (DF.out _).mono ?_; rintro e w5 ⟨rfl, rfl⟩)
              | (go_at_call 8; refine YS.out.mono ?_; rintro e w2 ⟨rfl, D2⟩)
              | (go_at_call 9; refine (last_some b s (t + 1) p _ D2.fil (by omega)).mono ?_; rintro e w3 ⟨rfl, B3⟩; have D3 := D2.kept B3)
              | (go_at_call 10; refine (counts_any b s (t + 1) p _ D3.fil).mono ?_; rintro e w4 ⟨rfl, B4⟩; have D4 := D3.kept B4))
            go_roundg (len0 - (k + 1))
            case measure => omega
            case rel => exact ⟨k + 1, t + 1, p, s, by go_num, by go_num, rfl, rfl, by omega, by omega, by omega, hs, D4⟩
          · have YS := Lib.hid (D.no (s := s) (by omega) hx (by omega) (by omega) (by rw [nwR_s _ _ (by omega)]; simpa using hd))
            have DF := Lib.hid (fun w => refDiff_any s x 32 w (by omega) (by omega) (by omega))
            have hd2 := dif_bd s x 32
            generalize dif s x 32 = d at *
            have d2 : decide (0 < d) = false := by simpa using hd
            clear s0
            go_wp2_with (first
              | (go_at_call 7; refine (DF.out _).mono ?_; rintro e w5 ⟨rfl, rfl⟩)
              | (go_at_call 8; refine YS.out.mono ?_; rintro e w2 ⟨rfl, D2⟩)
              | (go_at_call 9; refine (last_some b x t (p + 1) _ D2.fil (by omega)).mono ?_; rintro e w3 ⟨rfl, B3⟩; have D3 := D2.kept B3)
              | (go_at_call 10; refine (counts_any b x t (p + 1) _ D3.fil).mono ?_; rintro e w4 ⟨rfl, B4⟩; have D4 := D3.kept B4))
            go_roundg (len0 - (k + 1))
            case measure => omega
            case rel => exact ⟨k + 1, t, p + 1, x, by go_num, rfl, rfl, rfl, by omega, by omega, by omega, hx, D4⟩
      · have i2 : ¬ (k : Int) < 100 := by omega
        have i3 : (100 : Int) ≤ (k : Int) := by omega
        have DB := D.low
        clear s0
        go_wp2_with (first
          | (go_at_call 11; refine (works18_any _).mono ?_; rintro e w4 ⟨rfl, B4⟩))
        go_ret
        exact ⟨rfl, new_then DB B4⟩
    · obtain rfl : k = len0 := by omega
      have DB := D.low
      go_wp2_with (first
        | (go_at_call 11; refine (works18_any _).mono ?_; rintro e w4 ⟨rfl, B4⟩))
      go_ret
      exact ⟨rfl, new_then DB B4⟩

set_option maxRecDepth 100000 in
theorem lifted (os : Os) (started : os.Started) (H : Type) (enc : TypeId × Value → H) :
    ReturnsInHanded {} Try.checked os 3 .any (Rows.freshTakesSpec.pre6 enc Try.prog Try.f3 Rows.freshTakesRow.domain false) (Rows.freshTakesSpec.post enc Try.prog Try.f3 false true false false) := by
  refine returnsInHanded_of_change (C := Try.checked) own started (by kernel_rfl) Try.func3
    (ChangeSpec.witness6 (enc := enc) (C := Try.checked) false ⟨#[], #[.slice none 0 0], []⟩ 8 (by kernel_rfl) (by kernel_rfl) (by kernel_rfl) (by kernel_rfl)) ?_
  intro W base args ds gs before hval0 hW hcnd _
  have hval : ∀ (j : Nat) t v, Try.f3.params[j]? = some t → args[j]? = some v → Value.okWide Try.prog W .any base t v := hval0
  have hW' := hW
  obtain ⟨p, q, hA0, hV, rfl, hfz, hnd⟩ := hW
  have hA : DataW.TrodAll enc Try.prog W 0 (fun _ => true) true Try.f3.params.toList args.toList ds p := hA0
  rw [Try.params3] at hA hval
  obtain ⟨v0, vs0, d0, ds0, p0, q0, hargs, rfl, rfl, h0, r0⟩ := trodAll_cons hA
  obtain ⟨rfl, rfl, rfl⟩ := trodAll_nil r0
  obtain rfl : args = #[v0] := by cases args; simp_all
  obtain ⟨rfl, rfl⟩ := trodVars_none hV
  have k0 := h0
  have lt0 : ∀ x ∈ p0, x.block < W.heap.size := by obtain ⟨m, hm⟩ := k0; exact DataW.trod_lt m _ _ _ hm
  obtain ⟨a0, len0, cap0, rfl⟩ := okWide_slice Try.underlying22 (hval 0 22 v0 rfl rfl)
  obtain ⟨z0, w0⟩ := isRow_of Try.underlying22 Try.underlying25 (by kernel_rfl) h0
  clear hA0 hval0
  refine (walk a0 len0 cap0 z0 W w0).mono fun e W' ⟨he, bel⟩ => ?_
  subst he
  exact ⟨_, rfl, _, _, _, [], _, [], hW', trodAll_mk1 (shut_bool Try.underlying4 _), (trodAll_cons_mk (Below.trod laidOut (by kernel_rfl) (of_decide_eq_true (by kernel_rfl)) k0 bel lt0) trodAll_mk0), rfl, bel.frame _, fun h => by cases h⟩

theorem over : Rows.freshTakesRow.holds Try.pinned (OpenSpec.ofChange Rows.freshTakesSpec) :=
  OpenClaim.holds_of_wide 3 Try.f3 rfl rfl rfl rfl rfl rfl rfl ⟨rfl, rfl, rfl, rfl, rfl⟩ rfl rfl rfl rfl rfl (by kernel_rfl) Try.func3 (by kernel_rfl)
    (of_decide_eq_true (by kernel_rfl)) (by unfold Func.isWrapper; first | (rw [if_pos (by decide +kernel)]; kernel_rfl) | (rw [if_neg (by decide +kernel)]; exact ⟨rfl, rfl⟩))
    (fun os started H enc _ => lifted os started H enc)
end freshTakes
theorem freshTakes_holds : Rows.FreshTakesSaid := freshTakes.over
end Go.Proofs.Ytdlfgpjmokbddaa
