/- For every uint32 and every list of uint32, of the first sixty stamps that lie fewer than half a round apart, in whatever order they come, the last one taken is the newest, whatever comes again is not taken, and the chapter's example holds: FreshNewest returns true and changes nothing that was there. No conditions. -/
import Derived.Test.YtdlfgpjmokbddaaKit
import Derived.Test.YtdlfgpjmokbddaaFreA
import Derived.Test.YtdlfgpjmokbddaaRowK
namespace Go.Proofs.Ytdlfgpjmokbddaa
namespace freshNewest
open Go.ChangeShapes Go.WideShapes Go.ChangeAt Go.RowKit
open Go.ChangeMaps (open_string shut_string)
set_option linter.unusedVariables false

/-- A stamp so far behind the first one. -/
def stF18 (f d : Int) : Int := (f + d) % 4294967296
theorem stF18_bd (f d : Int) : 0 ≤ stF18 f d ∧ stF18 f d ≤ 4294967295 := by unfold stF18; omega
theorem rd32 : rd 32 = 4294967296 := by decide
theorem hf32 : hf 32 = 2147483648 := by decide
theorem dif_st (f d m : Int) (hd : 0 ≤ d ∧ d < 1073741824) (hm : 0 ≤ m ∧ m < 1073741824) : dif (stF18 f d) (stF18 f m) 32 = d - m := by
  have h := dif_mod (f + d) (f + m) 32
  rw [rd32] at h
  unfold stF18
  rw [h]
  exact dif_only _ _ 32 _ 0 (by rw [hf32]; omega) (by omega)
theorem st_zero (f : Int) (hf : 0 ≤ f ∧ f ≤ 4294967295) : stF18 f 0 = f := by unfold stF18; omega
theorem nw_st (f d m : Int) {t : Nat} (ht : 0 < t) (hd : 0 ≤ d ∧ d < 1073741824) (hm : 0 ≤ m ∧ m < 1073741824) : nwR (stF18 f d) (stF18 f m) t = decide (m < d) := by
  rw [nwR_s _ _ ht, dif_st f d m hd hm]
  simp only [decide_eq_decide]
  omega
theorem wrap_st (f d : Int) : IntKind.u32.wrap (f + d) = stF18 f d := by rw [IntKind.wrap_u32]; rfl
/-- Behind k stamps: t were taken, the last one as far behind the first as m. -/
def FNI (w : World) (f : Int) (b len gh : Nat) (vm vi : Value) (wr : World) : Prop :=
  ∃ (k t p : Nat) (m x : Int), vi = .int .i64 (k : Int) ∧ vm = .int .u32 m ∧ len - k = gh ∧ k ≤ len ∧ k ≤ 60 ∧ t + p = k ∧ (0 ≤ m ∧ m < 1073741824) ∧ ((t = 0 ∧ p = 0 ∧ x = 0 ∧ m = 0) ∨ (0 < t ∧ x = stF18 f m)) ∧ FIn w b x t p wr
theorem own : ownKnob Try.prog.godebug = none := by kernel_rfl
theorem laidOut : laidOutB Try.prog = true := by kernel_rfl

set_option maxHeartbeats 4000000 in
set_option maxRecDepth 100000 in
theorem walk (a0 : Int) (a1 : Option Addr) (len1 cap1 : Nat) (z1 : List Int) (w : World) (w0 : (Lit.int .u32 a0).wf = true) (w1 : IsRow .u32 w a1 len1 cap1 z1) :
    Calls Try.prog 4 #[.int .u32 a0, .slice a1 len1 cap1] w fun e w' => e = .returned (.bool true) ∧ Below w.heap.size w w' := by
  have hf := bounds_u32 w0
  have hc1 := row_len w1
  have HX := Lib.hid w1
  clear w0 w1
  go_enter Try.func4, Try.ntmps4
  go_wp2_with (first
    | (go_at_call 6; refine (new18_any _).mono ?_; rintro e w1 ⟨b, rfl, D1⟩))
  go_loopg [6, 7] len1 (fun gh vm vi wr => FNI w a0 b len1 gh vm vi wr)
  case atStart => exact ⟨0, 0, 0, 0, 0, rfl, rfl, rfl, by omega, by omega, rfl, by omega, .inl ⟨rfl, rfl, rfl, rfl⟩, D1⟩
  case round =>
    clear D1
    obtain ⟨k, t, p, m, x, rfl, rfl, rfl, hk, hk1, htp, hm, hst, D⟩ := hrel
    by_cases hlt : k < len1 ∧ k < 60
    · obtain ⟨h1, h2⟩ := hlt
      have i0 : (0 : Int) ≤ (k : Int) := by omega
      have i1 : (k : Int) < (len1 : Int) := by omega
      have i2 : (k : Int) < 60 := by omega
      obtain ⟨bl, off, rfl, e0, hbl, s0⟩ := row_at HX.out h1
      have c0 := cell_low D.low hbl e0
      have hs := bounds_u32 s0
      generalize z1[k]?.getD 0 = s at c0 e0 s0 hs
      obtain ⟨d, hd⟩ : ∃ d, s % 1073741824 = d := ⟨_, rfl⟩
      have hd1 : 0 ≤ d ∧ d < 1073741824 := by omega
      have hy := wrap_st a0 d
      have by1 := stF18_bd a0 d
      have HD := Lib.hid hd1
      have HM := Lib.hid hm
      clear s0 e0
      rcases hst with ⟨rfl, rfl, rfl, rfl⟩ | ⟨ht, rfl⟩
      · have YS := Lib.hid (D.yes (s := stF18 a0 d) (by omega) (by omega) (by omega) (by omega) (nwR_0 _ _))
        have hmx : (if (0 : Int) < d then d else 0) = d := by split <;> omega
        obtain ⟨y, ey⟩ : ∃ y, stF18 a0 d = y := ⟨_, rfl⟩
        rw [ey] at YS hy by1
        have EY := Lib.hid ey
        clear ey
        go_wp2_with (first
          | (go_at_call 8; refine YS.out.mono ?_; rintro e w2 ⟨rfl, D2⟩))
        go_roundg (len1 - (k + 1))
        case measure => omega
        case rel => exact ⟨k + 1, 1, 0, d, y, by go_num, rfl, rfl, by omega, by omega, by omega, hd1, .inr ⟨by omega, EY.out.symm⟩, D2⟩
      · have bx := stF18_bd a0 m
        by_cases hmd : m < d
        · have YS := Lib.hid (D.yes (s := stF18 a0 d) (by omega) bx (by omega) (by omega) (by rw [nw_st _ _ _ ht hd1 hm]; simpa using hmd))
          have X : Hid (stF18 a0 m = stF18 a0 m) := Lib.hid rfl
          obtain ⟨y, ey⟩ : ∃ y, stF18 a0 d = y := ⟨_, rfl⟩
          rw [ey] at YS hy by1
          have EY := Lib.hid ey
          clear ey
          go_wp2_with (first
            | (go_at_call 8; refine YS.out.mono ?_; rintro e w2 ⟨rfl, D2⟩))
          go_roundg (len1 - (k + 1))
          case measure => omega
          case rel => exact ⟨k + 1, t + 1, p, d, y, by go_num, rfl, rfl, by omega, by omega, by omega, hd1, .inr ⟨by omega, EY.out.symm⟩, D2⟩
        · have YS := Lib.hid (D.no (s := stF18 a0 d) (by omega) bx (by omega) (by omega) (by rw [nw_st _ _ _ ht hd1 hm]; simpa using hmd))
          obtain ⟨y, ey⟩ : ∃ y, stF18 a0 d = y := ⟨_, rfl⟩
          rw [ey] at YS hy by1
          clear ey
          go_wp2_with (first
            | (go_at_call 8; refine YS.out.mono ?_; rintro e w2 ⟨rfl, D2⟩))
          go_roundg (len1 - (k + 1))
          case measure => omega
          case rel => exact ⟨k + 1, t, p + 1, m, stF18 a0 m, by go_num, rfl, rfl, by omega, by omega, by omega, hm, .inr ⟨ht, rfl⟩, D2⟩
    · have DB := D.low
      by_cases hz : len1 = 0
      · obtain rfl : len1 = 0 := hz
        obtain rfl : k = 0 := by omega
        obtain rfl : t = 0 := by omega
        have LA := Lib.hid (last_none b x p wr D.fil)
        clear hst
        go_wp2_with (first
          | (go_at_call 9; refine LA.out.mono ?_; rintro e w2 ⟨rfl, B2⟩; have L2 := new_then DB B2)
          | (go_at_call 11; refine (works18_any _).mono ?_; rintro e w5 ⟨rfl, B5⟩))
        go_ret
        exact ⟨rfl, new_then L2 B5⟩
      · have z1 : ¬ (len1 : Int) = 0 := by omega
        rcases hst with ⟨rfl, rfl, _, _⟩ | ⟨ht, rfl⟩
        · exfalso
          omega
        · have LA := Lib.hid (last_some b (stF18 a0 m) t p wr D.fil ht)
          have hy := wrap_st a0 m
          have by1 := stF18_bd a0 m
          have N1 : nwR (stF18 a0 m) (stF18 a0 m) t = false := by rw [nw_st _ _ _ ht hm hm]; simp
          have N2 : nwR a0 (stF18 a0 m) (t) = false := by
            have h := nw_st a0 0 m ht (by omega) hm
            rw [st_zero a0 hf] at h
            rw [h]
            simp only [decide_eq_false_iff_not]
            omega
          generalize stF18 a0 m = y at *
          replace N1 := Lib.hid N1
          replace N2 := Lib.hid N2
          by_cases h1 : k < len1
          · have i1 : (k : Int) < (len1 : Int) := by omega
            have i2 : ¬ (k : Int) < 60 := by omega
            go_wp2_with (first
              | (go_at_call 9; refine LA.out.mono ?_; rintro e w2 ⟨rfl, B2⟩; have D2 := D.kept B2)
              | (go_at_call 8; have h := D3; clear h; refine (D3.no (s := a0) hf by1 (by omega) (by omega) N2.out).mono ?_; rintro e w4 ⟨rfl, D4⟩)
              | (go_at_call 8; refine (D2.no (s := y) by1 by1 (by omega) (by omega) N1.out).mono ?_; rintro e w3 ⟨rfl, D3⟩)
              | (go_at_call 11; refine (works18_any _).mono ?_; rintro e w5 ⟨rfl, B5⟩))
            go_ret
            exact ⟨rfl, new_then D4.low B5⟩
          · obtain rfl : k = len1 := by omega
            go_wp2_with (first
              | (go_at_call 9; refine LA.out.mono ?_; rintro e w2 ⟨rfl, B2⟩; have D2 := D.kept B2)
              | (go_at_call 8; have h := D3; clear h; refine (D3.no (s := a0) hf by1 (by omega) (by omega) N2.out).mono ?_; rintro e w4 ⟨rfl, D4⟩)
              | (go_at_call 8; refine (D2.no (s := y) by1 by1 (by omega) (by omega) N1.out).mono ?_; rintro e w3 ⟨rfl, D3⟩)
              | (go_at_call 11; refine (works18_any _).mono ?_; rintro e w5 ⟨rfl, B5⟩))
            go_ret
            exact ⟨rfl, new_then D4.low B5⟩

set_option maxRecDepth 100000 in
theorem lifted (os : Os) (started : os.Started) (H : Type) (enc : TypeId × Value → H) :
    ReturnsInHanded {} Try.checked os 4 .any (Rows.freshNewestSpec.pre6 enc Try.prog Try.f4 Rows.freshNewestRow.domain false) (Rows.freshNewestSpec.post enc Try.prog Try.f4 false true false false) := by
  refine returnsInHanded_of_change (C := Try.checked) own started (by kernel_rfl) Try.func4
    (ChangeSpec.witness6 (enc := enc) (C := Try.checked) false ⟨#[], #[.int .u32 0, .slice none 0 0], []⟩ 8 (by kernel_rfl) (by kernel_rfl) (by kernel_rfl) (by kernel_rfl)) ?_
  intro W base args ds gs before hval0 hW hcnd _
  have hval : ∀ (j : Nat) t v, Try.f4.params[j]? = some t → args[j]? = some v → Value.okWide Try.prog W .any base t v := hval0
  have hW' := hW
  obtain ⟨p, q, hA0, hV, rfl, hfz, hnd⟩ := hW
  have hA : DataW.TrodAll enc Try.prog W 0 (fun _ => true) true Try.f4.params.toList args.toList ds p := hA0
  rw [Try.params4] at hA hval
  obtain ⟨v0, vs0, d0, ds0, p0, q0, hargs, rfl, rfl, h0, r0⟩ := trodAll_cons hA
  obtain ⟨v1, vs1, d1, ds1, p1, q1, rfl, rfl, rfl, h1, r1⟩ := trodAll_cons r0
  obtain ⟨rfl, rfl, rfl⟩ := trodAll_nil r1
  obtain rfl : args = #[v0, v1] := by cases args; simp_all
  obtain ⟨rfl, rfl⟩ := trodVars_none hV
  have k0 := h0
  have lt0 : ∀ x ∈ p0, x.block < W.heap.size := by obtain ⟨m, hm⟩ := k0; exact DataW.trod_lt m _ _ _ hm
  obtain ⟨a0, rfl, _, _, w0⟩ := open_int Try.underlying25 (hval 0 25 v0 rfl rfl) h0
  have k1 := h1
  have lt1 : ∀ x ∈ p1, x.block < W.heap.size := by obtain ⟨m, hm⟩ := k1; exact DataW.trod_lt m _ _ _ hm
  obtain ⟨a1, len1, cap1, rfl⟩ := okWide_slice Try.underlying22 (hval 1 22 v1 rfl rfl)
  obtain ⟨z1, w1⟩ := isRow_of Try.underlying22 Try.underlying25 (by kernel_rfl) h1
  clear hA0 hval0
  refine (walk a0 a1 len1 cap1 z1 W w0 w1).mono fun e W' ⟨he, bel⟩ => ?_
  subst he
  exact ⟨_, rfl, _, _, _, [], _, [], hW', trodAll_mk1 (shut_bool Try.underlying4 _), (trodAll_cons_mk (Below.trod laidOut (by kernel_rfl) (of_decide_eq_true (by kernel_rfl)) k0 bel lt0) (trodAll_cons_mk (Below.trod laidOut (by kernel_rfl) (of_decide_eq_true (by kernel_rfl)) k1 bel lt1) trodAll_mk0)), rfl, bel.frame _, fun h => by cases h⟩

theorem over : Rows.freshNewestRow.holds Try.pinned (OpenSpec.ofChange Rows.freshNewestSpec) :=
  OpenClaim.holds_of_wide 4 Try.f4 rfl rfl rfl rfl rfl rfl rfl ⟨rfl, rfl, rfl, rfl, rfl⟩ rfl rfl rfl rfl rfl (by kernel_rfl) Try.func4 (by kernel_rfl)
    (of_decide_eq_true (by kernel_rfl)) (by unfold Func.isWrapper; first | (rw [if_pos (by decide +kernel)]; kernel_rfl) | (rw [if_neg (by decide +kernel)]; exact ⟨rfl, rfl⟩))
    (fun os started H enc _ => lifted os started H enc)
end freshNewest
theorem freshNewest_holds : Rows.FreshNewestSaid := freshNewest.over
end Go.Proofs.Ytdlfgpjmokbddaa
