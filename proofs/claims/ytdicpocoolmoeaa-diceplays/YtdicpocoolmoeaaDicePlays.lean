/- For every list of uint32 and every list of int64, the first fifty draws come in order, and again from the first one on, and each share is hit as the document says, for the first sixty; the chapter's example holds: DicePlays returns true and changes nothing. No conditions. -/
import Derived.Test.YtdicpocoolmoeaaKit
import Derived.Test.YtdicpocoolmoeaaDicC
import Derived.Test.YtdicpocoolmoeaaRowL
import Derived.Deep.DeepCutAuto
namespace Go.Proofs.Ytdicpocoolmoeaa
namespace dicePlays
open Go.ChangeShapes Go.WideShapes Go.ChangeAt Go.RowKit
open Go.ChangeMaps (open_string shut_string)
set_option linter.unusedVariables false

theorem isU32_of {x : Int} (h : (Lit.int .u32 x).wf = true) : isU32 x := by have := bounds_u32 h; unfold isU32; omega
def DPInv (w : World) (b : Nat) (ds : List Int) (len gh : Nat) (vi : Value) (wr : World) : Prop := ∃ k : Nat, vi = .int .i64 (k : Int) ∧ k ≤ len ∧ k ≤ 60 ∧ len - k = gh ∧ DIn w b ds k wr
theorem undrewD {w wr : World} {b k : Nat} {ds : List Int} (h : DIn w b ds k wr) (m : Nat) : DIn w b ds k (wr.drewN m) := h.kept (new_draw (new_refl wr) m)
theorem own : ownKnob Try.prog.godebug = none := by kernel_rfl
theorem laidOut : laidOutB Try.prog = true := by kernel_rfl

set_option maxHeartbeats 4000000 in
set_option maxRecDepth 100000 in
theorem walk (a0 : Option Addr) (len0 cap0 : Nat) (z0 : List Int) (a1 : Option Addr) (len1 cap1 : Nat) (z1 : List Int) (w : World) (w0 : IsRow .u32 w a0 len0 cap0 z0) (w1 : IsRow .i64 w a1 len1 cap1 z1) :
    Calls Try.prog 3 #[.slice a0 len0 cap0, .slice a1 len1 cap1] w fun e w' => e = .returned (.bool true) ∧ Below w.heap.size w w' := by
  have hc1 := row_len w0
  have hc2 := (row_low w0).2
  have hc3 := row_low w1
  unfold maxLen at hc2 hc3
  obtain ⟨L, hn⟩ : ∃ n, n = min len0 50 := ⟨_, rfl⟩
  have hn1 : L ≤ len0 := by omega
  have hn2 : L ≤ 50 := by omega
  have HW := Lib.hid w0
  have HX := Lib.hid w1
  have HN := Lib.hid hn
  clear w0 w1 hn
  go_enter Try.func3, Try.ntmps3
  go_upto_region 1 with (fail)
  go_cut [0] (fun v wx => v = .slice a0 L cap0 ∧ w = wx)
  case first =>
    by_cases h40 : len0 ≤ 50
    · obtain rfl : len0 = L := by have := HN.out; omega
      have k1 : (len0 : Int) ≤ 50 := by omega
      have k2 : (0 : Int) ≤ (len0 : Int) := by omega
      have k3 : (len0 : Int) ≤ (cap0 : Int) := by omega
      go_wp2_with fail
      go_meet
      case rel => exact ⟨rfl, rfl⟩
    · obtain rfl : L = 50 := by have := HN.out; omega
      have k1 : (50 : Int) < (len0 : Int) := by omega
      have k3 : (50 : Int) ≤ (cap0 : Int) := by omega
      go_wp2_with fail
      go_meet
      case rel => exact ⟨rfl, rfl⟩
  case rest =>
    obtain ⟨rfl, rfl⟩ := hcut
    obtain ⟨gl, hls⟩ := row_ls HW.out L hn1
    have hsr := row_src HW.out L hn1
    have hU : ∀ x ∈ z0.take L, isU32 x := fun x hx => isU32_of (row_wf HW.out L x hx)
    have hl := row_take HW.out L hn1
    generalize z0.take L = ds at hls hU hl hsr
    have HL := Lib.hid hl
    have HV := Lib.hid hls
    have HU := Lib.hid hU
    have HS := Lib.hid hsr
    clear hl hls hU HW HN hsr
    go_wp2_with (first
      | (go_at_call 7; refine (newD_any a0 L cap0 ds w HS.out (by omega) HU.out).mono ?_; rintro e w1 ⟨b, rfl, D1⟩))
    go_loopg [6] len1 (fun gh vi wr => DPInv w b ds len1 gh vi wr)
    case atStart => exact ⟨0, rfl, by omega, by omega, rfl, D1⟩
    case round =>
      clear D1
      obtain ⟨k, rfl, hk, hk60, rfl, D⟩ := hrel
      by_cases hlt : k < len1 ∧ k < 60
      · obtain ⟨h1, h2⟩ := hlt
        have i0 : (0 : Int) ≤ (k : Int) := by omega
        have i1 : (k : Int) < (len1 : Int) := by omega
        have i2 : (k : Int) < 60 := by omega
        have hx := dr_is D.1.u32 k
        by_cases h2 : (k : Int) % 2 = 0
        · obtain ⟨x, ex⟩ : ∃ x, dr ds k = x := ⟨_, rfl⟩
          have EX := Lib.hid ex
          clear ex
          go_wp2_with (first
            | (go_at_call 8; refine (D.next (by omega)).mono ?_; rw [EX.out]; rintro e w2 ⟨rfl, D2⟩)
            | (go_at_call 9; refine (refDraw8_any gl L cap0 k a0 ds _ (HV.out.kept D2.2.2) HL.out (by omega) (by omega)).mono ?_; rw [EX.out]; rintro e w3 ⟨rfl, m3, rfl⟩; have D3 := undrewD D2 m3)
            | (go_at_call 12; refine (used_any b (k + 1) ds _ D3.1).mono ?_; rintro e w4 ⟨rfl, rfl⟩))
          go_roundg (len1 - (k + 1))
          case measure => omega
          case rel => exact ⟨k + 1, by go_num, by omega, by omega, rfl, D3⟩
        · have h3 : (k : Int) % 2 = 1 := by omega
          obtain ⟨bl, off, rfl, e0, hbl, s0⟩ := row_at HX.out h1
          have c0 := cell_low D.2.2 hbl e0
          generalize z1[k]?.getD 0 = s at c0 e0 s0
          obtain ⟨x, ex⟩ : ∃ x, dr ds k = x := ⟨_, rfl⟩
          have EX := Lib.hid ex
          rw [ex] at hx
          clear ex s0
          have K9 : k ≤ 1000000 := by omega
          have K8 : k ≤ 1000000000 := by omega
          have K7 : L ≤ 1000000 := by omega
          go_wp2_with fail
          go_region_held3 (fun w' => w'.cell? ⟨bl, off + k, none⟩ = some (.int .i64 s))
            (first | go_keep | exact cell_low D3.2.2 hbl e0 | exact cell_low D2.2.2 hbl e0)
            (first
              | (go_at_call 10; refine ((undrewD D 1).hit s K9).mono ?_; rw [EX.out]; rintro e w2 ⟨rfl, D2⟩)
              | (go_at_call 9; refine (refDraw8_any gl L cap0 k a0 ds _ (HV.out.kept D2.2.2) HL.out K7 K8).mono ?_; rw [EX.out]; rintro e w3 ⟨rfl, m3, rfl⟩; have D3 := undrewD D2 m3)
              | (go_at_call 11; refine (refHit8_any x s _ hx).mono ?_; rintro e w4 ⟨rfl, rfl⟩))
          all_goals
            go_wp2_with (first
              | (go_at_call 12; refine (used_any b (k + 1) ds _ D3.1).mono ?_; rintro e w4 ⟨rfl, rfl⟩))
            go_roundg (len1 - (k + 1))
            case measure => omega
            case rel => exact ⟨k + 1, by go_num, by omega, by omega, rfl, D3⟩
      · have DB := D.2.2
        clear D
        by_cases h1 : k < len1
        · have i1 : (k : Int) < (len1 : Int) := by omega
          have i2 : ¬ (k : Int) < 60 := by omega
          go_wp2_with (first
            | (go_at_call 13; refine (works08_any _).mono ?_; rintro e w3 ⟨rfl, B3⟩))
          go_ret
          exact ⟨rfl, new_then DB B3⟩
        · obtain rfl : k = len1 := by omega
          go_wp2_with (first
            | (go_at_call 13; refine (works08_any _).mono ?_; rintro e w3 ⟨rfl, B3⟩))
          go_ret
          exact ⟨rfl, new_then DB B3⟩

set_option maxRecDepth 100000 in
theorem lifted (os : Os) (started : os.Started) (H : Type) (enc : TypeId × Value → H) :
    ReturnsInHanded {} Try.checked os 3 .any (Rows.dicePlaysSpec.pre6 enc Try.prog Try.f3 Rows.dicePlaysRow.domain false) (Rows.dicePlaysSpec.post enc Try.prog Try.f3 false true false false) := by
  refine returnsInHanded_of_change (C := Try.checked) own started (by kernel_rfl) Try.func3
    (ChangeSpec.witness6 (enc := enc) (C := Try.checked) false ⟨#[], #[.slice none 0 0, .slice none 0 0], []⟩ 8 (by kernel_rfl) (by kernel_rfl) (by kernel_rfl) (by kernel_rfl)) ?_
  intro W base args ds gs before hval0 hW hcnd _
  have hval : ∀ (j : Nat) t v, Try.f3.params[j]? = some t → args[j]? = some v → Value.okWide Try.prog W .any base t v := hval0
  have hW' := hW
  obtain ⟨p, q, hA0, hV, rfl, hfz, hnd⟩ := hW
  have hA : DataW.TrodAll enc Try.prog W 0 (fun _ => true) true Try.f3.params.toList args.toList ds p := hA0
  rw [Try.params3] at hA hval
  obtain ⟨v0, vs0, d0, ds0, p0, q0, hargs, rfl, rfl, h0, r0⟩ := trodAll_cons hA
  obtain ⟨v1, vs1, d1, ds1, p1, q1, rfl, rfl, rfl, h1, r1⟩ := trodAll_cons r0
  obtain ⟨rfl, rfl, rfl⟩ := trodAll_nil r1
  obtain rfl : args = #[v0, v1] := by cases args; simp_all
  obtain ⟨rfl, rfl⟩ := trodVars_none hV
  have k0 := h0
  have lt0 : ∀ x ∈ p0, x.block < W.heap.size := by obtain ⟨m, hm⟩ := k0; exact DataW.trod_lt m _ _ _ hm
  obtain ⟨a0, len0, cap0, rfl⟩ := okWide_slice Try.underlying22 (hval 0 22 v0 rfl rfl)
  obtain ⟨z0, w0⟩ := isRow_of Try.underlying22 Try.underlying26 (by kernel_rfl) h0
  have k1 := h1
  have lt1 : ∀ x ∈ p1, x.block < W.heap.size := by obtain ⟨m, hm⟩ := k1; exact DataW.trod_lt m _ _ _ hm
  obtain ⟨a1, len1, cap1, rfl⟩ := okWide_slice Try.underlying23 (hval 1 23 v1 rfl rfl)
  obtain ⟨z1, w1⟩ := isRow_of Try.underlying23 Try.underlying2 (by kernel_rfl) h1
  clear hA0 hval0
  refine (walk a0 len0 cap0 z0 a1 len1 cap1 z1 W w0 w1).mono fun e W' ⟨he, bel⟩ => ?_
  subst he
  exact ⟨_, rfl, _, _, _, [], _, [], hW', trodAll_mk1 (shut_bool Try.underlying4 _), (trodAll_cons_mk (Below.trod laidOut (by kernel_rfl) (of_decide_eq_true (by kernel_rfl)) k0 bel lt0) (trodAll_cons_mk (Below.trod laidOut (by kernel_rfl) (of_decide_eq_true (by kernel_rfl)) k1 bel lt1) trodAll_mk0)), rfl, bel.frame _, fun h => by cases h⟩

theorem over : Rows.dicePlaysRow.holds Try.pinned (OpenSpec.ofChange Rows.dicePlaysSpec) :=
  OpenClaim.holds_of_wide 3 Try.f3 rfl rfl rfl rfl rfl rfl rfl ⟨rfl, rfl, rfl, rfl, rfl⟩ rfl rfl rfl rfl rfl (by kernel_rfl) Try.func3 (by kernel_rfl)
    (of_decide_eq_true (by kernel_rfl)) (by unfold Func.isWrapper; first | (rw [if_pos (by decide +kernel)]; kernel_rfl) | (rw [if_neg (by decide +kernel)]; exact ⟨rfl, rfl⟩))
    (fun os started H enc _ => lifted os started H enc)
end dicePlays
theorem dicePlays_holds : Rows.DicePlaysSaid := dicePlays.over
end Go.Proofs.Ytdicpocoolmoeaa
