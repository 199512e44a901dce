/- For every list of bytes (its first three hundred), sum.Sum tells the document's checksum, sum.Verify is true just if that is 0, and the chapter's example holds: SumSums returns true and changes nothing. No conditions. -/
import Derived.Test.YtdmdmekplfaflaaKit
import Derived.Test.YtdmdmekplfaflaaSumB
import Derived.Test.YtdmdmekplfaflaaRowL
import Derived.Deep.DeepCutAuto
namespace Go.Proofs.Ytdmdmekplfaflaa
namespace sumSums
open Go.ChangeShapes Go.WideShapes Go.ChangeAt Go.RowKit
open Go.ChangeMaps (open_string shut_string)
set_option linter.unusedVariables false

theorem byt_of {k : Nat} {w : World} {a : Option Addr} {len cap : Nat} {zs : List Int} (h : IsRow .u8 w a len cap zs) : bytS (zs.take k) := fun x hx => by have := bounds_u8 (row_wf h k x hx); omega
theorem own : ownKnob Try.prog.godebug = none := by kernel_rfl
theorem laidOut : laidOutB Try.prog = true := by kernel_rfl

set_option maxHeartbeats 4000000 in
set_option maxRecDepth 100000 in
theorem walk (a0 : Option Addr) (len0 cap0 : Nat) (z0 : List Int) (w : World) (w0 : IsRow .u8 w a0 len0 cap0 z0) :
    Calls Try.prog 3 #[.slice a0 len0 cap0] w fun e w' => e = .returned (.bool true) ∧ Below w.heap.size w w' := by
  have hc2 := row_low w0
  unfold maxLen at hc2
  obtain ⟨L, hn⟩ : ∃ n, n = min len0 300 := ⟨_, rfl⟩
  have hn1 : L ≤ len0 := by omega
  have hn2 : L ≤ 300 := by omega
  have HW := Lib.hid w0
  have HN := Lib.hid hn
  clear w0 hn
  go_enter Try.func3, Try.ntmps3
  go_upto_region 1 with (fail)
  go_cut [0] (fun v wx => v = .slice a0 L cap0 ∧ w = wx)
  case first =>
    by_cases h40 : len0 ≤ 300
    · obtain rfl : len0 = L := by have := HN.out; omega
      have k1 : (len0 : Int) ≤ 300 := by omega
      have k2 : (0 : Int) ≤ (len0 : Int) := by omega
      have k3 : (len0 : Int) ≤ (cap0 : Int) := by omega
      go_wp2_with fail
      go_meet
      case rel => exact ⟨rfl, rfl⟩
    · obtain rfl : L = 300 := by have := HN.out; omega
      have k1 : (300 : Int) < (len0 : Int) := by omega
      have k3 : (300 : Int) ≤ (cap0 : Int) := by omega
      go_wp2_with fail
      go_meet
      case rel => exact ⟨rfl, rfl⟩
  case rest =>
    obtain ⟨rfl, rfl⟩ := hcut
    obtain ⟨gl, hls⟩ := row_ls HW.out L hn1
    have hU := byt_of (k := L) HW.out
    have hl := row_take HW.out L hn1
    generalize z0.take L = ds at hls hU hl
    have HL := Lib.hid hl
    have HU := Lib.hid hU
    have HP : Hid (PtAt w ⟨a0, L, cap0, gl, ds⟩) := Lib.hid ⟨hls, hl, hU⟩
    have hL : L ≤ 100000 := by omega
    clear hl hls hU HW HN hn1 hn2 hc2
    go_wp2_with (first
      | (go_at_call 6; refine (sumOne_any ⟨a0, L, cap0, gl, ds⟩ w _ _ rfl HP.out hL).mono ?_; rintro e w1 ⟨rfl, rfl⟩)
      | (go_at_call 8; refine (verOne_any ⟨a0, L, cap0, gl, ds⟩ (w.alloc _) _ _ (alloc_size w _) (HP.out.kept (new_alloc (new_refl w) _)) hL).mono ?_; rintro e w1 ⟨rfl, rfl⟩)
      | (go_at_call 7; refine (refSum10_any a0 L cap0 gl ds _ (HP.out.kept (by first | exact new_alloc (new_refl w) _ | exact new_alloc (new_alloc (new_refl w) _) _)).1 HL.out HU.out hL).mono ?_; rintro e w1 ⟨rfl, rfl⟩)
      | (go_at_call 9; refine (works10_any _).mono ?_; rintro e w3 ⟨rfl, B3⟩))
    go_ret
    exact ⟨rfl, new_then (new_alloc (new_alloc (new_refl w) _) _) B3⟩

set_option maxRecDepth 100000 in
theorem lifted (os : Os) (started : os.Started) (H : Type) (enc : TypeId × Value → H) :
    ReturnsInHanded {} Try.checked os 3 .any (Rows.sumSumsSpec.pre6 enc Try.prog Try.f3 Rows.sumSumsRow.domain false) (Rows.sumSumsSpec.post enc Try.prog Try.f3 false true false false) := by
  refine returnsInHanded_of_change (C := Try.checked) own started (by kernel_rfl) Try.func3
    (ChangeSpec.witness6 (enc := enc) (C := Try.checked) false ⟨#[], #[.slice none 0 0], []⟩ 8 (by kernel_rfl) (by kernel_rfl) (by kernel_rfl) (by kernel_rfl)) ?_
  intro W base args ds gs before hval0 hW hcnd _
  have hval : ∀ (j : Nat) t v, Try.f3.params[j]? = some t → args[j]? = some v → Value.okWide Try.prog W .any base t v := hval0
  have hW' := hW
  obtain ⟨p, q, hA0, hV, rfl, hfz, hnd⟩ := hW
  have hA : DataW.TrodAll enc Try.prog W 0 (fun _ => true) true Try.f3.params.toList args.toList ds p := hA0
  rw [Try.params3] at hA hval
  obtain ⟨v0, vs0, d0, ds0, p0, q0, hargs, rfl, rfl, h0, r0⟩ := trodAll_cons hA
  obtain ⟨rfl, rfl, rfl⟩ := trodAll_nil r0
  obtain rfl : args = #[v0] := by cases args; simp_all
  obtain ⟨rfl, rfl⟩ := trodVars_none hV
  have k0 := h0
  have lt0 : ∀ x ∈ p0, x.block < W.heap.size := by obtain ⟨m, hm⟩ := k0; exact DataW.trod_lt m _ _ _ hm
  obtain ⟨a0, len0, cap0, rfl⟩ := okWide_slice Try.underlying22 (hval 0 22 v0 rfl rfl)
  obtain ⟨z0, w0⟩ := isRow_of Try.underlying22 Try.underlying5 (by kernel_rfl) h0
  clear hA0 hval0
  refine (walk a0 len0 cap0 z0 W w0).mono fun e W' ⟨he, bel⟩ => ?_
  subst he
  exact ⟨_, rfl, _, _, _, [], _, [], hW', trodAll_mk1 (shut_bool Try.underlying4 _), (trodAll_cons_mk (Below.trod laidOut (by kernel_rfl) (of_decide_eq_true (by kernel_rfl)) k0 bel lt0) trodAll_mk0), rfl, bel.frame _, fun h => by cases h⟩

theorem over : Rows.sumSumsRow.holds Try.pinned (OpenSpec.ofChange Rows.sumSumsSpec) :=
  OpenClaim.holds_of_wide 3 Try.f3 rfl rfl rfl rfl rfl rfl rfl ⟨rfl, rfl, rfl, rfl, rfl⟩ rfl rfl rfl rfl rfl (by kernel_rfl) Try.func3 (by kernel_rfl)
    (of_decide_eq_true (by kernel_rfl)) (by unfold Func.isWrapper; first | (rw [if_pos (by decide +kernel)]; kernel_rfl) | (rw [if_neg (by decide +kernel)]; exact ⟨rfl, rfl⟩))
    (fun os started H enc _ => lifted os started H enc)
end sumSums
theorem sumSums_holds : Rows.SumSumsSaid := sumSums.over
end Go.Proofs.Ytdmdmekplfaflaa
