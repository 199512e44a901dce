/- For every int64 x, every two int64 and every int n: of an x not below 0, fixed.Part of x by the lesser one is not below 0, not above that by the greater one, and that not above x; fixed.Toward from x to the first one lies between both, both included; and the chapter's examples hold: FixedBetween returns true and changes nothing. No conditions. -/
import Derived.Test.YtgbnlnplfiaemaaKit
import Derived.Test.YtgbnlnplfiaemaaWorks04
import Derived.Deep.RegionHeld3
import Derived.Deep.DeepCutAuto
namespace Go.Proofs.Ytgbnlnplfiaemaa
namespace fixedBetween
open Go.ChangeShapes Go.WideShapes Go.ChangeAt Go.RowKit
open Go.ChangeMaps (open_string shut_string)
set_option linter.unusedVariables false

theorem own : ownKnob Try.prog.godebug = none := by kernel_rfl
theorem laidOut : laidOutB Try.prog = true := by kernel_rfl

set_option maxHeartbeats 4000000 in
set_option maxRecDepth 100000 in
theorem walk (a0 : Int) (a1x0 : Int) (a1x1 : Int) (a2 : Int) (w : World) (w0 : (Lit.int .i64 a0).wf = true) (w1x0 : (Lit.int .i64 a1x0).wf = true) (w1x1 : (Lit.int .i64 a1x1).wf = true) (w2 : (Lit.int .i64 a2).wf = true) :
    Calls Try.prog 6 #[.int .i64 a0, .agg #[.int .i64 a1x0, .int .i64 a1x1], .int .i64 a2] w fun e w' => e = .returned (.bool true) ∧ Below w.heap.size w w' := by
  have b0 := bounds_i64 w0
  have b1 := bounds_i64 w1x0
  have b2 := bounds_i64 w1x1
  have b3 := bounds_i64 w2
  clear w0 w1x0 w1x1 w2
  obtain ⟨P, eP⟩ : ∃ P, prs a0 (shr (min a1x0 a1x1)) = P := ⟨_, rfl⟩
  obtain ⟨Q, eQ⟩ : ∃ Q, prs a0 (shr (max a1x0 a1x1)) = Q := ⟨_, rfl⟩
  have hPQ : 0 ≤ a0 → 0 ≤ P ∧ P ≤ Q ∧ Q ≤ a0 := by
    intro h
    have p := (prs_ends a0 (shr (min a1x0 a1x1)) (shr_bd _)).1 h
    have q := (prs_ends a0 (shr (max a1x0 a1x1)) (shr_bd _)).1 h
    have r := prs_mono a0 (shr (min a1x0 a1x1)) (shr (max a1x0 a1x1)) h (shr_mono (by omega))
    omega
  have EP := Lib.hid eP
  have EQ := Lib.hid eQ
  clear eP eQ
  obtain ⟨t, et⟩ : ∃ t, twd a0 a1x0 a2 = t := ⟨_, rfl⟩
  have ht := twd_between a0 a1x0 a2 b0 b1
  rw [et] at ht
  have ET := Lib.hid et
  clear et
  go_enter Try.func6, Try.ntmps6
  go_wp2_with fail
  have A := At.new w [.int .i64 a1x0, .int .i64 a1x1] 30
  have L := new_alloc (new_refl w) (.cells #[.int .i64 a1x0, .int .i64 a1x1] 30)
  have x0 := A.cell 0 rfl
  have x1 := A.cell 1 rfl
  go_cut [7, 8] (fun u v wx => u = .int .i64 P ∧ v = .int .i64 Q ∧ Below (w.alloc (.cells #[.int .i64 a1x0, .int .i64 a1x1] 30)).heap.size (w.alloc (.cells #[.int .i64 a1x0, .int .i64 a1x1] 30)) wx)
  case first =>
    go_region_held3 (fun w' => w'.cell? ⟨w.heap.size, 0, none⟩ = some (.int .i64 a1x0) ∧ w'.cell? ⟨w.heap.size, 1, none⟩ = some (.int .i64 a1x1))
      (first | go_keep | exact two_kept B2 (by assumption) | exact two_kept B1 ⟨by assumption, by assumption⟩ | exact two_kept B1 (by assumption))
      (first
        | (go_at_call 9; have h1 := B1; clear h1; refine (part_any _ _ _ (by omega)).mono ?_; rw [EQ.out]; rintro e w2 ⟨rfl, B2⟩)
        | (go_at_call 9; refine (part_any _ _ _ (by omega)).mono ?_; rw [EP.out]; rintro e w1 ⟨rfl, B1⟩; replace B1 := new_undrew B1))
    all_goals
      go_wp2_with fail
      go_meet
      case rel => exact ⟨rfl, rfl, new_then B1 B2⟩
  case rest =>
    obtain ⟨rfl, rfl, BW⟩ := hcut
    clear x0 x1
    replace A := A.kept BW
    replace L := new_then L BW
    have x0 := A.cell 0 rfl
    clear BW
    by_cases hx : 0 ≤ a0
    · have h := hPQ hx
      clear hPQ
      go_wp2_with (first
        | (go_at_call 16; refine (toward_any _ _ _ _ (by omega) (by omega) (by omega)).mono ?_; rw [ET.out]; rintro e w3 ⟨rfl, B3⟩; have x3 := (A.kept B3).cell 0 rfl)
        | (go_at_call 11; refine (works04_any _).mono ?_; rintro e w4 ⟨rfl, B4⟩))
      go_ret
      exact ⟨rfl, new_then L (new_then B3 B4)⟩
    · clear hPQ
      go_wp2_with (first
        | (go_at_call 16; refine (toward_any _ _ _ _ (by omega) (by omega) (by omega)).mono ?_; rw [ET.out]; rintro e w3 ⟨rfl, B3⟩; have x3 := (A.kept B3).cell 0 rfl)
        | (go_at_call 11; refine (works04_any _).mono ?_; rintro e w4 ⟨rfl, B4⟩))
      go_ret
      exact ⟨rfl, new_then L (new_then B3 B4)⟩

set_option maxRecDepth 100000 in
theorem lifted (os : Os) (started : os.Started) (H : Type) (enc : TypeId × Value → H) :
    ReturnsInHanded {} Try.checked os 6 .any (Rows.fixedBetweenSpec.pre6 enc Try.prog Try.f6 Rows.fixedBetweenRow.domain false) (Rows.fixedBetweenSpec.post enc Try.prog Try.f6 false true false false) := by
  refine returnsInHanded_of_change (C := Try.checked) own started (by kernel_rfl) Try.func6
    (ChangeSpec.witness6 (enc := enc) (C := Try.checked) false ⟨#[], #[.int .i64 0, .agg #[.int .i64 0, .int .i64 0], .int .i64 0], []⟩ 8 (by kernel_rfl) (by kernel_rfl) (by kernel_rfl) (by kernel_rfl)) ?_
  intro W base args ds gs before hval0 hW hcnd _
  have hval : ∀ (j : Nat) t v, Try.f6.params[j]? = some t → args[j]? = some v → Value.okWide Try.prog W .any base t v := hval0
  have hW' := hW
  obtain ⟨p, q, hA0, hV, rfl, hfz, hnd⟩ := hW
  have hA : DataW.TrodAll enc Try.prog W 0 (fun _ => true) true Try.f6.params.toList args.toList ds p := hA0
  rw [Try.params6] at hA hval
  obtain ⟨v0, vs0, d0, ds0, p0, q0, hargs, rfl, rfl, h0, r0⟩ := trodAll_cons hA
  obtain ⟨v1, vs1, d1, ds1, p1, q1, rfl, rfl, rfl, h1, r1⟩ := trodAll_cons r0
  obtain ⟨v2, vs2, d2, ds2, p2, q2, rfl, rfl, rfl, h2, r2⟩ := trodAll_cons r1
  obtain ⟨rfl, rfl, rfl⟩ := trodAll_nil r2
  obtain rfl : args = #[v0, v1, v2] := by cases args; simp_all
  obtain ⟨rfl, rfl⟩ := trodVars_none hV
  have k0 := h0
  have lt0 : ∀ x ∈ p0, x.block < W.heap.size := by obtain ⟨m, hm⟩ := k0; exact DataW.trod_lt m _ _ _ hm
  obtain ⟨a0, rfl, _, _, w0⟩ := open_int Try.underlying2 (hval 0 2 v0 rfl rfl) h0
  have k1 := h1
  have lt1 : ∀ x ∈ p1, x.block < W.heap.size := by obtain ⟨m, hm⟩ := k1; exact DataW.trod_lt m _ _ _ hm
  obtain ⟨cs1, rfl, l1, L1⟩ := flat_of (n := 2) (ls := [(0, .inl .i64), (1, .inl .i64)]) (by kernel_rfl) (by kernel_rfl) (agg_of_array Try.underlying30 (hval 1 30 v1 rfl rfl)) h1
  obtain ⟨a1x0, e1x0, w1x0⟩ := leaf_int (L1 (0, .inl .i64) (by simp))
  obtain ⟨a1x1, e1x1, w1x1⟩ := leaf_int (L1 (1, .inl .i64) (by simp))
  obtain rfl : cs1 = [.int .i64 a1x0, .int .i64 a1x1] := list_is l1 rfl (by intro i hi; match i, hi with | 0, _ => exact e1x0 | 1, _ => exact e1x1)
  have k2 := h2
  have lt2 : ∀ x ∈ p2, x.block < W.heap.size := by obtain ⟨m, hm⟩ := k2; exact DataW.trod_lt m _ _ _ hm
  obtain ⟨a2, rfl, _, _, w2⟩ := open_int Try.underlying3 (hval 2 3 v2 rfl rfl) h2
  clear hA0 hval0
  refine (walk a0 a1x0 a1x1 a2 W w0 w1x0 w1x1 w2).mono fun e W' ⟨he, bel⟩ => ?_
  subst he
  exact ⟨_, rfl, _, _, _, [], _, [], hW', trodAll_mk1 (shut_bool Try.underlying4 _), (trodAll_cons_mk (Below.trod laidOut (by kernel_rfl) (of_decide_eq_true (by kernel_rfl)) k0 bel lt0) (trodAll_cons_mk (Below.trod laidOut (by kernel_rfl) (of_decide_eq_true (by kernel_rfl)) k1 bel lt1) (trodAll_cons_mk (Below.trod laidOut (by kernel_rfl) (of_decide_eq_true (by kernel_rfl)) k2 bel lt2) trodAll_mk0))), rfl, bel.frame _, fun h => by cases h⟩

theorem over : Rows.fixedBetweenRow.holds Try.pinned (OpenSpec.ofChange Rows.fixedBetweenSpec) :=
  OpenClaim.holds_of_wide 6 Try.f6 rfl rfl rfl rfl rfl rfl rfl ⟨rfl, rfl, rfl, rfl, rfl⟩ rfl rfl rfl rfl rfl (by kernel_rfl) Try.func6 (by kernel_rfl)
    (of_decide_eq_true (by kernel_rfl)) (by unfold Func.isWrapper; first | (rw [if_pos (by decide +kernel)]; kernel_rfl) | (rw [if_neg (by decide +kernel)]; exact ⟨rfl, rfl⟩))
    (fun os started H enc _ => lifted os started H enc)
end fixedBetween
theorem fixedBetween_holds : Rows.FixedBetweenSaid := fixedBetween.over
end Go.Proofs.Ytgbnlnplfiaemaa
