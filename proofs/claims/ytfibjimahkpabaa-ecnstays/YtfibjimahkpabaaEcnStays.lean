/- For every byte, its code marked twice is its code marked once, it is marked if and only if it is not Not, each marking is legal and none is taken back, the byte with its own code in it is the byte, and the chapter's examples hold: EcnStays returns true and changes nothing. No conditions. -/
import Derived.Test.YtfibjimahkpabaaKit
import Derived.Test.YtfibjimahkpabaaEcnA
namespace Go.Proofs.Ytfibjimahkpabaa
namespace ecnStays
open Go.ChangeShapes Go.WideShapes Go.ChangeAt Go.RowKit
open Go.ChangeMaps (open_string shut_string)
set_option linter.unusedVariables false

theorem own : ownKnob Try.prog.godebug = none := by kernel_rfl
theorem laidOut : laidOutB Try.prog = true := by kernel_rfl

set_option maxHeartbeats 4000000 in
set_option maxRecDepth 100000 in
theorem walk (a0 : Int) (w : World) (w0 : (Lit.int .u8 a0).wf = true) :
    Calls Try.prog 5 #[.int .u8 a0] w fun e w' => e = .returned (.bool true) ∧ Below w.heap.size w w' := by
  have b0 := bounds_u8 w0
  clear w0
  have hp : putC a0 (a0 % 4) = a0 := by unfold putC; split <;> omega
  obtain ⟨c, hc⟩ : ∃ c, a0 % 4 = c := ⟨_, rfl⟩
  rw [hc] at hp
  have bc : c = 0 ∨ c = 1 ∨ c = 2 ∨ c = 3 := by omega
  have e0 : markC 0 = 0 := by decide
  have e1 : markC 1 = 3 := by decide
  have e2 : markC 2 = 3 := by decide
  have e3 : markC 3 = 3 := by decide
  have f0 : ableC 0 = false := by decide
  have f1 : ableC 1 = true := by decide
  have f2 : ableC 2 = true := by decide
  have f3 : ableC 3 = true := by decide
  have l0 : legalC 0 0 = true := by decide
  have l1 : legalC 1 3 = true := by decide
  have l2 : legalC 2 3 = true := by decide
  have l3 : legalC 3 3 = true := by decide
  have m1 : legalC 3 1 = false := by decide
  have m2 : legalC 3 2 = false := by decide
  rcases bc with rfl | rfl | rfl | rfl
  all_goals
    go_enter Try.func5, Try.ntmps5
    go_wp2_with (first
      | (go_at_call 6; refine (of_any _ _ (by omega)).mono ?_; rw [hc]; rintro e w' ⟨rfl, rfl⟩)
      | (go_at_call 10; refine (mark_any _ _).mono ?_; rintro e w' ⟨rfl, rfl⟩)
      | (go_at_call 14; refine (legal_any _ _ _).mono ?_; rintro e w' ⟨rfl, rfl⟩)
      | (go_at_call 7; refine (ecnPut_any _ _ _ (by omega)).mono ?_; rintro e w' ⟨rfl, rfl⟩)
      | (go_at_call 9; refine (works09_any _).mono ?_; rintro e w' ⟨rfl, rfl⟩))
    all_goals go_ret
    all_goals exact ⟨rfl, new_refl w⟩

set_option maxRecDepth 100000 in
theorem lifted (os : Os) (started : os.Started) (H : Type) (enc : TypeId × Value → H) :
    ReturnsInHanded {} Try.checked os 5 .any (Rows.ecnStaysSpec.pre6 enc Try.prog Try.f5 Rows.ecnStaysRow.domain false) (Rows.ecnStaysSpec.post enc Try.prog Try.f5 false true false false) := by
  refine returnsInHanded_of_change (C := Try.checked) own started (by kernel_rfl) Try.func5
    (ChangeSpec.witness6 (enc := enc) (C := Try.checked) false ⟨#[], #[.int .u8 0], []⟩ 8 (by kernel_rfl) (by kernel_rfl) (by kernel_rfl) (by kernel_rfl)) ?_
  intro W base args ds gs before hval0 hW hcnd _
  have hval : ∀ (j : Nat) t v, Try.f5.params[j]? = some t → args[j]? = some v → Value.okWide Try.prog W .any base t v := hval0
  have hW' := hW
  obtain ⟨p, q, hA0, hV, rfl, hfz, hnd⟩ := hW
  have hA : DataW.TrodAll enc Try.prog W 0 (fun _ => true) true Try.f5.params.toList args.toList ds p := hA0
  rw [Try.params5] at hA hval
  obtain ⟨v0, vs0, d0, ds0, p0, q0, hargs, rfl, rfl, h0, r0⟩ := trodAll_cons hA
  obtain ⟨rfl, rfl, rfl⟩ := trodAll_nil r0
  obtain rfl : args = #[v0] := by cases args; simp_all
  obtain ⟨rfl, rfl⟩ := trodVars_none hV
  have k0 := h0
  have lt0 : ∀ x ∈ p0, x.block < W.heap.size := by obtain ⟨m, hm⟩ := k0; exact DataW.trod_lt m _ _ _ hm
  obtain ⟨a0, rfl, _, _, w0⟩ := open_int Try.underlying5 (hval 0 5 v0 rfl rfl) h0
  clear hA0 hval0
  refine (walk a0 W w0).mono fun e W' ⟨he, bel⟩ => ?_
  subst he
  exact ⟨_, rfl, _, _, _, [], _, [], hW', trodAll_mk1 (shut_bool Try.underlying4 _), (trodAll_cons_mk (Below.trod laidOut (by kernel_rfl) (of_decide_eq_true (by kernel_rfl)) k0 bel lt0) trodAll_mk0), rfl, bel.frame _, fun h => by cases h⟩

theorem over : Rows.ecnStaysRow.holds Try.pinned (OpenSpec.ofChange Rows.ecnStaysSpec) :=
  OpenClaim.holds_of_wide 5 Try.f5 rfl rfl rfl rfl rfl rfl rfl ⟨rfl, rfl, rfl, rfl, rfl⟩ rfl rfl rfl rfl rfl (by kernel_rfl) Try.func5 (by kernel_rfl)
    (of_decide_eq_true (by kernel_rfl)) (by unfold Func.isWrapper; first | (rw [if_pos (by decide +kernel)]; kernel_rfl) | (rw [if_neg (by decide +kernel)]; exact ⟨rfl, rfl⟩))
    (fun os started H enc _ => lifted os started H enc)
end ecnStays
theorem ecnStays_holds : Rows.EcnStaysSaid := ecnStays.over
end Go.Proofs.Ytfibjimahkpabaa
