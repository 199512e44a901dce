/- For every int32 and every two uint16: of as many packets as the second one that came marked behind the first one, each of just as many bytes as the third one and one more, ace.Guess of the bits and the bytes tells all, and the chapter's examples hold: AceFull returns true and changes nothing. No conditions. -/
import Derived.Test.YtniegmfdkpbijaaKit
import Derived.Test.YtniegmfdkpbijaaAceB
namespace Go.Proofs.Ytniegmfdkpbijaa
namespace aceFull
open Go.ChangeShapes Go.WideShapes Go.ChangeAt Go.RowKit
open Go.ChangeMaps (open_string shut_string)
set_option linter.unusedVariables false

theorem own : ownKnob Try.prog.godebug = none := by kernel_rfl
theorem laidOut : laidOutB Try.prog = true := by kernel_rfl

set_option maxHeartbeats 4000000 in
set_option maxRecDepth 100000 in
theorem walk (a0 : Int) (a1 : Int) (a2 : Int) (w : World) (w0 : (Lit.int .i32 a0).wf = true) (w1 : (Lit.int .u16 a1).wf = true) (w2 : (Lit.int .u16 a2).wf = true) :
    Calls Try.prog 6 #[.int .i32 a0, .int .u16 a1, .int .u16 a2] w fun e w' => e = .returned (.bool true) ∧ Below w.heap.size w w' := by
  have b0 := bounds_i32 w0
  have b1 := bounds_u16 w1
  have b2 := bounds_u16 w2
  clear w0 w1 w2
  by_cases h0 : a1 = 0
  · subst h0
    have e1 := and7j a0
    obtain ⟨c, ec⟩ : ∃ c, a0 % 8 = c := ⟨_, rfl⟩
    have E2 : Hid (gueA a0 c 0 (a2 + 1) = 0) := Lib.hid (by rw [← ec]; exact guess_none _ _)
    have hc : 0 ≤ c ∧ c ≤ 7 := by omega
    rw [ec] at e1
    clear ec
    have L := new_refl w
    go_enter Try.func6, Try.ntmps6
    go_wp2_with (first
      | (go_at_call 10; refine (guess16_any _ _ _ _ _ (by omega) (by omega) (by omega)).mono ?_; rintro e w1 ⟨rfl, C⟩; rw [E2.out]; replace L := new_then L C)
      | (go_at_call 9; refine (works16_any _).mono ?_; rintro e w2 ⟨rfl, C⟩; replace L := new_then L C))
    go_ret
    exact ⟨rfl, L⟩
  · have h1 : 0 < a1 := by omega
    obtain ⟨m, em⟩ : ∃ m, a2 + 1 = m := ⟨_, rfl⟩
    have hm : 0 < m ∧ m ≤ 65536 := by omega
    have p1 : a1 * 1 ≤ a1 * m := Int.mul_le_mul_of_nonneg_left (by omega) (by omega)
    have p2 : a1 * m ≤ a1 * 65536 := Int.mul_le_mul_of_nonneg_left (by omega) (by omega)
    have e1 := and7i (a0 + a1)
    obtain ⟨c, ec⟩ : ∃ c, (a0 + a1) % 8 = c := ⟨_, rfl⟩
    have E2 : Hid (gueA a0 c (a1 * m) m = a1) := Lib.hid (by rw [← ec]; exact guess_full hm.1 (by omega) (by omega))
    have hc : 0 ≤ c ∧ c ≤ 7 := by omega
    rw [ec] at e1
    clear ec
    obtain ⟨p, ep⟩ : ∃ p, a1 * m = p := ⟨_, rfl⟩
    rw [ep] at p1 p2 E2
    have L := new_refl w
    go_enter Try.func6, Try.ntmps6
    go_wp2_with (first
      | (go_at_call 10; refine (guess16_any _ _ _ _ _ (by omega) (by omega) (by omega)).mono ?_; rintro e w1 ⟨rfl, C⟩; rw [E2.out]; replace L := new_then L C)
      | (go_at_call 9; refine (works16_any _).mono ?_; rintro e w2 ⟨rfl, C⟩; replace L := new_then L C))
    go_ret
    exact ⟨rfl, L⟩

set_option maxRecDepth 100000 in
theorem lifted (os : Os) (started : os.Started) (H : Type) (enc : TypeId × Value → H) :
    ReturnsInHanded {} Try.checked os 6 .any (Rows.aceFullSpec.pre6 enc Try.prog Try.f6 Rows.aceFullRow.domain false) (Rows.aceFullSpec.post enc Try.prog Try.f6 false true false false) := by
  refine returnsInHanded_of_change (C := Try.checked) own started (by kernel_rfl) Try.func6
    (ChangeSpec.witness6 (enc := enc) (C := Try.checked) false ⟨#[], #[.int .i32 0, .int .u16 0, .int .u16 0], []⟩ 8 (by kernel_rfl) (by kernel_rfl) (by kernel_rfl) (by kernel_rfl)) ?_
  intro W base args ds gs before hval0 hW hcnd _
  have hval : ∀ (j : Nat) t v, Try.f6.params[j]? = some t → args[j]? = some v → Value.okWide Try.prog W .any base t v := hval0
  have hW' := hW
  obtain ⟨p, q, hA0, hV, rfl, hfz, hnd⟩ := hW
  have hA : DataW.TrodAll enc Try.prog W 0 (fun _ => true) true Try.f6.params.toList args.toList ds p := hA0
  rw [Try.params6] at hA hval
  obtain ⟨v0, vs0, d0, ds0, p0, q0, hargs, rfl, rfl, h0, r0⟩ := trodAll_cons hA
  obtain ⟨v1, vs1, d1, ds1, p1, q1, rfl, rfl, rfl, h1, r1⟩ := trodAll_cons r0
  obtain ⟨v2, vs2, d2, ds2, p2, q2, rfl, rfl, rfl, h2, r2⟩ := trodAll_cons r1
  obtain ⟨rfl, rfl, rfl⟩ := trodAll_nil r2
  obtain rfl : args = #[v0, v1, v2] := by cases args; simp_all
  obtain ⟨rfl, rfl⟩ := trodVars_none hV
  have k0 := h0
  have lt0 : ∀ x ∈ p0, x.block < W.heap.size := by obtain ⟨m, hm⟩ := k0; exact DataW.trod_lt m _ _ _ hm
  obtain ⟨a0, rfl, _, _, w0⟩ := open_int Try.underlying21 (hval 0 21 v0 rfl rfl) h0
  have k1 := h1
  have lt1 : ∀ x ∈ p1, x.block < W.heap.size := by obtain ⟨m, hm⟩ := k1; exact DataW.trod_lt m _ _ _ hm
  obtain ⟨a1, rfl, _, _, w1⟩ := open_int Try.underlying29 (hval 1 29 v1 rfl rfl) h1
  have k2 := h2
  have lt2 : ∀ x ∈ p2, x.block < W.heap.size := by obtain ⟨m, hm⟩ := k2; exact DataW.trod_lt m _ _ _ hm
  obtain ⟨a2, rfl, _, _, w2⟩ := open_int Try.underlying29 (hval 2 29 v2 rfl rfl) h2
  clear hA0 hval0
  refine (walk a0 a1 a2 W w0 w1 w2).mono fun e W' ⟨he, bel⟩ => ?_
  subst he
  exact ⟨_, rfl, _, _, _, [], _, [], hW', trodAll_mk1 (shut_bool Try.underlying4 _), (trodAll_cons_mk (Below.trod laidOut (by kernel_rfl) (of_decide_eq_true (by kernel_rfl)) k0 bel lt0) (trodAll_cons_mk (Below.trod laidOut (by kernel_rfl) (of_decide_eq_true (by kernel_rfl)) k1 bel lt1) (trodAll_cons_mk (Below.trod laidOut (by kernel_rfl) (of_decide_eq_true (by kernel_rfl)) k2 bel lt2) trodAll_mk0))), rfl, bel.frame _, fun h => by cases h⟩

theorem over : Rows.aceFullRow.holds Try.pinned (OpenSpec.ofChange Rows.aceFullSpec) :=
  OpenClaim.holds_of_wide 6 Try.f6 rfl rfl rfl rfl rfl rfl rfl ⟨rfl, rfl, rfl, rfl, rfl⟩ rfl rfl rfl rfl rfl (by kernel_rfl) Try.func6 (by kernel_rfl)
    (of_decide_eq_true (by kernel_rfl)) (by unfold Func.isWrapper; first | (rw [if_pos (by decide +kernel)]; kernel_rfl) | (rw [if_neg (by decide +kernel)]; exact ⟨rfl, rfl⟩))
    (fun os started H enc _ => lifted os started H enc)
end aceFull
theorem aceFull_holds : Rows.AceFullSaid := aceFull.over
end Go.Proofs.Ytniegmfdkpbijaa
