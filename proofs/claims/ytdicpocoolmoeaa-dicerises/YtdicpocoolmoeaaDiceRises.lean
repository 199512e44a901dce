/- For every uint32 and every two int64, a draw that hits a share hits each greater one, and none that is not above it; what is nil answers as the document says; the chapter's example holds: DiceRises returns true and changes nothing. No conditions. -/
import Derived.Test.YtdicpocoolmoeaaKit
import Derived.Test.YtdicpocoolmoeaaDicB
namespace Go.Proofs.Ytdicpocoolmoeaa
namespace diceRises
open Go.ChangeShapes Go.WideShapes Go.ChangeAt Go.RowKit
open Go.ChangeMaps (open_string shut_string)
set_option linter.unusedVariables false

theorem hit_one {w wr : World} {b : Nat} {x : Int} (D : DIn w b [x] 0 wr) (s : Int) :
    Calls Try.prog 10 #[.pointer (some ⟨b, 0, none⟩), .int .i64 s] wr (GivesD w b (.bool (hitB x s)) [x] 1) := D.hit s (by decide)
theorem new_one (a w : World) (x : Int) (hx : isU32 x) (t : TypeId) (B : Below a.heap.size a w) :
    Calls Try.prog 7 #[.slice (some ⟨w.heap.size, 0, none⟩) 1 1] (w.alloc (.cells #[.int .u32 x] t)) (NewD a [x]) :=
  (newD_any _ 1 1 [x] _ (src_new8 w [x] 1 1 _ rfl) (by decide) (by simpa using hx)).mono fun e w' ⟨b, he, D⟩ => ⟨b, he, D.from (new_alloc B _)⟩
theorem own : ownKnob Try.prog.godebug = none := by kernel_rfl
theorem laidOut : laidOutB Try.prog = true := by kernel_rfl

set_option maxHeartbeats 4000000 in
set_option maxRecDepth 100000 in
theorem walk (a0 : Int) (a1 : Int) (a2 : Int) (w : World) (w0 : (Lit.int .u32 a0).wf = true) (w1 : (Lit.int .i64 a1).wf = true) (w2 : (Lit.int .i64 a2).wf = true) :
    Calls Try.prog 5 #[.int .u32 a0, .int .i64 a1, .int .i64 a2] w fun e w' => e = .returned (.bool true) ∧ Below w.heap.size w w' := by
  have b0 : isU32 a0 := by have := bounds_u32 w0; unfold isU32; omega
  have b1 := bounds_i64 w1
  have b2 := bounds_i64 w2
  clear w0 w1 w2
  have b0' := b0
  unfold isU32 at b0'
  obtain ⟨u0, u1⟩ := b0'
  have hc : hitB a0 (a0 / 4096) = false := hitB_no (by omega)
  have hd : hitB a0 (a0 / 4096 + 1) = true := hitB_yes (by omega)
  have L := new_refl w
  rcases Int.lt_trichotomy a1 a2 with h12 | rfl | h12
  · have hr : hitB a0 a1 = true → hitB a0 a2 = true := by intro h; simp [hitB] at h ⊢; omega
    cases ha : hitB a0 a1
    · clear hr
      go_enter Try.func5, Try.ntmps5
      go_wp2_with (first
        | (go_at_call 7; refine (new_one w _ a0 b0 _ L).mono ?_; rintro e w1 ⟨b, rfl, D⟩)
        | (go_at_call 10; refine (hit_one D _).mono ?_; rintro e w2 ⟨rfl, D2⟩; clear D; replace L := D2.2.2; clear D2)
        | (go_at_call 10; refine (hit_nil _ _).mono ?_; rintro e w2 ⟨rfl, rfl⟩)
        | (go_at_call 8; refine (next_nil _).mono ?_; rintro e w2 ⟨rfl, rfl⟩)
        | (go_at_call 12; refine (used_nil _).mono ?_; rintro e w2 ⟨rfl, rfl⟩)
        | (go_at_call 13; refine (works08_any _).mono ?_; rintro e w3 ⟨rfl, B3⟩))
      go_ret
      exact ⟨rfl, new_then L B3⟩
    · have hb := hr ha
      clear hr
      go_enter Try.func5, Try.ntmps5
      go_wp2_with (first
        | (go_at_call 7; refine (new_one w _ a0 b0 _ L).mono ?_; rintro e w1 ⟨b, rfl, D⟩)
        | (go_at_call 10; refine (hit_one D _).mono ?_; rintro e w2 ⟨rfl, D2⟩; clear D; replace L := D2.2.2; clear D2)
        | (go_at_call 10; refine (hit_nil _ _).mono ?_; rintro e w2 ⟨rfl, rfl⟩)
        | (go_at_call 8; refine (next_nil _).mono ?_; rintro e w2 ⟨rfl, rfl⟩)
        | (go_at_call 12; refine (used_nil _).mono ?_; rintro e w2 ⟨rfl, rfl⟩)
        | (go_at_call 13; refine (works08_any _).mono ?_; rintro e w3 ⟨rfl, B3⟩))
      go_ret
      exact ⟨rfl, new_then L B3⟩
  · cases ha : hitB a0 a1
    · skip
      go_enter Try.func5, Try.ntmps5
      go_wp2_with (first
        | (go_at_call 7; refine (new_one w _ a0 b0 _ L).mono ?_; rintro e w1 ⟨b, rfl, D⟩)
        | (go_at_call 10; refine (hit_one D _).mono ?_; rintro e w2 ⟨rfl, D2⟩; clear D; replace L := D2.2.2; clear D2)
        | (go_at_call 10; refine (hit_nil _ _).mono ?_; rintro e w2 ⟨rfl, rfl⟩)
        | (go_at_call 8; refine (next_nil _).mono ?_; rintro e w2 ⟨rfl, rfl⟩)
        | (go_at_call 12; refine (used_nil _).mono ?_; rintro e w2 ⟨rfl, rfl⟩)
        | (go_at_call 13; refine (works08_any _).mono ?_; rintro e w3 ⟨rfl, B3⟩))
      go_ret
      exact ⟨rfl, new_then L B3⟩
    · skip
      go_enter Try.func5, Try.ntmps5
      go_wp2_with (first
        | (go_at_call 7; refine (new_one w _ a0 b0 _ L).mono ?_; rintro e w1 ⟨b, rfl, D⟩)
        | (go_at_call 10; refine (hit_one D _).mono ?_; rintro e w2 ⟨rfl, D2⟩; clear D; replace L := D2.2.2; clear D2)
        | (go_at_call 10; refine (hit_nil _ _).mono ?_; rintro e w2 ⟨rfl, rfl⟩)
        | (go_at_call 8; refine (next_nil _).mono ?_; rintro e w2 ⟨rfl, rfl⟩)
        | (go_at_call 12; refine (used_nil _).mono ?_; rintro e w2 ⟨rfl, rfl⟩)
        | (go_at_call 13; refine (works08_any _).mono ?_; rintro e w3 ⟨rfl, B3⟩))
      go_ret
      exact ⟨rfl, new_then L B3⟩
  · have hr : hitB a0 a2 = true → hitB a0 a1 = true := by intro h; simp [hitB] at h ⊢; omega
    cases ha : hitB a0 a2
    · clear hr
      go_enter Try.func5, Try.ntmps5
      go_wp2_with (first
        | (go_at_call 7; refine (new_one w _ a0 b0 _ L).mono ?_; rintro e w1 ⟨b, rfl, D⟩)
        | (go_at_call 10; refine (hit_one D _).mono ?_; rintro e w2 ⟨rfl, D2⟩; clear D; replace L := D2.2.2; clear D2)
        | (go_at_call 10; refine (hit_nil _ _).mono ?_; rintro e w2 ⟨rfl, rfl⟩)
        | (go_at_call 8; refine (next_nil _).mono ?_; rintro e w2 ⟨rfl, rfl⟩)
        | (go_at_call 12; refine (used_nil _).mono ?_; rintro e w2 ⟨rfl, rfl⟩)
        | (go_at_call 13; refine (works08_any _).mono ?_; rintro e w3 ⟨rfl, B3⟩))
      go_ret
      exact ⟨rfl, new_then L B3⟩
    · have hb := hr ha
      clear hr
      go_enter Try.func5, Try.ntmps5
      go_wp2_with (first
        | (go_at_call 7; refine (new_one w _ a0 b0 _ L).mono ?_; rintro e w1 ⟨b, rfl, D⟩)
        | (go_at_call 10; refine (hit_one D _).mono ?_; rintro e w2 ⟨rfl, D2⟩; clear D; replace L := D2.2.2; clear D2)
        | (go_at_call 10; refine (hit_nil _ _).mono ?_; rintro e w2 ⟨rfl, rfl⟩)
        | (go_at_call 8; refine (next_nil _).mono ?_; rintro e w2 ⟨rfl, rfl⟩)
        | (go_at_call 12; refine (used_nil _).mono ?_; rintro e w2 ⟨rfl, rfl⟩)
        | (go_at_call 13; refine (works08_any _).mono ?_; rintro e w3 ⟨rfl, B3⟩))
      go_ret
      exact ⟨rfl, new_then L B3⟩

set_option maxRecDepth 100000 in
theorem lifted (os : Os) (started : os.Started) (H : Type) (enc : TypeId × Value → H) :
    ReturnsInHanded {} Try.checked os 5 .any (Rows.diceRisesSpec.pre6 enc Try.prog Try.f5 Rows.diceRisesRow.domain false) (Rows.diceRisesSpec.post enc Try.prog Try.f5 false true false false) := by
  refine returnsInHanded_of_change (C := Try.checked) own started (by kernel_rfl) Try.func5
    (ChangeSpec.witness6 (enc := enc) (C := Try.checked) false ⟨#[], #[.int .u32 0, .int .i64 0, .int .i64 0], []⟩ 8 (by kernel_rfl) (by kernel_rfl) (by kernel_rfl) (by kernel_rfl)) ?_
  intro W base args ds gs before hval0 hW hcnd _
  have hval : ∀ (j : Nat) t v, Try.f5.params[j]? = some t → args[j]? = some v → Value.okWide Try.prog W .any base t v := hval0
  have hW' := hW
  obtain ⟨p, q, hA0, hV, rfl, hfz, hnd⟩ := hW
  have hA : DataW.TrodAll enc Try.prog W 0 (fun _ => true) true Try.f5.params.toList args.toList ds p := hA0
  rw [Try.params5] at hA hval
  obtain ⟨v0, vs0, d0, ds0, p0, q0, hargs, rfl, rfl, h0, r0⟩ := trodAll_cons hA
  obtain ⟨v1, vs1, d1, ds1, p1, q1, rfl, rfl, rfl, h1, r1⟩ := trodAll_cons r0
  obtain ⟨v2, vs2, d2, ds2, p2, q2, rfl, rfl, rfl, h2, r2⟩ := trodAll_cons r1
  obtain ⟨rfl, rfl, rfl⟩ := trodAll_nil r2
  obtain rfl : args = #[v0, v1, v2] := by cases args; simp_all
  obtain ⟨rfl, rfl⟩ := trodVars_none hV
  have k0 := h0
  have lt0 : ∀ x ∈ p0, x.block < W.heap.size := by obtain ⟨m, hm⟩ := k0; exact DataW.trod_lt m _ _ _ hm
  obtain ⟨a0, rfl, _, _, w0⟩ := open_int Try.underlying26 (hval 0 26 v0 rfl rfl) h0
  have k1 := h1
  have lt1 : ∀ x ∈ p1, x.block < W.heap.size := by obtain ⟨m, hm⟩ := k1; exact DataW.trod_lt m _ _ _ hm
  obtain ⟨a1, rfl, _, _, w1⟩ := open_int Try.underlying2 (hval 1 2 v1 rfl rfl) h1
  have k2 := h2
  have lt2 : ∀ x ∈ p2, x.block < W.heap.size := by obtain ⟨m, hm⟩ := k2; exact DataW.trod_lt m _ _ _ hm
  obtain ⟨a2, rfl, _, _, w2⟩ := open_int Try.underlying2 (hval 2 2 v2 rfl rfl) h2
  clear hA0 hval0
  refine (walk a0 a1 a2 W w0 w1 w2).mono fun e W' ⟨he, bel⟩ => ?_
  subst he
  exact ⟨_, rfl, _, _, _, [], _, [], hW', trodAll_mk1 (shut_bool Try.underlying4 _), (trodAll_cons_mk (Below.trod laidOut (by kernel_rfl) (of_decide_eq_true (by kernel_rfl)) k0 bel lt0) (trodAll_cons_mk (Below.trod laidOut (by kernel_rfl) (of_decide_eq_true (by kernel_rfl)) k1 bel lt1) (trodAll_cons_mk (Below.trod laidOut (by kernel_rfl) (of_decide_eq_true (by kernel_rfl)) k2 bel lt2) trodAll_mk0))), rfl, bel.frame _, fun h => by cases h⟩

theorem over : Rows.diceRisesRow.holds Try.pinned (OpenSpec.ofChange Rows.diceRisesSpec) :=
  OpenClaim.holds_of_wide 5 Try.f5 rfl rfl rfl rfl rfl rfl rfl ⟨rfl, rfl, rfl, rfl, rfl⟩ rfl rfl rfl rfl rfl (by kernel_rfl) Try.func5 (by kernel_rfl)
    (of_decide_eq_true (by kernel_rfl)) (by unfold Func.isWrapper; first | (rw [if_pos (by decide +kernel)]; kernel_rfl) | (rw [if_neg (by decide +kernel)]; exact ⟨rfl, rfl⟩))
    (fun os started H enc _ => lifted os started H enc)
end diceRises
theorem diceRises_holds : Rows.DiceRisesSaid := diceRises.over
end Go.Proofs.Ytdicpocoolmoeaa
