/- For every uint64 and every int, a reader that is nil answers as the document says, what lies behind the first two of four bytes in their room stays when a number is put behind them, and the chapter's examples hold: CodeNil returns true and changes nothing. No conditions. -/
import Derived.Test.YthokfnbmjkekfaaKit
import Derived.Test.YthokfnbmjkekfaaCodK
namespace Go.Proofs.Ythokfnbmjkekfaa
namespace codeNil
open Go.ChangeShapes Go.WideShapes Go.ChangeAt Go.RowKit
open Go.ChangeMaps (open_string shut_string)
set_option linter.unusedVariables false

/-- The first two of four bytes that a call laid. -/
theorem src_front (w : World) (t : TypeId) : Src .u8 (w.alloc (.cells #[.int .u8 1, .int .u8 2, .int .u8 3, .int .u8 4] t)) (some ⟨w.heap.size, 0, none⟩) 2 4 [1, 2] := by
  refine ⟨rfl, .inr ⟨_, rfl, fun j hj => ?_⟩⟩
  have h := At.new w [.int .u8 1, .int .u8 2, .int .u8 3, .int .u8 4] t
  have : j < 2 := by simpa using hj
  match j, this with
  | 0, _ => exact h.cell 0 rfl
  | 1, _ => exact h.cell 1 rfl
theorem own : ownKnob Try.prog.godebug = none := by kernel_rfl
theorem laidOut : laidOutB Try.prog = true := by kernel_rfl

set_option maxHeartbeats 4000000 in
set_option maxRecDepth 100000 in
theorem walk (a0 : Int) (a1 : Int) (w : World) (w0 : (Lit.int .u64 a0).wf = true) (w1 : (Lit.int .i64 a1).wf = true) :
    Calls Try.prog 6 #[.int .u64 a0, .int .i64 a1] w fun e w' => e = .returned (.bool true) ∧ Below w.heap.size w w' := by
  have b0 := bounds_u64 w0
  have b1 := bounds_i64 w1
  clear w0 w1
  have hp := nb_pos a0.toNat
  obtain ⟨n, hn⟩ : ∃ n, ([1, 2] ++ nb a0.toNat).length = n := ⟨_, rfl⟩
  have hn2 : 2 < n := by rw [← hn, List.length_append]; simp; omega
  have HN := Lib.hid hn
  clear hn hp
  have n1 : (2 : Int) < (n : Int) := by omega
  have HS := Lib.hid (src_front w 5)
  have A0 := At.new w [.int .u8 1, .int .u8 2, .int .u8 3, .int .u8 4] 5
  have L := new_alloc (new_refl w) (.cells #[.int .u8 1, .int .u8 2, .int .u8 3, .int .u8 4] 5)
  have HZ := Lib.hid (alloc_size w (.cells #[.int .u8 1, .int .u8 2, .int .u8 3, .int .u8 4] 5))
  go_enter Try.func6, Try.ntmps6
  go_wp2_with (first
    | (go_at_call 7; refine (put_oneAt _ 2 4 [1, 2] a0 n _ _ _ HZ.out HS.out b0 (by decide) HN.out (by omega)).mono ?_; rintro e w1 ⟨g1, c1, rfl, O1, B1⟩; replace L := new_then (new_alloc L _) B1; replace A0 := (A0.alloc _).kept B1; have a2 := A0.cell 2 rfl; have a3 := A0.cell 3 rfl)
    | (go_at_call 21; refine (take_nil _).mono ?_; rintro e w' ⟨rfl, rfl⟩)
    | (go_at_call 15; refine (int_nil _).mono ?_; rintro e w' ⟨rfl, rfl⟩)
    | (go_at_call 18; refine (upto_nil _ _).mono ?_; rintro e w' ⟨rfl, rfl⟩)
    | (go_at_call 19; refine (text_nil _ _ b1).mono ?_; rintro e w' ⟨rfl, rfl⟩)
    | (go_at_call 22; refine (left_nil _).mono ?_; rintro e w' ⟨rfl, rfl⟩)
    | (go_at_call 24; refine (rdat_nil _).mono ?_; rintro e w' ⟨rfl, rfl⟩)
    | (go_at_call 25; refine (err_nil _).mono ?_; rintro e w' ⟨rfl, rfl⟩)
    | (go_at_call 13; refine (works07_any _).mono ?_; rintro e w6 ⟨rfl, B6⟩; replace L := new_then L B6))
  go_ret
  exact ⟨rfl, L⟩

set_option maxRecDepth 100000 in
theorem lifted (os : Os) (started : os.Started) (H : Type) (enc : TypeId × Value → H) :
    ReturnsInHanded {} Try.checked os 6 .any (Rows.codeNilSpec.pre6 enc Try.prog Try.f6 Rows.codeNilRow.domain false) (Rows.codeNilSpec.post enc Try.prog Try.f6 false true false false) := by
  refine returnsInHanded_of_change (C := Try.checked) own started (by kernel_rfl) Try.func6
    (ChangeSpec.witness6 (enc := enc) (C := Try.checked) false ⟨#[], #[.int .u64 0, .int .i64 0], []⟩ 8 (by kernel_rfl) (by kernel_rfl) (by kernel_rfl) (by kernel_rfl)) ?_
  intro W base args ds gs before hval0 hW hcnd _
  have hval : ∀ (j : Nat) t v, Try.f6.params[j]? = some t → args[j]? = some v → Value.okWide Try.prog W .any base t v := hval0
  have hW' := hW
  obtain ⟨p, q, hA0, hV, rfl, hfz, hnd⟩ := hW
  have hA : DataW.TrodAll enc Try.prog W 0 (fun _ => true) true Try.f6.params.toList args.toList ds p := hA0
  rw [Try.params6] at hA hval
  obtain ⟨v0, vs0, d0, ds0, p0, q0, hargs, rfl, rfl, h0, r0⟩ := trodAll_cons hA
  obtain ⟨v1, vs1, d1, ds1, p1, q1, rfl, rfl, rfl, h1, r1⟩ := trodAll_cons r0
  obtain ⟨rfl, rfl, rfl⟩ := trodAll_nil r1
  obtain rfl : args = #[v0, v1] := by cases args; simp_all
  obtain ⟨rfl, rfl⟩ := trodVars_none hV
  have k0 := h0
  have lt0 : ∀ x ∈ p0, x.block < W.heap.size := by obtain ⟨m, hm⟩ := k0; exact DataW.trod_lt m _ _ _ hm
  obtain ⟨a0, rfl, _, _, w0⟩ := open_int Try.underlying24 (hval 0 24 v0 rfl rfl) h0
  have k1 := h1
  have lt1 : ∀ x ∈ p1, x.block < W.heap.size := by obtain ⟨m, hm⟩ := k1; exact DataW.trod_lt m _ _ _ hm
  obtain ⟨a1, rfl, _, _, w1⟩ := open_int Try.underlying3 (hval 1 3 v1 rfl rfl) h1
  clear hA0 hval0
  refine (walk a0 a1 W w0 w1).mono fun e W' ⟨he, bel⟩ => ?_
  subst he
  exact ⟨_, rfl, _, _, _, [], _, [], hW', trodAll_mk1 (shut_bool Try.underlying4 _), (trodAll_cons_mk (Below.trod laidOut (by kernel_rfl) (of_decide_eq_true (by kernel_rfl)) k0 bel lt0) (trodAll_cons_mk (Below.trod laidOut (by kernel_rfl) (of_decide_eq_true (by kernel_rfl)) k1 bel lt1) trodAll_mk0)), rfl, bel.frame _, fun h => by cases h⟩

theorem over : Rows.codeNilRow.holds Try.pinned (OpenSpec.ofChange Rows.codeNilSpec) :=
  OpenClaim.holds_of_wide 6 Try.f6 rfl rfl rfl rfl rfl rfl rfl ⟨rfl, rfl, rfl, rfl, rfl⟩ rfl rfl rfl rfl rfl (by kernel_rfl) Try.func6 (by kernel_rfl)
    (of_decide_eq_true (by kernel_rfl)) (by unfold Func.isWrapper; first | (rw [if_pos (by decide +kernel)]; kernel_rfl) | (rw [if_neg (by decide +kernel)]; exact ⟨rfl, rfl⟩))
    (fun os started H enc _ => lifted os started H enc)
end codeNil
theorem codeNil_holds : Rows.CodeNilSaid := codeNil.over
end Go.Proofs.Ythokfnbmjkekfaa
