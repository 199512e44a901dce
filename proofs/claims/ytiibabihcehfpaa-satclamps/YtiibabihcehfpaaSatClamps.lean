/- For every int64, every two int64 and every list of int64, sat.Clamp answers as the document's own Clamp does, and sat.Sum of the first twenty of the list as its own Sum does, and the chapter's examples hold: SatClamps returns true and changes nothing that was there. No conditions. -/
import Derived.Test.YtiibabihcehfpaaKit
import Derived.Test.YtiibabihcehfpaaE
import Derived.Deep.QuietTactic
import Derived.BigQuiet
namespace Go.Proofs.Ytiibabihcehfpaa
namespace satClamps
open Go.ChangeShapes Go.WideShapes Go.ChangeAt Go.RowKit
open Go.ChangeMaps (open_string shut_string)
set_option linter.unusedVariables false

theorem quiet_as {P : Program} {f : FuncId} {args : Array Value} {w : World} {n : Nat} {v : Value}
    (h : Calls P f args (w.drewN n) fun e w' => e = .returned v ∧ w.drewN n = w') : Calls P f args (w.drewN n) fun e w'' => e = .returned v ∧ ∃ m, w'' = w.drewN m :=
  h.mono fun _ _ ⟨he, hm⟩ => ⟨he, n, hm.symm⟩
theorem grows {w : World} {o : Obj} (n : Nat) : Below w.heap.size w ((w.alloc o).drewN n) := ((Below.refl _ _).alloc (Nat.le_refl _) _).trans ⟨rfl, rfl, rfl, Nat.le_refl _, fun _ _ => rfl⟩

theorem cells_stay {w : World} {o : Obj} {n b off m : Nat} {f : Nat → Value} (h : ∀ i, i < m → w.cell? ⟨b, off + i, none⟩ = some (f i)) : ∀ i, i < m → ((w.alloc o).drewN n).cell? ⟨b, off + i, none⟩ = some (f i) := by
  intro i hi
  rw [World.cell?_drewN, World.cell?_alloc_lt _ _ _ (World.block_lt_of_cell? w _ (h i hi))]
  exact h i hi

theorem own : ownKnob Try.prog.godebug = none := by kernel_rfl
theorem laidOut : laidOutB Try.prog = true := by kernel_rfl

theorem walk (a0 : Int) (a1x0 a1x1 : Int) (a2 : Option Addr) (len2 cap2 : Nat) (z2 : List Int) (w : World) (w0 : (Lit.int .i64 a0).wf = true) (w1x0 : (Lit.int .i64 a1x0).wf = true) (w1x1 : (Lit.int .i64 a1x1).wf = true) (w2 : IsRow .i64 w a2 len2 cap2 z2) :
    Calls Try.prog 6 #[.int .i64 a0, .agg #[.int .i64 a1x0, .int .i64 a1x1], .slice a2 len2 cap2] w fun e w' => e = .returned (.bool true) ∧ Below w.heap.size w w' := by
  have b0 := bounds_i64 w0
  have b1 := bounds_i64 w1x0
  have b2 := bounds_i64 w1x1
  clear w0 w1x0 w1x1
  rcases w2 with ⟨rfl, rfl, rfl, rfl⟩ | ⟨x, rfl, hl, hm, hz, hcell, hwz⟩
  · go_enter Try.func6, Try.ntmps6
    go_wp2_with fail
    go_quiet (first
      | (go_at_call 23; exact quiet_as (satClamp_any _ _ _ _))
      | (go_at_call 24; exact quiet_as (refClamp_any _ _ _ _))
      | (go_at_call 25; exact quiet_as (satSum_none _ _ _))
      | (go_at_call 26; exact quiet_as (refSum_none _ _ _))
      | (go_at_call 16; exact Calls.quiet_of (works_any _)))
    go_wp2_with fail
    go_ret
    exact ⟨rfl, grows _⟩
  · unfold maxLen at hm
    by_cases h0 : len2 = 0
    · subst h0
      go_enter Try.func6, Try.ntmps6
      go_wp2_with fail
      go_quiet (first
        | (go_at_call 23; exact quiet_as (satClamp_any _ _ _ _))
        | (go_at_call 24; exact quiet_as (refClamp_any _ _ _ _))
        | (go_at_call 25; exact quiet_as (satSum_none _ _ _))
        | (go_at_call 26; exact quiet_as (refSum_none _ _ _))
        | (go_at_call 16; exact Calls.quiet_of (works_any _)))
      go_wp2_with fail
      go_ret
      exact ⟨rfl, grows _⟩
    · obtain ⟨b, off, rfl, hc0⟩ := ints_at hcell (by omega)
      have C := Lib.hid (fun (o : Obj) (n : Nat) => cells_stay (o := o) (n := n) hc0)
      have R := Lib.hid (range_i64 hwz)
      have L := Lib.hid hz
      clear hcell hc0 hwz hz
      by_cases h20 : len2 ≤ 20
      · go_enter Try.func6, Try.ntmps6
        go_wp2_with fail
        go_quiet (first
          | (go_at_call 23; exact quiet_as (satClamp_any _ _ _ _))
          | (go_at_call 24; exact quiet_as (refClamp_any _ _ _ _))
          | (go_at_call 25; exact quiet_as (satSum_some b off len2 cap2 z2 _ (by rw [L.out]; omega) (by omega) (fun i hi => C.out _ _ i (by rw [L.out]; omega)) R.out))
          | (go_at_call 26; exact quiet_as (refSum_some b off len2 cap2 z2 _ (by rw [L.out]; omega) (by omega) (fun i hi => C.out _ _ i (by rw [L.out]; omega)) R.out))
          | (go_at_call 16; exact Calls.quiet_of (works_any _)))
        go_wp2_with fail
        go_ret
        exact ⟨rfl, grows _⟩
      · go_enter Try.func6, Try.ntmps6
        go_wp2_with fail
        go_quiet (first
          | (go_at_call 23; exact quiet_as (satClamp_any _ _ _ _))
          | (go_at_call 24; exact quiet_as (refClamp_any _ _ _ _))
          | (go_at_call 25; exact quiet_as (satSum_some b off 20 cap2 z2 _ (by rw [L.out]; omega) (by omega) (fun i hi => C.out _ _ i (by rw [L.out]; omega)) R.out))
          | (go_at_call 26; exact quiet_as (refSum_some b off 20 cap2 z2 _ (by rw [L.out]; omega) (by omega) (fun i hi => C.out _ _ i (by rw [L.out]; omega)) R.out))
          | (go_at_call 16; exact Calls.quiet_of (works_any _)))
        go_wp2_with fail
        go_ret
        exact ⟨rfl, grows _⟩

set_option maxRecDepth 100000 in
theorem lifted (os : Os) (started : os.Started) (H : Type) (enc : TypeId × Value → H) :
    ReturnsInHanded {} Try.checked os 6 .any (Rows.satClampsSpec.pre6 enc Try.prog Try.f6 Rows.satClampsRow.domain false) (Rows.satClampsSpec.post enc Try.prog Try.f6 false true false false) := by
  refine returnsInHanded_of_change (C := Try.checked) own started (by kernel_rfl) Try.func6
    (ChangeSpec.witness6 (enc := enc) (C := Try.checked) false ⟨#[], #[.int .i64 0, .agg #[.int .i64 0, .int .i64 0], .slice none 0 0], []⟩ 8 (by kernel_rfl) (by kernel_rfl) (by kernel_rfl) (by kernel_rfl)) ?_
  intro W base args ds gs before hval0 hW hcnd _
  have hval : ∀ (j : Nat) t v, Try.f6.params[j]? = some t → args[j]? = some v → Value.okWide Try.prog W .any base t v := hval0
  have hW' := hW
  obtain ⟨p, q, hA0, hV, rfl, hfz, hnd⟩ := hW
  have hA : DataW.TrodAll enc Try.prog W 0 (fun _ => true) true Try.f6.params.toList args.toList ds p := hA0
  rw [Try.params6] at hA hval
  obtain ⟨v0, vs0, d0, ds0, p0, q0, hargs, rfl, rfl, h0, r0⟩ := trodAll_cons hA
  obtain ⟨v1, vs1, d1, ds1, p1, q1, rfl, rfl, rfl, h1, r1⟩ := trodAll_cons r0
  obtain ⟨v2, vs2, d2, ds2, p2, q2, rfl, rfl, rfl, h2, r2⟩ := trodAll_cons r1
  obtain ⟨rfl, rfl, rfl⟩ := trodAll_nil r2
  obtain rfl : args = #[v0, v1, v2] := by cases args; simp_all
  obtain ⟨rfl, rfl⟩ := trodVars_none hV
  have k0 := h0
  have lt0 : ∀ x ∈ p0, x.block < W.heap.size := by obtain ⟨m, hm⟩ := k0; exact DataW.trod_lt m _ _ _ hm
  obtain ⟨a0, rfl, _, _, w0⟩ := open_int Try.underlying2 (hval 0 2 v0 rfl rfl) h0
  have k1 := h1
  have lt1 : ∀ x ∈ p1, x.block < W.heap.size := by obtain ⟨m, hm⟩ := k1; exact DataW.trod_lt m _ _ _ hm
  obtain ⟨a1x0, a1x1, rfl, w1x0, w1x1⟩ := isArr2_of Try.underlying26 Try.underlying2 (by kernel_rfl) (by kernel_rfl) (hval 1 26 v1 rfl rfl) h1
  have k2 := h2
  have lt2 : ∀ x ∈ p2, x.block < W.heap.size := by obtain ⟨m, hm⟩ := k2; exact DataW.trod_lt m _ _ _ hm
  obtain ⟨a2, len2, cap2, rfl⟩ := okWide_slice Try.underlying27 (hval 2 27 v2 rfl rfl)
  obtain ⟨z2, w2⟩ := isRow_of Try.underlying27 Try.underlying2 (by kernel_rfl) h2
  clear hA0 hval0
  refine (walk a0 a1x0 a1x1 a2 len2 cap2 z2 W w0 w1x0 w1x1 w2).mono fun e W' ⟨he, bel⟩ => ?_
  subst he
  exact ⟨_, rfl, _, _, _, [], _, [], hW', trodAll_mk1 (shut_bool Try.underlying4 _), (trodAll_cons_mk (Below.trod laidOut (by kernel_rfl) (of_decide_eq_true (by kernel_rfl)) k0 bel lt0) (trodAll_cons_mk (Below.trod laidOut (by kernel_rfl) (of_decide_eq_true (by kernel_rfl)) k1 bel lt1) (trodAll_cons_mk (Below.trod laidOut (by kernel_rfl) (of_decide_eq_true (by kernel_rfl)) k2 bel lt2) trodAll_mk0))), rfl, bel.frame _, fun h => by cases h⟩

theorem over : Rows.satClampsRow.holds Try.pinned (OpenSpec.ofChange Rows.satClampsSpec) :=
  OpenClaim.holds_of_wide 6 Try.f6 rfl rfl rfl rfl rfl rfl rfl ⟨rfl, rfl, rfl, rfl, rfl⟩ rfl rfl rfl rfl rfl (by kernel_rfl) Try.func6 (by kernel_rfl)
    (of_decide_eq_true (by kernel_rfl)) (by unfold Func.isWrapper; first | (rw [if_pos (by decide +kernel)]; kernel_rfl) | (rw [if_neg (by decide +kernel)]; exact ⟨rfl, rfl⟩))
    (fun os started H enc _ => lifted os started H enc)
end satClamps
theorem satClamps_holds : Rows.SatClampsSaid := satClamps.over
end Go.Proofs.Ytiibabihcehfpaa
