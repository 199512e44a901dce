/- For every uint32: of the number above it, which comes again and again as a sample, rtt.Smooth is that number at each of a hundred and twenty steps, and the variation never rises and is at most 3 at the end, and the chapter's example holds: RttSettles returns true and changes nothing that was there. No conditions. -/
import Derived.Test.YtlfckllbpkehlaaKit
import Derived.Test.YtlfckllbpkehlaaRttE
namespace Go.Proofs.Ytlfckllbpkehlaa
namespace rttSettles
open Go.ChangeShapes Go.WideShapes Go.ChangeAt Go.RowKit
open Go.ChangeMaps (open_string shut_string)
set_option linter.unusedVariables false

/-- What came so far: nothing, or r some times. -/
def SetI (c : Rtx) (r : Int) : Nat → Prop
  | 0 => c = ⟨0, 0, false⟩
  | k + 1 => RtSet c r k
def StlI (w : World) (r : Int) (gh : Nat) (vi : Value) (wr : World) : Prop :=
  ∃ (k : Nat) (c : Rtx), vi = .int .i64 (k : Int) ∧ 120 - k = gh ∧ k ≤ 120 ∧ SetI c r k ∧ Blk wr w.heap.size (rtV c) 23 ∧ Below w.heap.size w wr
theorem set_next {c : Rtx} {r : Int} {k : Nat} (h : SetI c r k) (hr : 1 ≤ r ∧ r ≤ 4294967296) : SetI (rtSam c r) r (k + 1) ∧ rtSm (rtSam c r) = r ∧ (c.s = true → (rtSam c r).v ≤ c.v) := by
  cases k with
  | zero =>
    obtain rfl : c = ⟨0, 0, false⟩ := h
    have := rtSet_first (c := ⟨0, 0, false⟩) rfl hr
    exact ⟨this, rtSet_sm this hr, fun h => by cases h⟩
  | succ k =>
    have := rtSet_more h hr
    exact ⟨this.1, rtSet_sm this.1 hr, fun _ => this.2⟩
theorem own : ownKnob Try.prog.godebug = none := by kernel_rfl
theorem laidOut : laidOutB Try.prog = true := by kernel_rfl

set_option maxHeartbeats 4000000 in
set_option maxRecDepth 100000 in
theorem walk (a0 : Int) (w : World) (w0 : (Lit.int .u32 a0).wf = true) :
    Calls Try.prog 6 #[.int .u32 a0] w fun e w' => e = .returned (.bool true) ∧ Below w.heap.size w w' := by
  have b0 := bounds_u32 w0
  obtain ⟨r, hr⟩ : ∃ r, a0 + 1 = r := ⟨_, rfl⟩
  have br : 1 ≤ r ∧ r ≤ 4294967296 := by omega
  have BR := Lib.hid br
  clear w0
  have S : Hid (StlI w r 120 (.int .i64 0) (w.alloc (.cells #[.int .i64 0, .int .i64 0, .bool false] 23))) := Lib.hid ⟨0, ⟨0, 0, false⟩, rfl, rfl, by omega, rfl, Blk.new w (rtV ⟨0, 0, false⟩) _, new_alloc (new_refl w) _⟩
  go_enter Try.func6, Try.ntmps6
  go_wp2_with fail
  go_loopg [9] 120 (fun gh vi wr => StlI w r gh vi wr)
  case atStart => exact S.out
  case round =>
    clear S
    obtain ⟨k, c, rfl, rfl, hk, HS, C, L0⟩ := hrel
    have HC := Lib.hid C
    have L := Lib.hid L0
    have HI := Lib.hid HS
    by_cases hlt : k < 120
    · have k1 : (k : Int) < 120 := by omega
      have N := set_next HS BR.out
      have NI := Lib.hid N.1
      have SM : Hid (∀ w, Calls Try.prog 9 #[.agg #[.int .i64 (rtSam c r).a, .int .i64 (rtSam c r).v, .bool (rtSam c r).s]] w fun e w' => e = .returned (.int .i64 r) ∧ Below w.heap.size w w') := Lib.hid (fun w => by
        have h := smooth20_any (rtSam c r) w
        rw [N.2.1] at h
        exact h)
      have SA : Hid (∀ w, Calls Try.prog 8 #[.agg #[.int .i64 c.a, .int .i64 c.v, .bool c.s], .int .i64 r] w fun e w' => e = .returned (.agg #[.int .i64 (rtSam c r).a, .int .i64 (rtSam c r).v, .bool (rtSam c r).s]) ∧ Below w.heap.size w w') := Lib.hid (fun w => sample20_any c r w)
      have hv := N.2.2
      generalize rtSam c r = d at *
      have g0 := C.lt
      have lt : w.heap.size ≠ wr.heap.size := by omega
      have c0 := C.cell 0 rfl; have c1 := C.cell 1 rfl; have c2 := C.cell 2 rfl; have f0 := C.frozen 0; have f1 := C.frozen 1; have f2 := C.frozen 2
      have A1 := Lib.hid (C.alloc (.cells #[.int .i64 c.a, .int .i64 c.v, .bool c.s] 23))
      have A2 : Hid (Blk (wr.alloc (.cells #[.int .i64 c.a, .int .i64 c.v, .bool c.s] 23)) wr.heap.size (rtV c) 23) := Lib.hid (Blk.new wr (rtV c) 23)
      have LL := Lib.hid (new_alloc L0 (.cells #[.int .i64 c.a, .int .i64 c.v, .bool c.s] 23))
      clear C N HS
      rcases (by cases c.s <;> simp : c.s = true ∨ c.s = false) with hs | hs
      all_goals
        first | (have hv2 := hv hs; have hv3 : ¬ c.v < d.v := by omega) | skip
        clear hv
        rw [hs] at SA A1 A2 LL
        go_wp2_with (first
          | (go_at_call 8; refine (SA.out _).mono ?_; rintro e w1 ⟨rfl, B1⟩
             have K := A1.out.kept B1
             have T := A2.out.kept B1
             have D := Lib.hid (rt_set K d)
             have E := Lib.hid (far3 (p := w.heap.size) T lt.symm (.int .i64 d.a) (.int .i64 d.v) (.bool d.s))
             have L2 := Lib.hid (lowR3 (new_then LL.out B1) (Nat.le_refl _) (.int .i64 d.a) (.int .i64 d.v) (.bool d.s))
             have d0 := K.cell 0 rfl; have d1 := K.cell 1 rfl; have d2 := K.cell 2 rfl; have e0 := K.frozen 0; have e1 := K.frozen 1; have e2 := K.frozen 2
             clear K T)
          | (go_at_call 9; refine (SM.out _).mono ?_; rintro e w2 ⟨rfl, B2⟩
             have D2 := Lib.hid (D.out.kept B2)
             have L3 := Lib.hid (new_then L2.out B2)
             have m0 := D2.out.cell 0 rfl; have m1 := D2.out.cell 1 rfl; have m2 := D2.out.cell 2 rfl
             have E2 := E.out.kept B2
             have n0 := E2.cell 0 rfl; have n1 := E2.cell 1 rfl; have n2 := E2.cell 2 rfl
             clear E2))
        go_roundg (120 - (k + 1))
        case measure => omega
        case rel => exact ⟨k + 1, d, by go_num, rfl, by omega, NI.out, D2.out, L3.out⟩
    · obtain rfl : k = 120 := by omega
      have E : RtSet c r 119 := HS
      have e1 := rtSet_end E BR.out
      have hv : c.v ≤ 3 := e1.1
      have VA : Hid (∀ w, Calls Try.prog 11 #[.agg #[.int .i64 c.a, .int .i64 c.v, .bool c.s]] w fun e w' => e = .returned (.int .i64 0) ∧ Below w.heap.size w w') := Lib.hid (fun w => by
        have h := vary20_any c w
        rw [e1.2] at h
        exact h)
      have c0 := C.cell 0 rfl; have c1 := C.cell 1 rfl; have c2 := C.cell 2 rfl
      clear C E e1 HS HI
      go_wp2_with (first
        | (go_at_call 11; refine (VA.out _).mono ?_; rintro e w1 ⟨rfl, B1⟩)
        | (go_at_call 13; refine (works20_any _).mono ?_; rintro e w2 ⟨rfl, B2⟩))
      go_ret
      exact ⟨rfl, new_then (new_then L.out B1) B2⟩

set_option maxRecDepth 100000 in
theorem lifted (os : Os) (started : os.Started) (H : Type) (enc : TypeId × Value → H) :
    ReturnsInHanded {} Try.checked os 6 .any (Rows.rttSettlesSpec.pre6 enc Try.prog Try.f6 Rows.rttSettlesRow.domain false) (Rows.rttSettlesSpec.post enc Try.prog Try.f6 false true false false) := by
  refine returnsInHanded_of_change (C := Try.checked) own started (by kernel_rfl) Try.func6
    (ChangeSpec.witness6 (enc := enc) (C := Try.checked) false ⟨#[], #[.int .u32 0], []⟩ 8 (by kernel_rfl) (by kernel_rfl) (by kernel_rfl) (by kernel_rfl)) ?_
  intro W base args ds gs before hval0 hW hcnd _
  have hval : ∀ (j : Nat) t v, Try.f6.params[j]? = some t → args[j]? = some v → Value.okWide Try.prog W .any base t v := hval0
  have hW' := hW
  obtain ⟨p, q, hA0, hV, rfl, hfz, hnd⟩ := hW
  have hA : DataW.TrodAll enc Try.prog W 0 (fun _ => true) true Try.f6.params.toList args.toList ds p := hA0
  rw [Try.params6] at hA hval
  obtain ⟨v0, vs0, d0, ds0, p0, q0, hargs, rfl, rfl, h0, r0⟩ := trodAll_cons hA
  obtain ⟨rfl, rfl, rfl⟩ := trodAll_nil r0
  obtain rfl : args = #[v0] := by cases args; simp_all
  obtain ⟨rfl, rfl⟩ := trodVars_none hV
  have k0 := h0
  have lt0 : ∀ x ∈ p0, x.block < W.heap.size := by obtain ⟨m, hm⟩ := k0; exact DataW.trod_lt m _ _ _ hm
  obtain ⟨a0, rfl, _, _, w0⟩ := open_int Try.underlying35 (hval 0 35 v0 rfl rfl) h0
  clear hA0 hval0
  refine (walk a0 W w0).mono fun e W' ⟨he, bel⟩ => ?_
  subst he
  exact ⟨_, rfl, _, _, _, [], _, [], hW', trodAll_mk1 (shut_bool Try.underlying4 _), (trodAll_cons_mk (Below.trod laidOut (by kernel_rfl) (of_decide_eq_true (by kernel_rfl)) k0 bel lt0) trodAll_mk0), rfl, bel.frame _, fun h => by cases h⟩

theorem over : Rows.rttSettlesRow.holds Try.pinned (OpenSpec.ofChange Rows.rttSettlesSpec) :=
  OpenClaim.holds_of_wide 6 Try.f6 rfl rfl rfl rfl rfl rfl rfl ⟨rfl, rfl, rfl, rfl, rfl⟩ rfl rfl rfl rfl rfl (by kernel_rfl) Try.func6 (by kernel_rfl)
    (of_decide_eq_true (by kernel_rfl)) (by unfold Func.isWrapper; first | (rw [if_pos (by decide +kernel)]; kernel_rfl) | (rw [if_neg (by decide +kernel)]; exact ⟨rfl, rfl⟩))
    (fun os started H enc _ => lifted os started H enc)
end rttSettles
theorem rttSettles_holds : Rows.RttSettlesSaid := rttSettles.over
end Go.Proofs.Ytlfckllbpkehlaa
