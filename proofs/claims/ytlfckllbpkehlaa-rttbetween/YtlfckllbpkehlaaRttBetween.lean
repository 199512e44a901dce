/- For every list of uint32s: behind each of the first hundred numbers above them, as samples, rtt.Smooth is from the least to the greatest of those that came, the variation is not below 0, and there is an estimate; and the chapter's example holds: RttBetween returns true and changes nothing that was there. No conditions. -/
import Derived.Test.YtlfckllbpkehlaaKit
import Derived.Test.YtlfckllbpkehlaaRttE
namespace Go.Proofs.Ytlfckllbpkehlaa
namespace rttBetween
open Go.ChangeShapes Go.WideShapes Go.ChangeAt Go.RowKit
open Go.ChangeMaps (open_string shut_string)
set_option linter.unusedVariables false

/-- What came so far: nothing, or samples from lo to hi. -/
def BtwC (c : Rtx) (lo hi : Int) : Nat → Prop
  | 0 => c = ⟨0, 0, false⟩ ∧ lo = 1125899906842624 ∧ hi = 0
  | k + 1 => RtIn c lo hi ∧ 1 ≤ lo ∧ hi ≤ 4294967296
def BtwI (w : World) (N gh : Nat) (vl vh vi : Value) (wr : World) : Prop :=
  ∃ (k : Nat) (c : Rtx) (lo hi : Int), vi = .int .i64 (k : Int) ∧ vl = .int .i64 lo ∧ vh = .int .i64 hi ∧ N - k = gh ∧ k ≤ N ∧ BtwC c lo hi k ∧ Blk wr w.heap.size (rtV c) 23 ∧ Below w.heap.size w wr
/-- The lesser one and the greater one, however they are told. -/
structure Ends2 (lo hi r l h : Int) : Prop where
  e1 : (if r < lo then r else lo) = l
  e2 : (if lo < r then lo else r) = l
  e3 : (if hi < r then r else hi) = h
  e4 : (if r < hi then hi else r) = h
theorem btw_next {c : Rtx} {lo hi r : Int} {k : Nat} (h : BtwC c lo hi k) (hr : 1 ≤ r ∧ r ≤ 4294967296) :
    ∃ l u, Ends2 lo hi r l u ∧ BtwC (rtSam c r) l u (k + 1) ∧ ¬ rtSm (rtSam c r) < l ∧ ¬ u < rtSm (rtSam c r) ∧ ¬ (rtSam c r).v < 0 ∧ (rtSam c r).s = true := by
  refine ⟨min lo r, max hi r, ⟨by split <;> omega, by split <;> omega, by split <;> omega, by split <;> omega⟩, ?_⟩
  have key : RtIn (rtSam c r) (min lo r) (max hi r) ∧ 1 ≤ min lo r ∧ max hi r ≤ 4294967296 := by
    cases k with
    | zero =>
      obtain ⟨rfl, rfl, rfl⟩ := h
      have := rtIn_first (c := ⟨0, 0, false⟩) rfl (r := r) (by omega)
      rw [show min (1125899906842624 : Int) r = r by omega, show max 0 r = r by omega]
      exact ⟨this, hr⟩
    | succ k =>
      obtain ⟨a, b, d⟩ := h
      exact ⟨rtIn_more a ⟨b, d⟩ hr, by omega, by omega⟩
  have s := rtIn_sm key.1 key.2
  exact ⟨key, by omega, by omega, by have := key.1.v; omega, key.1.s⟩
theorem own : ownKnob Try.prog.godebug = none := by kernel_rfl
theorem laidOut : laidOutB Try.prog = true := by kernel_rfl

set_option maxHeartbeats 4000000 in
set_option maxRecDepth 100000 in
theorem walk (a0 : Option Addr) (len0 cap0 : Nat) (z0 : List Int) (w : World) (w0 : IsRow .u32 w a0 len0 cap0 z0) :
    Calls Try.prog 5 #[.slice a0 len0 cap0] w fun e w' => e = .returned (.bool true) ∧ Below w.heap.size w w' := by
  have hc1 := row_len w0
  have hc2 := (row_low w0).2
  unfold maxLen at hc2
  obtain ⟨g, hls⟩ := row_ls w0 len0 (Nat.le_refl _)
  have hl := row_take w0 len0 (Nat.le_refl _)
  have hwf := row_wf w0 len0
  generalize z0.take len0 = zs at hls hl hwf
  have HL := Lib.hid hls
  have HQ := Lib.hid hl
  have HWF := Lib.hid hwf
  clear hls hl hwf w0
  by_cases hz : len0 = 0
  · subst hz
    go_enter Try.func5, Try.ntmps5
    go_wp2_with (go_at_call 13; refine (works20_any _).mono ?_; rintro e w2 ⟨rfl, B2⟩)
    go_ret
    exact ⟨rfl, B2⟩
  have hz1 : ¬ (len0 : Int) = 0 := by omega
  have hz2 : ((len0 : Int) == 0) = false := by simpa using hz1
  have S : Hid (BtwI w len0 len0 (.int .i64 1125899906842624) (.int .i64 0) (.int .i64 0) (w.alloc (.cells #[.int .i64 0, .int .i64 0, .bool false] 23))) := Lib.hid ⟨0, ⟨0, 0, false⟩, _, _, rfl, rfl, rfl, rfl, by omega, ⟨rfl, rfl, rfl⟩, Blk.new w (rtV ⟨0, 0, false⟩) _, new_alloc (new_refl w) _⟩
  go_enter Try.func5, Try.ntmps5
  go_wp2_with fail
  go_loopg [4, 5, 15] len0 (fun gh vl vh vi wr => BtwI w len0 gh vl vh vi wr)
  case atStart => exact S.out
  case round =>
    clear S
    obtain ⟨k, c, lo, hi, rfl, rfl, rfl, rfl, hk, HS, C, L0⟩ := hrel
    have L := Lib.hid L0
    by_cases hlt : k < len0
    · have k0 : (0 : Int) ≤ (k : Int) := by omega
      have k1 : (k : Int) < (len0 : Int) := by omega
      have LS := HL.out.kept L0
      rcases LS with rfl | ⟨off, rfl, hc⟩
      · have := HQ.out; simp at this; omega
      have z1 := hc k (by have := HQ.out; omega)
      have hx : 0 ≤ zs[k]?.getD 0 ∧ zs[k]?.getD 0 ≤ 4294967295 := by
        have hk2 : k < zs.length := by have := HQ.out; omega
        have := HWF.out (zs[k]) (List.getElem_mem hk2)
        rw [List.getElem?_eq_getElem hk2]
        exact bounds_u32 this
      generalize zs[k]?.getD 0 = x at *
      clear hc
      by_cases h100 : (k : Int) < 100
      · have j1 : ¬ (100 : Int) ≤ (k : Int) := by omega
        obtain ⟨r, hr⟩ : ∃ r, x + 1 = r := ⟨_, rfl⟩
        obtain ⟨l, u, ⟨e1, e2, e3, e4⟩, N, n1, n2, n3, n4⟩ := btw_next HS (r := r) (by omega)
        have NI := Lib.hid N
        have SM : Hid (∀ w, Calls Try.prog 9 #[.agg #[.int .i64 (rtSam c r).a, .int .i64 (rtSam c r).v, .bool true]] w fun e w' => e = .returned (.int .i64 (rtSm (rtSam c r))) ∧ Below w.heap.size w w') := Lib.hid (fun w => by
          have h := smooth20_any (rtSam c r) w
          unfold rtG at h
          rw [n4] at h
          exact h)
        have SA : Hid (∀ w, Calls Try.prog 8 #[.agg #[.int .i64 c.a, .int .i64 c.v, .bool c.s], .int .i64 r] w fun e w' => e = .returned (.agg #[.int .i64 (rtSam c r).a, .int .i64 (rtSam c r).v, .bool true]) ∧ Below w.heap.size w w') := Lib.hid (fun w => by
          have h := sample20_any c r w
          unfold RtIs rtG at h
          rw [n4] at h
          exact h)
        generalize rtSm (rtSam c r) = M at *
        generalize rtSam c r = d at *
        obtain ⟨da, dv, ds⟩ := d
        obtain rfl : ds = true := by assumption
        clear HS
        have c0 := C.cell 0 rfl; have c1 := C.cell 1 rfl; have c2 := C.cell 2 rfl; have f0 := C.frozen 0; have f1 := C.frozen 1; have f2 := C.frozen 2
        have HC := Lib.hid C
        clear C
        go_wp2_with (first
          | (go_at_call 8; refine (SA.out _).mono ?_; rintro e w1 ⟨rfl, B1⟩
             have K := HC.out.kept B1
             have D := Lib.hid (rt_set K ⟨da, dv, true⟩)
             have L2 := Lib.hid (lowR3 (new_then L.out B1) (Nat.le_refl _) (.int .i64 da) (.int .i64 dv) (.bool true))
             have d0 := K.cell 0 rfl; have d1 := K.cell 1 rfl; have d2 := K.cell 2 rfl; have e0 := K.frozen 0; have e1 := K.frozen 1; have e2 := K.frozen 2
             clear K)
          | (go_at_call 9; have h := D3; clear h; refine (SM.out _).mono ?_; rintro e w3 ⟨rfl, B3⟩
             have D4 := Lib.hid (D3.out.kept B3)
             have L4 := Lib.hid (new_then L3.out B3)
             have q0 := D4.out.cell 0 rfl; have q1 := D4.out.cell 1 rfl; have q2 := D4.out.cell 2 rfl)
          | (go_at_call 9; refine (SM.out _).mono ?_; rintro e w2 ⟨rfl, B2⟩
             have D3 := Lib.hid (D.out.kept B2)
             have L3 := Lib.hid (new_then L2.out B2)
             have m0 := D3.out.cell 0 rfl; have m1 := D3.out.cell 1 rfl; have m2 := D3.out.cell 2 rfl))
        go_roundg (len0 - (k + 1))
        case measure => omega
        case rel => exact ⟨k + 1, _, l, u, by go_num, rfl, rfl, rfl, by omega, NI.out, D4.out, L4.out⟩
      · have j1 : (100 : Int) ≤ (k : Int) := by omega
        clear C HS
        go_wp2_with (go_at_call 13; refine (works20_any _).mono ?_; rintro e w2 ⟨rfl, B2⟩)
        go_ret
        exact ⟨rfl, new_then L.out B2⟩
    · obtain rfl : k = len0 := by omega
      clear C HS
      go_wp2_with (go_at_call 13; refine (works20_any _).mono ?_; rintro e w2 ⟨rfl, B2⟩)
      go_ret
      exact ⟨rfl, new_then L.out B2⟩

set_option maxRecDepth 100000 in
theorem lifted (os : Os) (started : os.Started) (H : Type) (enc : TypeId × Value → H) :
    ReturnsInHanded {} Try.checked os 5 .any (Rows.rttBetweenSpec.pre6 enc Try.prog Try.f5 Rows.rttBetweenRow.domain false) (Rows.rttBetweenSpec.post enc Try.prog Try.f5 false true false false) := by
  refine returnsInHanded_of_change (C := Try.checked) own started (by kernel_rfl) Try.func5
    (ChangeSpec.witness6 (enc := enc) (C := Try.checked) false ⟨#[], #[.slice none 0 0], []⟩ 8 (by kernel_rfl) (by kernel_rfl) (by kernel_rfl) (by kernel_rfl)) ?_
  intro W base args ds gs before hval0 hW hcnd _
  have hval : ∀ (j : Nat) t v, Try.f5.params[j]? = some t → args[j]? = some v → Value.okWide Try.prog W .any base t v := hval0
  have hW' := hW
  obtain ⟨p, q, hA0, hV, rfl, hfz, hnd⟩ := hW
  have hA : DataW.TrodAll enc Try.prog W 0 (fun _ => true) true Try.f5.params.toList args.toList ds p := hA0
  rw [Try.params5] at hA hval
  obtain ⟨v0, vs0, d0, ds0, p0, q0, hargs, rfl, rfl, h0, r0⟩ := trodAll_cons hA
  obtain ⟨rfl, rfl, rfl⟩ := trodAll_nil r0
  obtain rfl : args = #[v0] := by cases args; simp_all
  obtain ⟨rfl, rfl⟩ := trodVars_none hV
  have k0 := h0
  have lt0 : ∀ x ∈ p0, x.block < W.heap.size := by obtain ⟨m, hm⟩ := k0; exact DataW.trod_lt m _ _ _ hm
  obtain ⟨a0, len0, cap0, rfl⟩ := okWide_slice Try.underlying34 (hval 0 34 v0 rfl rfl)
  obtain ⟨z0, w0⟩ := isRow_of Try.underlying34 Try.underlying35 (by kernel_rfl) h0
  clear hA0 hval0
  refine (walk a0 len0 cap0 z0 W w0).mono fun e W' ⟨he, bel⟩ => ?_
  subst he
  exact ⟨_, rfl, _, _, _, [], _, [], hW', trodAll_mk1 (shut_bool Try.underlying4 _), (trodAll_cons_mk (Below.trod laidOut (by kernel_rfl) (of_decide_eq_true (by kernel_rfl)) k0 bel lt0) trodAll_mk0), rfl, bel.frame _, fun h => by cases h⟩

theorem over : Rows.rttBetweenRow.holds Try.pinned (OpenSpec.ofChange Rows.rttBetweenSpec) :=
  OpenClaim.holds_of_wide 5 Try.f5 rfl rfl rfl rfl rfl rfl rfl ⟨rfl, rfl, rfl, rfl, rfl⟩ rfl rfl rfl rfl rfl (by kernel_rfl) Try.func5 (by kernel_rfl)
    (of_decide_eq_true (by kernel_rfl)) (by unfold Func.isWrapper; first | (rw [if_pos (by decide +kernel)]; kernel_rfl) | (rw [if_neg (by decide +kernel)]; exact ⟨rfl, rfl⟩))
    (fun os started H enc _ => lifted os started H enc)
end rttBetween
theorem rttBetween_holds : Rows.RttBetweenSaid := rttBetween.over
end Go.Proofs.Ytlfckllbpkehlaa
