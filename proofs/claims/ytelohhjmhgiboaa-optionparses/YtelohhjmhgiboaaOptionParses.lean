/- For every list of bytes: of its first sixty bytes option.Parse tells the options and the error that the document's Parse tells, and the chapter's example holds: OptionParses returns true and changes nothing that was there. No conditions. -/
import Derived.Test.YtelohhjmhgiboaaKit
import Derived.Test.YtelohhjmhgiboaaOptR
import Derived.Test.YtelohhjmhgiboaaOptU
import Derived.Deep.DeepCutAuto
namespace Go.Proofs.Ytelohhjmhgiboaa
namespace optionParses
open Go.ChangeShapes Go.WideShapes Go.ChangeAt Go.RowKit
open Go.ChangeMaps (open_string shut_string)
set_option linter.unusedVariables false

theorem same_len {w w' : World} {A B : Option Addr} {n m : Nat} {xs ys : List OC} {T : List Opt} (h : OptsAt w A n xs) (k : OptsAt w' B m ys) (hx : xs.map OC.o = T) (hy : ys.map OC.o = T) : n = m := by
  rw [← h.len, ← k.len]
  have := congrArg List.length (hx.trans hy.symm)
  simpa using this
theorem own : ownKnob Try.prog.godebug = none := by kernel_rfl
theorem laidOut : laidOutB Try.prog = true := by kernel_rfl

set_option maxHeartbeats 4000000 in
set_option maxRecDepth 100000 in
theorem walk (a0 : Option Addr) (len0 cap0 : Nat) (z0 : List Int) (w : World) (w0 : IsRow .u8 w a0 len0 cap0 z0) :
    Calls Try.prog 3 #[.slice a0 len0 cap0] w fun e w' => e = .returned (.bool true) ∧ Below w.heap.size w w' := by
  have hc1 := row_len w0
  have hc2 := (row_low w0).2
  unfold maxLen at hc2
  obtain ⟨L, hn⟩ : ∃ n, n = min len0 60 := ⟨_, rfl⟩
  have hn1 : L ≤ len0 := by omega
  have hn2 : L ≤ 60 := by omega
  have hn3 : L ≤ cap0 := by have := (row_low w0).1; omega
  have HW := Lib.hid w0
  have HN := Lib.hid hn
  have hcl := (row_low w0).1
  clear w0 hn
  go_enter Try.func3, Try.ntmps3
  go_upto_region 1 with (fail)
  go_cut [0] (fun v wx => v = .slice a0 L cap0 ∧ w = wx)
  case first =>
    by_cases h40 : len0 ≤ 60
    · obtain rfl : len0 = L := by have := HN.out; omega
      have k1 : (len0 : Int) ≤ 60 := by omega
      have k2 : (0 : Int) ≤ (len0 : Int) := by omega
      have k3 : (len0 : Int) ≤ (cap0 : Int) := by omega
      go_wp2_with fail
      go_meet
      case rel => exact ⟨rfl, rfl⟩
    · obtain rfl : L = 60 := by have := HN.out; omega
      have k1 : (60 : Int) < (len0 : Int) := by omega
      have k3 : (60 : Int) ≤ (cap0 : Int) := by omega
      go_wp2_with fail
      go_meet
      case rel => exact ⟨rfl, rfl⟩
  case rest =>
    obtain ⟨rfl, rfl⟩ := hcut
    obtain ⟨gl, hls⟩ := row_ls HW.out L hn1
    have hU := byt_row (k := L) HW.out
    have hl := row_take HW.out L hn1
    generalize z0.take L = ds at hls hU hl
    have C1 := Lib.hid (parse_any a0 gl L cap0 ds w hls hl hU hn3 (by omega))
    have C2 := Lib.hid (fun w' (B : Below w.heap.size w w') => refParse_any a0 gl L cap0 ds w' (hls.kept B) hl hU hn3 (by omega))
    clear hls hU hl HW HN
    generalize parA ds = T at *
    go_upto_region 4 with (first
      | (go_at_call 7; refine C1.out.mono ?_; rintro e w1 ⟨A1, n1, c1, xs, rfl, X1, m1, l1, d1, B1⟩)
      | (go_at_call 8; refine (C2.out _ B1).mono ?_; rintro e w2 ⟨A2, n2, c2, ys, rfl, X2, m2, l2, d2, B2⟩))
    obtain rfl : n1 = n2 := same_len X1 X2 m1 m2
    have CA := Lib.hid (all_any A1 A2 n1 c1 c2 xs ys w2 (X1.kept B2) X2 (m1.trans m2.symm) (by omega))
    have L2 := new_then B1 B2
    clear X1 X2 m1 m2 B1 B2 C1 C2
    go_wp2_with (first
      | (go_at_call 9; refine CA.out.mono ?_; rintro e w3 ⟨rfl, B3⟩)
      | (go_at_call 10; refine (works12_any _).mono ?_; rintro e w4 ⟨rfl, B4⟩))
    go_ret
    exact ⟨rfl, new_then (new_then L2 B3) B4⟩

set_option maxRecDepth 100000 in
theorem lifted (os : Os) (started : os.Started) (H : Type) (enc : TypeId × Value → H) :
    ReturnsInHanded {} Try.checked os 3 .any (Rows.optionParsesSpec.pre6 enc Try.prog Try.f3 Rows.optionParsesRow.domain false) (Rows.optionParsesSpec.post enc Try.prog Try.f3 false true false false) := by
  refine returnsInHanded_of_change (C := Try.checked) own started (by kernel_rfl) Try.func3
    (ChangeSpec.witness6 (enc := enc) (C := Try.checked) false ⟨#[], #[.slice none 0 0], []⟩ 8 (by kernel_rfl) (by kernel_rfl) (by kernel_rfl) (by kernel_rfl)) ?_
  intro W base args ds gs before hval0 hW hcnd _
  have hval : ∀ (j : Nat) t v, Try.f3.params[j]? = some t → args[j]? = some v → Value.okWide Try.prog W .any base t v := hval0
  have hW' := hW
  obtain ⟨p, q, hA0, hV, rfl, hfz, hnd⟩ := hW
  have hA : DataW.TrodAll enc Try.prog W 0 (fun _ => true) true Try.f3.params.toList args.toList ds p := hA0
  rw [Try.params3] at hA hval
  obtain ⟨v0, vs0, d0, ds0, p0, q0, hargs, rfl, rfl, h0, r0⟩ := trodAll_cons hA
  obtain ⟨rfl, rfl, rfl⟩ := trodAll_nil r0
  obtain rfl : args = #[v0] := by cases args; simp_all
  obtain ⟨rfl, rfl⟩ := trodVars_none hV
  have k0 := h0
  have lt0 : ∀ x ∈ p0, x.block < W.heap.size := by obtain ⟨m, hm⟩ := k0; exact DataW.trod_lt m _ _ _ hm
  obtain ⟨a0, len0, cap0, rfl⟩ := okWide_slice Try.underlying22 (hval 0 22 v0 rfl rfl)
  obtain ⟨z0, w0⟩ := isRow_of Try.underlying22 Try.underlying5 (by kernel_rfl) h0
  clear hA0 hval0
  refine (walk a0 len0 cap0 z0 W w0).mono fun e W' ⟨he, bel⟩ => ?_
  subst he
  exact ⟨_, rfl, _, _, _, [], _, [], hW', trodAll_mk1 (shut_bool Try.underlying4 _), (trodAll_cons_mk (Below.trod laidOut (by kernel_rfl) (of_decide_eq_true (by kernel_rfl)) k0 bel lt0) trodAll_mk0), rfl, bel.frame _, fun h => by cases h⟩

theorem over : Rows.optionParsesRow.holds Try.pinned (OpenSpec.ofChange Rows.optionParsesSpec) :=
  OpenClaim.holds_of_wide 3 Try.f3 rfl rfl rfl rfl rfl rfl rfl ⟨rfl, rfl, rfl, rfl, rfl⟩ rfl rfl rfl rfl rfl (by kernel_rfl) Try.func3 (by kernel_rfl)
    (of_decide_eq_true (by kernel_rfl)) (by unfold Func.isWrapper; first | (rw [if_pos (by decide +kernel)]; kernel_rfl) | (rw [if_neg (by decide +kernel)]; exact ⟨rfl, rfl⟩))
    (fun os started H enc _ => lifted os started H enc)
end optionParses
theorem optionParses_holds : Rows.OptionParsesSaid := optionParses.over
end Go.Proofs.Ytelohhjmhgiboaa
