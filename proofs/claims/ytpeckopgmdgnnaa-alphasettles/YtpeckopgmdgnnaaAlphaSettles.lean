/- For every share: behind fifty rounds in which all is marked the share is above fifteen sixteenths, behind fifty in which nothing is marked it is below one sixteenth; and the chapter's example holds: AlphaSettles returns true and changes nothing that was there. No conditions. -/
import Derived.Test.YtpeckopgmdgnnaaKit
import Derived.Test.YtpeckopgmdgnnaaAlpC
namespace Go.Proofs.Ytpeckopgmdgnnaa
namespace alphaSettles
open Go.ChangeShapes Go.WideShapes Go.ChangeAt Go.RowKit
open Go.ChangeMaps (open_string shut_string)
set_option linter.unusedVariables false

/-- Both states behind so many rounds. -/
def StlI25 (w : World) (g : Nat) (gh : Nat) (vi : Value) (wr : World) : Prop :=
  ∃ (k : Nat) (s t : Int), vi = .int .i64 (k : Int) ∧ 50 - k = gh ∧ k ≤ 50 ∧ apHi k s ∧ apLo k t ∧ Blk wr g (apV ⟨s, 0, 0, 0⟩) 23 ∧ Blk wr (g + 1) (apV ⟨t, 0, 0, 0⟩) 23 ∧ Below w.heap.size w wr
theorem own : ownKnob Try.prog.godebug = none := by kernel_rfl
theorem laidOut : laidOutB Try.prog = true := by kernel_rfl

set_option maxHeartbeats 4000000 in
set_option maxRecDepth 100000 in
theorem walk (a0 : Int) (w : World) (w0 : (Lit.int .i64 a0).wf = true) :
    Calls Try.prog 5 #[.int .i64 a0] w fun e w' => e = .returned (.bool true) ∧ Below w.heap.size w w' := by
  clear w0
  have HI := Lib.hid (apHi_0 a0)
  have LO := Lib.hid (apLo_0 a0)
  have ST : Hid (∀ w, Calls Try.prog 8 #[.int .i64 a0, .int .i64 0] w fun e w' => e = .returned (.agg #[.int .i64 (shr a0), .int .i64 0, .int .i64 0, .int .i64 0]) ∧ Below w.heap.size w w') := Lib.hid (fun w => start25_any a0 0 w)
  generalize shr a0 = r at *
  go_enter Try.func5, Try.ntmps5
  go_upto_region 2 with (first
    | (go_at_call 8; have h := B1; clear h; refine (ST.out _).mono ?_; rintro e w2 ⟨rfl, B2⟩)
    | (go_at_call 8; refine (ST.out _).mono ?_; rintro e w1 ⟨rfl, B1⟩))
  have L2 := Lib.hid (new_then B1 B2)
  have LG : Hid (w.heap.size ≤ w2.heap.size) := Lib.hid (new_then B1 B2).size
  clear B1 B2 ST
  obtain ⟨g, hg⟩ : ∃ g, w2.heap.size = g := ⟨_, rfl⟩
  obtain ⟨W, hW⟩ : ∃ W, (w2.alloc (.cells #[.int .i64 r, .int .i64 0, .int .i64 0, .int .i64 0] 23)).alloc (.cells #[.int .i64 r, .int .i64 0, .int .i64 0, .int .i64 0] 23) = W := ⟨_, rfl⟩
  have U : Hid (Blk W g (apV ⟨r, 0, 0, 0⟩) 23) := Lib.hid (by rw [← hW]; exact (Blk.newAt hg _ _).alloc _)
  have D : Hid (Blk W (g + 1) (apV ⟨r, 0, 0, 0⟩) 23) := Lib.hid (by rw [← hW, ← hg]; exact Blk.newAt (alloc_size w2 _) _ _)
  have L : Hid (Below w.heap.size w W) := Lib.hid (by rw [← hW]; exact new_alloc (new_alloc L2.out _) _)
  replace LG : Hid (w.heap.size ≤ g) := Lib.hid (by rw [← hg]; exact LG.out)
  rw [hW, hg]
  clear hW hg L2
  go_wp2_with fail
  go_loopg [9] 50 (fun gh vi wr => StlI25 w g gh vi wr)
  case atStart => exact ⟨0, r, r, rfl, rfl, by omega, HI.out, LO.out, U.out, D.out, L.out⟩
  case round =>
    clear HI LO U D L
    obtain ⟨k, s, t, rfl, hgh, hk, hs, ht, hu, hd, hL⟩ := hrel
    have HU := Lib.hid hu
    have HD := Lib.hid hd
    have HL := Lib.hid hL
    clear hu hd hL
    by_cases hlt : k < 50
    · have k1 : (k : Int) < 50 := by omega
      obtain ⟨s2, hs2, es⟩ := apHi_next hs
      obtain ⟨t2, ht2, et⟩ := apLo_next ht
      have TU : Hid (∀ w, Calls Try.prog 6 #[.agg #[.int .i64 s, .int .i64 0, .int .i64 0, .int .i64 0], .int .i64 10, .int .i64 10, .int .i64 0, .int .i64 0] w fun e w' => e = .returned (.tuple #[.agg #[.int .i64 s2, .int .i64 0, .int .i64 0, .int .i64 0], .bool true]) ∧ Below w.heap.size w w') := Lib.hid (fun w => by
        have h := take25_any ⟨s, 0, 0, 0⟩ 10 10 0 0 w
        unfold ApWas at h
        rw [es] at h
        exact h)
      have TD : Hid (∀ w, Calls Try.prog 6 #[.agg #[.int .i64 t, .int .i64 0, .int .i64 0, .int .i64 0], .int .i64 10, .int .i64 0, .int .i64 0, .int .i64 0] w fun e w' => e = .returned (.tuple #[.agg #[.int .i64 t2, .int .i64 0, .int .i64 0, .int .i64 0], .bool true]) ∧ Below w.heap.size w w') := Lib.hid (fun w => by
        have h := take25_any ⟨t, 0, 0, 0⟩ 10 0 0 0 w
        unfold ApWas at h
        rw [et] at h
        exact h)
      have HS := Lib.hid hs2
      have HT := Lib.hid ht2
      clear es et hs ht hs2 ht2
      have c0 := HU.out.cell 0 rfl; have c1 := HU.out.cell 1 rfl; have c2 := HU.out.cell 2 rfl; have c3 := HU.out.cell 3 rfl; have f0 := HU.out.frozen 0; have f1 := HU.out.frozen 1; have f2 := HU.out.frozen 2; have f3 := HU.out.frozen 3
      go_upto_region 5 with (go_at_call 6; refine (TU.out _).mono ?_; rintro e w3 ⟨rfl, B3⟩
                             have KU := Lib.hid (HU.out.kept B3)
                             have KD := Lib.hid (HD.out.kept B3)
                             have VU := Lib.hid (ap_set KU.out ⟨s2, 0, 0, 0⟩)
                             have VD := Lib.hid (farA4 (p := g) KD.out (show g + 1 ≠ g by omega) (.int .i64 s2) (.int .i64 0) (.int .i64 0) (.int .i64 0))
                             have VL := Lib.hid (lowA4 (new_then HL.out B3) LG.out (.int .i64 s2) (.int .i64 0) (.int .i64 0) (.int .i64 0))
                             have k0 := KU.out.cell 0 rfl; have k1 := KU.out.cell 1 rfl; have k2 := KU.out.cell 2 rfl; have k3 := KU.out.cell 3 rfl; have m0 := KU.out.frozen 0; have m1 := KU.out.frozen 1; have m2 := KU.out.frozen 2; have m3 := KU.out.frozen 3)
      obtain ⟨W3, hW3⟩ : ∃ W3, (((w3.setCell ⟨g, 0, none⟩ (.int .i64 s2)).setCell ⟨g, 1, none⟩ (.int .i64 0)).setCell ⟨g, 2, none⟩ (.int .i64 0)).setCell ⟨g, 3, none⟩ (.int .i64 0) = W3 := ⟨_, rfl⟩
      replace VU : Hid (Blk W3 g (apV ⟨s2, 0, 0, 0⟩) 23) := Lib.hid (by rw [← hW3]; exact VU.out)
      replace VD : Hid (Blk W3 (g + 1) (apV ⟨t, 0, 0, 0⟩) 23) := Lib.hid (by rw [← hW3]; exact VD.out)
      replace VL : Hid (Below w.heap.size w W3) := Lib.hid (by rw [← hW3]; exact VL.out)
      rw [hW3]
      clear hW3 c0 c1 c2 c3 f0 f1 f2 f3 k0 k1 k2 k3 m0 m1 m2 m3 KU KD HU HD HL B3 TU
      have k1 : (k : Int) < 50 := by omega
      have c0 := VD.out.cell 0 rfl; have c1 := VD.out.cell 1 rfl; have c2 := VD.out.cell 2 rfl; have c3 := VD.out.cell 3 rfl; have f0 := VD.out.frozen 0; have f1 := VD.out.frozen 1; have f2 := VD.out.frozen 2; have f3 := VD.out.frozen 3
      go_wp2_with (go_at_call 6; refine (TD.out _).mono ?_; rintro e w4 ⟨rfl, B4⟩
                   have KU := Lib.hid (VU.out.kept B4)
                   have KD := Lib.hid (VD.out.kept B4)
                   have XD := Lib.hid (ap_set KD.out ⟨t2, 0, 0, 0⟩)
                   have XU := Lib.hid (farA4 (p := g + 1) KU.out (show g ≠ g + 1 by omega) (.int .i64 t2) (.int .i64 0) (.int .i64 0) (.int .i64 0))
                   have XL := Lib.hid (lowA4 (new_then VL.out B4) (Nat.le_succ_of_le LG.out) (.int .i64 t2) (.int .i64 0) (.int .i64 0) (.int .i64 0))
                   have n0 := KD.out.cell 0 rfl; have n1 := KD.out.cell 1 rfl; have n2 := KD.out.cell 2 rfl; have n3 := KD.out.cell 3 rfl; have m0 := KD.out.frozen 0; have m1 := KD.out.frozen 1; have m2 := KD.out.frozen 2; have m3 := KD.out.frozen 3)
      go_roundg (50 - (k + 1))
      case measure => omega
      case rel => exact ⟨k + 1, s2, t2, by go_num, rfl, by omega, HS.out, HT.out, XU.out, XD.out, XL.out⟩
    · obtain rfl : k = 50 := by omega
      have h50 := apFar_50
      have d1 : 983040 < s := by have := hs.2.2; omega
      have d2 : t < 65536 := by have := ht.2.2; omega
      have e1 : decide (983040 < s) = true := decide_eq_true d1
      have e2 : decide (t < 65536) = true := decide_eq_true d2
      have c0 : wr.cell? ⟨g, 0, none⟩ = some (.int .i64 s) := HU.out.cell 0 rfl
      have c1 : wr.cell? ⟨g + 1, 0, none⟩ = some (.int .i64 t) := HD.out.cell 0 rfl
      clear h50 hs ht
      go_wp2_with (go_at_call 12; refine (works25_any _).mono ?_; rintro e w8 ⟨rfl, B8⟩)
      go_ret
      exact ⟨rfl, new_then HL.out B8⟩

set_option maxRecDepth 100000 in
theorem lifted (os : Os) (started : os.Started) (H : Type) (enc : TypeId × Value → H) :
    ReturnsInHanded {} Try.checked os 5 .any (Rows.alphaSettlesSpec.pre6 enc Try.prog Try.f5 Rows.alphaSettlesRow.domain false) (Rows.alphaSettlesSpec.post enc Try.prog Try.f5 false true false false) := by
  refine returnsInHanded_of_change (C := Try.checked) own started (by kernel_rfl) Try.func5
    (ChangeSpec.witness6 (enc := enc) (C := Try.checked) false ⟨#[], #[.int .i64 0], []⟩ 8 (by kernel_rfl) (by kernel_rfl) (by kernel_rfl) (by kernel_rfl)) ?_
  intro W base args ds gs before hval0 hW hcnd _
  have hval : ∀ (j : Nat) t v, Try.f5.params[j]? = some t → args[j]? = some v → Value.okWide Try.prog W .any base t v := hval0
  have hW' := hW
  obtain ⟨p, q, hA0, hV, rfl, hfz, hnd⟩ := hW
  have hA : DataW.TrodAll enc Try.prog W 0 (fun _ => true) true Try.f5.params.toList args.toList ds p := hA0
  rw [Try.params5] at hA hval
  obtain ⟨v0, vs0, d0, ds0, p0, q0, hargs, rfl, rfl, h0, r0⟩ := trodAll_cons hA
  obtain ⟨rfl, rfl, rfl⟩ := trodAll_nil r0
  obtain rfl : args = #[v0] := by cases args; simp_all
  obtain ⟨rfl, rfl⟩ := trodVars_none hV
  have k0 := h0
  have lt0 : ∀ x ∈ p0, x.block < W.heap.size := by obtain ⟨m, hm⟩ := k0; exact DataW.trod_lt m _ _ _ hm
  obtain ⟨a0, rfl, _, _, w0⟩ := open_int Try.underlying2 (hval 0 2 v0 rfl rfl) h0
  clear hA0 hval0
  refine (walk a0 W w0).mono fun e W' ⟨he, bel⟩ => ?_
  subst he
  exact ⟨_, rfl, _, _, _, [], _, [], hW', trodAll_mk1 (shut_bool Try.underlying4 _), (trodAll_cons_mk (Below.trod laidOut (by kernel_rfl) (of_decide_eq_true (by kernel_rfl)) k0 bel lt0) trodAll_mk0), rfl, bel.frame _, fun h => by cases h⟩

theorem over : Rows.alphaSettlesRow.holds Try.pinned (OpenSpec.ofChange Rows.alphaSettlesSpec) :=
  OpenClaim.holds_of_wide 5 Try.f5 rfl rfl rfl rfl rfl rfl rfl ⟨rfl, rfl, rfl, rfl, rfl⟩ rfl rfl rfl rfl rfl (by kernel_rfl) Try.func5 (by kernel_rfl)
    (of_decide_eq_true (by kernel_rfl)) (by unfold Func.isWrapper; first | (rw [if_pos (by decide +kernel)]; kernel_rfl) | (rw [if_neg (by decide +kernel)]; exact ⟨rfl, rfl⟩))
    (fun os started H enc _ => lifted os started H enc)
end alphaSettles
theorem alphaSettles_holds : Rows.AlphaSettlesSaid := alphaSettles.over
end Go.Proofs.Ytpeckopgmdgnnaa
