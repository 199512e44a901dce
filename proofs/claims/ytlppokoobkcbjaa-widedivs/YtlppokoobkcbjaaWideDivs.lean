/- For every wide number x and every uint64 d: wide.Div answers as the document's own Div does, quotient and what is left (0 and 0 of d 0), the square of wide.Root is not above x, that of one more is, and the chapter's example holds: WideDivs returns true and changes nothing that was there. No conditions. -/
import Derived.Test.YtlppokoobkcbjaaKit
import Derived.Test.YtlppokoobkcbjaaRefH
import Derived.Test.YtlppokoobkcbjaaWideR
import Derived.Deep.DeepCutAuto
namespace Go.Proofs.Ytlppokoobkcbjaa
namespace wideDivs
open Go.ChangeShapes Go.WideShapes Go.ChangeAt Go.RowKit
open Go.ChangeMaps (open_string shut_string)
set_option linter.unusedVariables false

theorem cmp_self (m : Int) : cmpI m m = 0 := (cmp_eq' rfl).symm
theorem num_rest {l : List Int} {q : Int} (e : val l = q) (h0 : 0 ≤ q) (h1 : q ≤ 18446744073709551615) : val (l.drop 0) % 18446744073709551616 = q := by
  rw [List.drop_zero, e]; omega

theorem own : ownKnob Try.prog.godebug = none := by kernel_rfl
theorem laidOut : laidOutB Try.prog = true := by kernel_rfl

set_option maxHeartbeats 4000000 in
set_option maxRecDepth 100000 in
theorem walk (a0x0 : Int) (a0x1 : Int) (a1 : Int) (w : World) (w0x0 : (Lit.int .u64 a0x0).wf = true) (w0x1 : (Lit.int .u64 a0x1).wf = true) (w1 : (Lit.int .u64 a1).wf = true) :
    Calls Try.prog 4 #[.agg #[.int .u64 a0x0, .int .u64 a0x1], .int .u64 a1] w fun e w' => e = .returned (.bool true) ∧ Below w.heap.size w w' := by
  have u0 := bounds_u64 w0x0
  have u1 := bounds_u64 w0x1
  have u2 := bounds_u64 w1
  clear w0x0 w0x1 w1
  by_cases h0 : a1 = 0
  · subst h0
    go_enter Try.func4, Try.ntmps4
    go_upto_region 2 with (go_at_call 17; refine (wideDiv_zero _ _ _).mono ?_; rintro e wa ⟨rfl, BA⟩)
    have A2 := ((At.new w [.int .u64 a0x0, .int .u64 a0x1] 24).kept BA).alloc (.cells #[.int .u64 0, .int .u64 0] 24)
    have A5 := At.new wa [.int .u64 0, .int .u64 0] 24
    have L := new_alloc (new_then (new_alloc (new_refl w) _) BA) (.cells #[.int .u64 0, .int .u64 0] 24)
    generalize wa.heap.size = g5 at *
    generalize wa.alloc (.cells #[.int .u64 0, .int .u64 0] 24) = W1 at *
    have x2 := A2.cell 0 rfl
    have y2 := A2.cell 1 rfl
    clear BA wa
    go_upto_region 4 with (first
      | (go_at_call 18; refine (wideRoot_any _ _ _ (by omega) (by omega)).mono ?_; rintro e wb ⟨n, hn, lo, hi, rfl, BB⟩; have RT := Lib.hid (And.intro lo hi); clear lo hi)
      | (go_at_call 8; refine (refBits_any _ _ (by omega)).mono ?_; rintro e wc ⟨gn, cn, ln, rfl, ON, bn, vn, BC⟩; have VN := Lib.hid vn; clear vn)
      | (go_at_call 10; refine (refAdd_any gn 64 cn wc.heap.size 1 1 64 ln [1] _ (ON.rd.alloc _) (Own.one wc 1).rd bn (bits_one (.inr rfl)) (by omega) (by omega)).mono ?_; rw [VN.out, val_one]; rintro e wd ⟨gu, cu, lu, rfl, OU, bu, vu, BD⟩; have VU := Lib.hid vu; clear vu))
    have B1' := new_then (new_then BB BC) (new_then (new_alloc (new_refl wc) _) BD)
    replace A2 := A2.kept B1'
    replace A5 := A5.kept B1'
    replace L := new_then L B1'
    clear x2 y2 BB BC BD ON VN bn B1'
    have x2 := A2.cell 0 rfl
    have y2 := A2.cell 1 rfl
    have t1 : decide (0 < cmpI (n * n) (wn a0x0 a0x1)) = false := decide_eq_false (by rw [cmp_gt]; have := RT.out.1; omega)
    have t2 : decide (cmpI ((n + 1) * (n + 1)) (wn a0x0 a0x1) ≤ 0) = false := decide_eq_false (by rw [cmp_le0]; have := RT.out.2; omega)
    go_cut [40] (fun s wx => s = .bool false ∧ Below wd.heap.size wd wx)
    case first =>
      go_region_held3 (fun w' => w'.cell? ⟨w.heap.size, 0, none⟩ = some (.int .u64 a0x0) ∧ w'.cell? ⟨w.heap.size, 1, none⟩ = some (.int .u64 a0x1)) (first | go_keep | assumption | exact two_kept B7 (by assumption) | exact two_kept B6 (by assumption) | exact two_kept B4 (by assumption) | exact two_kept B3 (by assumption) | exact two_kept B2 (by assumption) | exact two_kept B1 ⟨by assumption, by assumption⟩ | exact two_kept B1 (by assumption))
        (first
          | (go_at_call 8; have h1 := O1; clear h1; refine (refBits_any _ _ (by omega)).mono ?_; rintro e w2 ⟨g2, c2, l2, rfl, O2, b2, v2, B2⟩; have V2 := Lib.hid v2; clear v2)
          | (go_at_call 8; refine (refBits_any _ _ (by omega)).mono ?_; rintro e w1 ⟨g1, c1, l1, rfl, O1, b1, v1, B1⟩; replace B1 := new_undrew B1; have V1 := Lib.hid v1; clear v1)
          | (go_at_call_of 7 (Value.slice (some ⟨g1, 0, none⟩) 64 c1); refine (refMul_any g1 64 c1 g2 64 c2 l1 l2 _ (O1.kept B2).rd O2.rd b1 b2 (by omega) (by omega) (by omega)).mono ?_; rw [V1.out, V2.out]; rintro e w3 ⟨n3, g3, c3, l3, p3, q3, rfl, O3, b3, v3, B3⟩; have V3 := Lib.hid v3; clear v3)
          | (go_at_call 11; have h6 := O6; clear h6; refine (lawBits_any _ _ _ (by omega) (by omega)).mono ?_; rintro e w7 ⟨g7, c7, l7, rfl, O7, b7, v7, B7⟩; have V7 := Lib.hid v7; clear v7)
          | (go_at_call 11; refine (lawBits_any _ _ _ (by omega) (by omega)).mono ?_; rintro e w4 ⟨g4, c4, l4, rfl, O4, b4, v4, B4⟩; have V4 := Lib.hid v4; clear v4)
          | (go_at_call_of 12 (Value.slice (some ⟨g3, 0, none⟩) n3 c3); refine (refCmp_any g3 n3 c3 g4 128 c4 l3 l4 _ (O3.kept B4).rd O4.rd b3 b4 (by omega) (by omega)).mono ?_; rw [V3.out, V4.out]; rintro e w5 ⟨rfl, rfl⟩)
          | (go_at_call 7; refine (refMul_any gu 65 cu gu 65 cu lu lu _ ((((OU.kept B1).kept B2).kept B3).kept B4).rd ((((OU.kept B1).kept B2).kept B3).kept B4).rd bu bu (by omega) (by omega) (by omega)).mono ?_; rw [VU.out]; rintro e w6 ⟨n6, g6, c6, l6, p6, q6, rfl, O6, b6, v6, B6⟩; have V6 := Lib.hid v6; clear v6)
          | (go_at_call 12; refine (refCmp_any g6 n6 c6 g7 128 c7 l6 l7 _ (O6.kept B7).rd O7.rd b6 b7 (by omega) (by omega)).mono ?_; rw [V6.out, V7.out]; rintro e w8 ⟨rfl, rfl⟩))
      go_wp2_with fail
      go_meet
      case rel => exact ⟨rfl, new_then B1 (new_then B2 (new_then B3 (new_then B4 (new_then B6 B7))))⟩
    case rest =>
      obtain ⟨rfl, BX⟩ := hcut
      replace A2 := A2.kept BX
      replace A5 := A5.kept BX
      replace L := new_then L BX
      clear x2 y2 t1 t2 BX RT OU bu VU
      have x2 := A2.cell 0 rfl
      have y2 := A2.cell 1 rfl
      have x5 := A5.cell 0 rfl
      have y5 := A5.cell 1 rfl
      go_wp2_with (go_at_call 16; refine (works_any _).mono ?_; rintro e we ⟨rfl, BE⟩; replace L := new_then L BE)
      go_ret
      exact ⟨rfl, L⟩
  · have h1 : (a1 == 0) = false := by simpa using h0
    have nb := wn_bd a0x0 a0x1 u0 u1
    have q0 : 0 ≤ wn a0x0 a0x1 / a1 := Int.ediv_nonneg nb.1 (by omega)
    have q1 : wn a0x0 a0x1 / a1 ≤ wn a0x0 a0x1 := Int.ediv_le_self _ nb.1
    have hb1 := hi_bd (wn a0x0 a0x1 / a1) q0 (by omega)
    have hb2 := lo_bd (wn a0x0 a0x1 / a1)
    have E1 := Lib.hid (wn_halves (wn a0x0 a0x1 / a1))
    have m0 := Int.emod_nonneg (wn a0x0 a0x1) (b := a1) (by omega)
    have m1 := Int.emod_lt_of_pos (wn a0x0 a0x1) (b := a1) (by omega)
    have E2 := Lib.hid (show 0 ≤ wn a0x0 a0x1 % a1 ∧ wn a0x0 a0x1 % a1 ≤ 18446744073709551615 by omega)
    clear nb q0 q1 m0 m1
    go_enter Try.func4, Try.ntmps4
    go_upto_region 2 with (go_at_call 17; refine (wideDiv_any _ _ _ _ (by omega) (by omega) (by omega)).mono ?_; rintro e wa ⟨rfl, BA⟩)
    have A2 := ((At.new w [.int .u64 a0x0, .int .u64 a0x1] 24).kept BA).alloc (.cells #[.int .u64 (hi64 (wn a0x0 a0x1 / a1)), .int .u64 (lo64 (wn a0x0 a0x1 / a1))] 24)
    have A5 := At.new wa [.int .u64 (hi64 (wn a0x0 a0x1 / a1)), .int .u64 (lo64 (wn a0x0 a0x1 / a1))] 24
    have L := new_alloc (new_then (new_alloc (new_refl w) _) BA) (.cells #[.int .u64 (hi64 (wn a0x0 a0x1 / a1)), .int .u64 (lo64 (wn a0x0 a0x1 / a1))] 24)
    generalize wa.heap.size = g5 at *
    generalize wa.alloc (.cells #[.int .u64 (hi64 (wn a0x0 a0x1 / a1)), .int .u64 (lo64 (wn a0x0 a0x1 / a1))] 24) = W1 at *
    have x2 := A2.cell 0 rfl
    have y2 := A2.cell 1 rfl
    clear BA wa
    go_upto_region 4 with (first
      | (go_at_call 18; refine (wideRoot_any _ _ _ (by omega) (by omega)).mono ?_; rintro e wb ⟨n, hn, lo, hi, rfl, BB⟩; have RT := Lib.hid (And.intro lo hi); clear lo hi)
      | (go_at_call 8; refine (refBits_any _ _ (by omega)).mono ?_; rintro e wc ⟨gn, cn, ln, rfl, ON, bn, vn, BC⟩; have VN := Lib.hid vn; clear vn)
      | (go_at_call 10; refine (refAdd_any gn 64 cn wc.heap.size 1 1 64 ln [1] _ (ON.rd.alloc _) (Own.one wc 1).rd bn (bits_one (.inr rfl)) (by omega) (by omega)).mono ?_; rw [VN.out, val_one]; rintro e wd ⟨gu, cu, lu, rfl, OU, bu, vu, BD⟩; have VU := Lib.hid vu; clear vu))
    have B1' := new_then (new_then BB BC) (new_then (new_alloc (new_refl wc) _) BD)
    replace A2 := A2.kept B1'
    replace A5 := A5.kept B1'
    replace L := new_then L B1'
    clear x2 y2 BB BC BD ON VN bn B1'
    have x2 := A2.cell 0 rfl
    have y2 := A2.cell 1 rfl
    have t1 : decide (0 < cmpI (n * n) (wn a0x0 a0x1)) = false := decide_eq_false (by rw [cmp_gt]; have := RT.out.1; omega)
    have t2 : decide (cmpI ((n + 1) * (n + 1)) (wn a0x0 a0x1) ≤ 0) = false := decide_eq_false (by rw [cmp_le0]; have := RT.out.2; omega)
    go_cut [40] (fun s wx => s = .bool false ∧ Below wd.heap.size wd wx)
    case first =>
      go_region_held3 (fun w' => w'.cell? ⟨w.heap.size, 0, none⟩ = some (.int .u64 a0x0) ∧ w'.cell? ⟨w.heap.size, 1, none⟩ = some (.int .u64 a0x1)) (first | go_keep | assumption | exact two_kept B7 (by assumption) | exact two_kept B6 (by assumption) | exact two_kept B4 (by assumption) | exact two_kept B3 (by assumption) | exact two_kept B2 (by assumption) | exact two_kept B1 ⟨by assumption, by assumption⟩ | exact two_kept B1 (by assumption))
        (first
          | (go_at_call 8; have h1 := O1; clear h1; refine (refBits_any _ _ (by omega)).mono ?_; rintro e w2 ⟨g2, c2, l2, rfl, O2, b2, v2, B2⟩; have V2 := Lib.hid v2; clear v2)
          | (go_at_call 8; refine (refBits_any _ _ (by omega)).mono ?_; rintro e w1 ⟨g1, c1, l1, rfl, O1, b1, v1, B1⟩; replace B1 := new_undrew B1; have V1 := Lib.hid v1; clear v1)
          | (go_at_call_of 7 (Value.slice (some ⟨g1, 0, none⟩) 64 c1); refine (refMul_any g1 64 c1 g2 64 c2 l1 l2 _ (O1.kept B2).rd O2.rd b1 b2 (by omega) (by omega) (by omega)).mono ?_; rw [V1.out, V2.out]; rintro e w3 ⟨n3, g3, c3, l3, p3, q3, rfl, O3, b3, v3, B3⟩; have V3 := Lib.hid v3; clear v3)
          | (go_at_call 11; have h6 := O6; clear h6; refine (lawBits_any _ _ _ (by omega) (by omega)).mono ?_; rintro e w7 ⟨g7, c7, l7, rfl, O7, b7, v7, B7⟩; have V7 := Lib.hid v7; clear v7)
          | (go_at_call 11; refine (lawBits_any _ _ _ (by omega) (by omega)).mono ?_; rintro e w4 ⟨g4, c4, l4, rfl, O4, b4, v4, B4⟩; have V4 := Lib.hid v4; clear v4)
          | (go_at_call_of 12 (Value.slice (some ⟨g3, 0, none⟩) n3 c3); refine (refCmp_any g3 n3 c3 g4 128 c4 l3 l4 _ (O3.kept B4).rd O4.rd b3 b4 (by omega) (by omega)).mono ?_; rw [V3.out, V4.out]; rintro e w5 ⟨rfl, rfl⟩)
          | (go_at_call 7; refine (refMul_any gu 65 cu gu 65 cu lu lu _ ((((OU.kept B1).kept B2).kept B3).kept B4).rd ((((OU.kept B1).kept B2).kept B3).kept B4).rd bu bu (by omega) (by omega) (by omega)).mono ?_; rw [VU.out]; rintro e w6 ⟨n6, g6, c6, l6, p6, q6, rfl, O6, b6, v6, B6⟩; have V6 := Lib.hid v6; clear v6)
          | (go_at_call 12; refine (refCmp_any g6 n6 c6 g7 128 c7 l6 l7 _ (O6.kept B7).rd O7.rd b6 b7 (by omega) (by omega)).mono ?_; rw [V6.out, V7.out]; rintro e w8 ⟨rfl, rfl⟩))
      go_wp2_with fail
      go_meet
      case rel => exact ⟨rfl, new_then B1 (new_then B2 (new_then B3 (new_then B4 (new_then B6 B7))))⟩
    case rest =>
      obtain ⟨rfl, BX⟩ := hcut
      replace A2 := A2.kept BX
      replace A5 := A5.kept BX
      replace L := new_then L BX
      clear x2 y2 t1 t2 BX RT OU bu VU
      have x2 := A2.cell 0 rfl
      have y2 := A2.cell 1 rfl
      have x5 := A5.cell 0 rfl
      have y5 := A5.cell 1 rfl
      go_upto_region 9 with (first
        | (go_at_call 11; refine (lawBits_any _ _ _ (by omega) (by omega)).mono ?_; rintro e w1 ⟨g1, c1, l1, rfl, O1, b1, v1, B1⟩; have V1 := Lib.hid v1; clear v1)
        | (go_at_call 8; refine (refBits_any _ _ (by omega)).mono ?_; rintro e w2 ⟨g2, c2, l2, rfl, O2, b2, v2, B2⟩; have V2 := Lib.hid v2; clear v2)
        | (go_at_call 19; refine (refDiv_any g1 128 c1 g2 64 c2 l1 l2 _ (O1.kept B2).rd O2.rd b1 b2 (by omega) (by omega) (by rw [V2.out]; omega)).mono ?_; rw [V1.out, V2.out]; rintro e w3 ⟨gq, cq, gr, nr, cr, qs, rs, rfl, nr0, nr1, OQ, bq, vq, OR, br, vr, B3⟩; have VQ := Lib.hid vq; have VR := Lib.hid vr; clear vq vr))
      have BX := new_then B1 (new_then B2 B3)
      replace A5 := A5.kept BX
      replace L := new_then L BX
      clear x2 y2 x5 y5 BX B1 B2 B3 O1 O2 V1 V2 A2
      have x5 := A5.cell 0 rfl
      have y5 := A5.cell 1 rfl
      go_wp2_with (first
        | (go_at_call 11; refine (lawBits_any _ _ _ (by omega) (by omega)).mono ?_; rw [E1.out]; rintro e w1 ⟨g1, c1, l1, rfl, O1, b1, v1, B1⟩; have V1 := Lib.hid v1; clear v1; replace L := new_then L B1)
        | (go_at_call 12; refine (refCmp_any g1 128 c1 gq 128 cq l1 qs _ O1.rd (OQ.kept B1).rd b1 bq (by omega) (by omega)).mono ?_; rw [V1.out, VQ.out, cmp_self]; rintro e w2 ⟨rfl, rfl⟩)
        | (go_at_call 14; refine (refNum_any gr nr cr 0 0 rs _ (OR.kept B1).rd br rfl (by omega) (by omega)).mono ?_; rw [num_rest VR.out E2.out.1 E2.out.2]; rintro e w2 ⟨rfl, rfl⟩)
        | (go_at_call 16; refine (works_any _).mono ?_; rintro e we ⟨rfl, BE⟩; replace L := new_then L BE))
      go_ret
      exact ⟨rfl, L⟩

set_option maxRecDepth 100000 in
theorem lifted (os : Os) (started : os.Started) (H : Type) (enc : TypeId × Value → H) :
    ReturnsInHanded {} Try.checked os 4 .any (Rows.wideDivsSpec.pre6 enc Try.prog Try.f4 Rows.wideDivsRow.domain false) (Rows.wideDivsSpec.post enc Try.prog Try.f4 false true false false) := by
  refine returnsInHanded_of_change (C := Try.checked) own started (by kernel_rfl) Try.func4
    (ChangeSpec.witness6 (enc := enc) (C := Try.checked) false ⟨#[], #[.agg #[.int .u64 0, .int .u64 0], .int .u64 0], []⟩ 8 (by kernel_rfl) (by kernel_rfl) (by kernel_rfl) (by kernel_rfl)) ?_
  intro W base args ds gs before hval0 hW hcnd _
  have hval : ∀ (j : Nat) t v, Try.f4.params[j]? = some t → args[j]? = some v → Value.okWide Try.prog W .any base t v := hval0
  have hW' := hW
  obtain ⟨p, q, hA0, hV, rfl, hfz, hnd⟩ := hW
  have hA : DataW.TrodAll enc Try.prog W 0 (fun _ => true) true Try.f4.params.toList args.toList ds p := hA0
  rw [Try.params4] at hA hval
  obtain ⟨v0, vs0, d0, ds0, p0, q0, hargs, rfl, rfl, h0, r0⟩ := trodAll_cons hA
  obtain ⟨v1, vs1, d1, ds1, p1, q1, rfl, rfl, rfl, h1, r1⟩ := trodAll_cons r0
  obtain ⟨rfl, rfl, rfl⟩ := trodAll_nil r1
  obtain rfl : args = #[v0, v1] := by cases args; simp_all
  obtain ⟨rfl, rfl⟩ := trodVars_none hV
  have k0 := h0
  have lt0 : ∀ x ∈ p0, x.block < W.heap.size := by obtain ⟨m, hm⟩ := k0; exact DataW.trod_lt m _ _ _ hm
  obtain ⟨cs0, rfl, l0, L0⟩ := flat_of (n := 2) (ls := [(0, .inl .u64), (1, .inl .u64)]) (by kernel_rfl) (by kernel_rfl) (agg_of_struct Try.underlying24 (hval 0 24 v0 rfl rfl)) h0
  obtain ⟨a0x0, e0x0, w0x0⟩ := leaf_int (L0 (0, .inl .u64) (by simp))
  obtain ⟨a0x1, e0x1, w0x1⟩ := leaf_int (L0 (1, .inl .u64) (by simp))
  obtain rfl : cs0 = [.int .u64 a0x0, .int .u64 a0x1] := list_is l0 rfl (by intro i hi; match i, hi with | 0, _ => exact e0x0 | 1, _ => exact e0x1)
  have k1 := h1
  have lt1 : ∀ x ∈ p1, x.block < W.heap.size := by obtain ⟨m, hm⟩ := k1; exact DataW.trod_lt m _ _ _ hm
  obtain ⟨a1, rfl, _, _, w1⟩ := open_int Try.underlying22 (hval 1 22 v1 rfl rfl) h1
  clear hA0 hval0
  refine (walk a0x0 a0x1 a1 W w0x0 w0x1 w1).mono fun e W' ⟨he, bel⟩ => ?_
  subst he
  exact ⟨_, rfl, _, _, _, [], _, [], hW', trodAll_mk1 (shut_bool Try.underlying4 _), (trodAll_cons_mk (Below.trod laidOut (by kernel_rfl) (of_decide_eq_true (by kernel_rfl)) k0 bel lt0) (trodAll_cons_mk (Below.trod laidOut (by kernel_rfl) (of_decide_eq_true (by kernel_rfl)) k1 bel lt1) trodAll_mk0)), rfl, bel.frame _, fun h => by cases h⟩

theorem over : Rows.wideDivsRow.holds Try.pinned (OpenSpec.ofChange Rows.wideDivsSpec) :=
  OpenClaim.holds_of_wide 4 Try.f4 rfl rfl rfl rfl rfl rfl rfl ⟨rfl, rfl, rfl, rfl, rfl⟩ rfl rfl rfl rfl rfl (by kernel_rfl) Try.func4 (by kernel_rfl)
    (of_decide_eq_true (by kernel_rfl)) (by unfold Func.isWrapper; first | (rw [if_pos (by decide +kernel)]; kernel_rfl) | (rw [if_neg (by decide +kernel)]; exact ⟨rfl, rfl⟩))
    (fun os started H enc _ => lifted os started H enc)
end wideDivs
theorem wideDivs_holds : Rows.WideDivsSaid := wideDivs.over
end Go.Proofs.Ytlppokoobkcbjaa
