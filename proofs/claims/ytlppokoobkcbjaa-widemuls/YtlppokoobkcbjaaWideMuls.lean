/- For every two uint64 and every two wide numbers: wide.Mul is the document's own product, wide.Add its sum modulo 2^128 and whether it goes beyond, wide.Cmp its order, and the chapter's example holds: WideMuls returns true and changes nothing that was there. No conditions. -/
import Derived.Test.YtlppokoobkcbjaaKit
import Derived.Test.YtlppokoobkcbjaaRefH
import Derived.Deep.DeepCutAuto
namespace Go.Proofs.Ytlppokoobkcbjaa
namespace wideMuls
open Go.ChangeShapes Go.WideShapes Go.ChangeAt Go.RowKit
open Go.ChangeMaps (open_string shut_string)
set_option linter.unusedVariables false

theorem cmp_self (m : Int) : cmpI m m = 0 := (cmp_eq' rfl).symm
theorem four_kept {W w1 : World} {p q r s : Addr} {a b c d : Value} (hb : Below W.heap.size W w1) (h : W.cell? p = some a ∧ W.cell? q = some b ∧ W.cell? r = some c ∧ W.cell? s = some d) :
    w1.cell? p = some a ∧ w1.cell? q = some b ∧ w1.cell? r = some c ∧ w1.cell? s = some d := ⟨cell_kept hb h.1, cell_kept hb h.2.1, cell_kept hb h.2.2.1, cell_kept hb h.2.2.2⟩
theorem seven_kept {W w1 : World} {p q r s t u x : Addr} {a b c d e f g : Value} (hb : Below W.heap.size W w1) (h : W.cell? p = some a ∧ W.cell? q = some b ∧ W.cell? r = some c ∧ W.cell? s = some d ∧ W.cell? t = some e ∧ W.cell? u = some f ∧ W.cell? x = some g) :
    w1.cell? p = some a ∧ w1.cell? q = some b ∧ w1.cell? r = some c ∧ w1.cell? s = some d ∧ w1.cell? t = some e ∧ w1.cell? u = some f ∧ w1.cell? x = some g :=
  ⟨cell_kept hb h.1, cell_kept hb h.2.1, cell_kept hb h.2.2.1, cell_kept hb h.2.2.2.1, cell_kept hb h.2.2.2.2.1, cell_kept hb h.2.2.2.2.2.1, cell_kept hb h.2.2.2.2.2.2⟩

theorem P128 : P2 128 = 340282366920938463463374607431768211456 := by decide
theorem want_parts {l : List Int} {a b c d : Int} (h : IsBits l) (hl : l.length = 129) (e : val l = wn a b + wn c d) (ha : 0 ≤ wn a b ∧ wn a b < 340282366920938463463374607431768211456) (hc : 0 ≤ wn c d ∧ wn c d < 340282366920938463463374607431768211456) :
    val (l.drop 0) % 18446744073709551616 = lo64 (wsum a b c d) ∧ val ((l.take 128).drop 64) % 18446744073709551616 = hi64 (wsum a b c d) ∧ bitAt l 128 = (if wover a b c d then 1 else 0) := by
  have s := val_split l 128
  have d1 := val_drop l 128
  rw [List.drop_eq_nil_of_le (show l.length ≤ 128 + 1 by omega)] at d1
  rw [d1, P128] at s
  have t := low_bd h 128
  rw [P128] at t
  have s2 := val_split (l.take 128) 64
  have p64 : P2 64 = 18446744073709551616 := by decide
  rw [p64] at s2
  have u := low_bd (bits_take h 128) 64
  rw [p64] at u
  have x := bitAt_01 h 128
  have z : val [] = 0 := rfl
  rw [z] at s
  have v := (val_bd (bits_drop (bits_take h 128) 64)).1
  have k : val (l.take 128) = wsum a b c d ∧ bitAt l 128 = (if wover a b c d then 1 else 0) := by
    unfold wsum wover
    rw [← e]
    refine ⟨by omega, ?_⟩
    by_cases hh : 340282366920938463463374607431768211456 ≤ val l
    · simp only [hh, decide_true, if_true]; omega
    · simp only [hh, decide_false, Bool.false_eq_true, if_false]; omega
  rw [k.1] at s2
  refine ⟨?_, ?_, k.2⟩
  · rw [List.drop_zero, e]; unfold lo64 wsum; omega
  · unfold hi64; rw [← k.1] at s2; rw [← k.1]; omega

theorem Rd.take {w : World} {g n c m : Nat} {zs : List Int} (h : Rd w g n c zs) (hm : m ≤ n) : Rd w g m c (zs.take m) := by
  refine ⟨by rw [List.length_take, ← h.1]; omega, by have := h.2.1; omega, h.2.2.1, h.2.2.2.1, fun i v hv => ?_⟩
  rw [List.map_take, List.getElem?_take] at hv
  split at hv
  · exact h.2.2.2.2 i v hv
  · cases hv

theorem own : ownKnob Try.prog.godebug = none := by kernel_rfl
theorem laidOut : laidOutB Try.prog = true := by kernel_rfl

set_option maxHeartbeats 4000000 in
set_option maxRecDepth 100000 in
theorem walk (a0 : Int) (a1 : Int) (a2x0 : Int) (a2x1 : Int) (a2x2 : Int) (a2x3 : Int) (w : World) (w0 : (Lit.int .u64 a0).wf = true) (w1 : (Lit.int .u64 a1).wf = true) (w2x0 : (Lit.int .u64 a2x0).wf = true) (w2x1 : (Lit.int .u64 a2x1).wf = true) (w2x2 : (Lit.int .u64 a2x2).wf = true) (w2x3 : (Lit.int .u64 a2x3).wf = true) :
    Calls Try.prog 3 #[.int .u64 a0, .int .u64 a1, .agg #[.int .u64 a2x0, .int .u64 a2x1, .int .u64 a2x2, .int .u64 a2x3]] w fun e w' => e = .returned (.bool true) ∧ Below w.heap.size w w' := by
  have u0 := bounds_u64 w0
  have u1 := bounds_u64 w1
  have u2 := bounds_u64 w2x0
  have u3 := bounds_u64 w2x1
  have u4 := bounds_u64 w2x2
  have u5 := bounds_u64 w2x3
  clear w0 w1 w2x0 w2x1 w2x2 w2x3
  have nb1 := wn_bd a2x0 a2x1 u2 u3
  have nb2 := wn_bd a2x2 a2x3 u4 u5
  have pb := mul_bd a0 a1 u0 u1
  have hb1 := hi_bd (a0 * a1) pb.1 (by omega)
  have hb2 := lo_bd (a0 * a1)
  have E1 := Lib.hid (wn_halves (a0 * a1))
  have NB := Lib.hid (And.intro nb1 nb2)
  clear nb1 nb2 pb
  obtain ⟨ov, hov⟩ : ∃ b, wover a2x0 a2x1 a2x2 a2x3 = b := ⟨_, rfl⟩
  have HO := Lib.hid hov
  clear hov
  go_enter Try.func3, Try.ntmps3
  go_upto_region 2 with (first
    | (go_at_call_of 8 (Value.int .u64 a0); refine (refBits_any _ _ (by omega)).mono ?_; rintro e wa ⟨ga, ca, la, rfl, OA, ba, va, BA⟩; have VA := Lib.hid va; clear va)
    | (go_at_call_of 8 (Value.int .u64 a1); refine (refBits_any _ _ (by omega)).mono ?_; rintro e wb ⟨gb, cb, lb, rfl, OB, bb, vb, BB⟩; have VB := Lib.hid vb; clear vb)
    | (go_at_call 7; refine (refMul_any ga 64 ca gb 64 cb la lb _ (OA.kept BB).rd OB.rd ba bb (by omega) (by omega) (by omega)).mono ?_; rw [VA.out, VB.out]; rintro e wc ⟨np, gp, cp, lp, p0, p1, rfl, OP, bp, vp, BC⟩; have VP := Lib.hid vp; clear vp))
  have A5 := (((At.new w [.int .u64 a2x0, .int .u64 a2x1, .int .u64 a2x2, .int .u64 a2x3] 25).kept BA).kept BB).kept BC
  have L := new_then (new_alloc (new_refl w) _) (new_then BA (new_then BB BC))
  clear BA BB BC OA OB VA VB ba bb
  have x0 := A5.cell 0 rfl
  have x1 := A5.cell 1 rfl
  have x2 := A5.cell 2 rfl
  have x3 := A5.cell 3 rfl
  go_upto_region 3 with (go_at_call 9; refine (wideAdd_any _ _ _ _ _ (by omega) (by omega) (by omega) (by omega)).mono ?_; rw [HO.out]; rintro e wd ⟨rfl, BD⟩)
  have A8 := At.new wd [.int .u64 (hi64 (wsum a2x0 a2x1 a2x2 a2x3)), .int .u64 (lo64 (wsum a2x0 a2x1 a2x2 a2x3))] 24
  have B1 := new_alloc BD (.cells #[.int .u64 (hi64 (wsum a2x0 a2x1 a2x2 a2x3)), .int .u64 (lo64 (wsum a2x0 a2x1 a2x2 a2x3))] 24)
  generalize wd.heap.size = g8 at *
  generalize wd.alloc (.cells #[.int .u64 (hi64 (wsum a2x0 a2x1 a2x2 a2x3)), .int .u64 (lo64 (wsum a2x0 a2x1 a2x2 a2x3))] 24) = W1 at *
  replace A5 := A5.kept B1
  replace OP := OP.kept B1
  replace L := new_then L B1
  clear x0 x1 x2 x3 BD B1 wd
  have x0 := A5.cell 0 rfl
  have x1 := A5.cell 1 rfl
  have x2 := A5.cell 2 rfl
  have x3 := A5.cell 3 rfl
  go_cut [10] (fun v wx => ∃ g c l, v = .slice (some ⟨g, 0, none⟩) 129 c ∧ Own wx W1.heap.size (.slice (some ⟨g, 0, none⟩) 129 c) l ∧ IsBits l ∧ val l = wn a2x0 a2x1 + wn a2x2 a2x3 ∧ Below W1.heap.size W1 wx)
  case first =>
    go_region_held3 (fun w' => w'.cell? ⟨w.heap.size, 0, none⟩ = some (.int .u64 a2x0) ∧ w'.cell? ⟨w.heap.size, 1, none⟩ = some (.int .u64 a2x1) ∧ w'.cell? ⟨w.heap.size, 2, none⟩ = some (.int .u64 a2x2) ∧ w'.cell? ⟨w.heap.size, 3, none⟩ = some (.int .u64 a2x3))
      (first | go_keep | exact four_kept B3 (by assumption) | exact four_kept B2 (by assumption) | exact four_kept B1 ⟨by assumption, by assumption, by assumption, by assumption⟩ | exact four_kept B1 (by assumption))
      (first
        | (go_at_call 11; have h1 := O1; clear h1; refine (lawBits_any _ _ _ (by omega) (by omega)).mono ?_; rintro e w2 ⟨g2, c2, l2, rfl, O2, b2, v2, B2⟩; have V2 := Lib.hid v2; clear v2)
        | (go_at_call 11; refine (lawBits_any _ _ _ (by omega) (by omega)).mono ?_; rintro e w1 ⟨g1, c1, l1, rfl, O1, b1, v1, B1⟩; replace B1 := new_undrew B1; have V1 := Lib.hid v1; clear v1)
        | (go_at_call 10; refine (refAdd_any g1 128 c1 g2 128 c2 128 l1 l2 _ (O1.kept B2).rd O2.rd b1 b2 (by omega) (by omega)).mono ?_; rw [V1.out, V2.out]; rintro e w3 ⟨g3, c3, l3, rfl, O3, b3, v3, B3⟩; have V3 := Lib.hid v3; clear v3))
    go_wp2_with fail
    go_meet
    case rel => exact ⟨g3, c3, l3, rfl, O3.mono (Nat.le_trans B1.size B2.size), b3, V3.out, new_then B1 (new_then B2 B3)⟩
  case rest =>
    obtain ⟨gw, cw, lw, rfl, OW, bw, vw, BW⟩ := hcut
    have parts := want_parts bw OW.at_.1.symm vw NB.out.1 NB.out.2
    rw [HO.out] at parts
    have PP := Lib.hid parts
    clear parts vw x0 x1 x2 x3
    replace A5 := A5.kept BW
    replace A8 := A8.kept BW
    replace OP := OP.kept BW
    replace L := new_then L BW
    have x0 := A5.cell 0 rfl
    have x1 := A5.cell 1 rfl
    have x2 := A5.cell 2 rfl
    have x3 := A5.cell 3 rfl
    have y0 := A8.cell 0 rfl
    have y1 := A8.cell 1 rfl
    have z0 := OW.rd.bit (show 128 < 129 by omega)
    rw [PP.out.2.2] at z0
    have cap := OW.at_.2.1
    have capI : (128 : Int) ≤ cw := by omega
    clear BW
    go_upto_region 4 with (fail)
    cases ov
    · simp only [Bool.false_eq_true, if_false] at z0
      go_region_held3 (fun w' => w'.cell? ⟨w.heap.size, 0, none⟩ = some (.int .u64 a2x0) ∧ w'.cell? ⟨w.heap.size, 1, none⟩ = some (.int .u64 a2x1) ∧ w'.cell? ⟨w.heap.size, 2, none⟩ = some (.int .u64 a2x2) ∧ w'.cell? ⟨w.heap.size, 3, none⟩ = some (.int .u64 a2x3) ∧ w'.cell? ⟨g8, 0, none⟩ = some (.int .u64 (hi64 (wsum a2x0 a2x1 a2x2 a2x3))) ∧ w'.cell? ⟨g8, 1, none⟩ = some (.int .u64 (lo64 (wsum a2x0 a2x1 a2x2 a2x3))) ∧ w'.cell? ⟨gw, 128, none⟩ = some (.int .i64 0))
          (first | go_keep | assumption | exact seven_kept B11 (by assumption) | exact seven_kept B9 (by assumption) | exact seven_kept B8 (by assumption) | exact seven_kept B7 (by assumption) | exact seven_kept B2 (by assumption) | exact seven_kept B1 ⟨by assumption, by assumption, by assumption, by assumption, by assumption, by assumption, by assumption⟩ | exact seven_kept B1 (by assumption))
          (first
            | (go_at_call 13; refine (wideMul_any _ _ _ (by omega) (by omega)).mono ?_; rintro e w1 ⟨rfl, B1⟩; replace B1 := new_undrew B1)
            | (go_at_call 11; have h8 := O8; clear h8; refine (lawBits_any _ _ _ (by omega) (by omega)).mono ?_; rintro e w9 ⟨g9, c9, l9, rfl, O9, b9, v9, B9⟩; have V9 := Lib.hid v9; clear v9)
            | (go_at_call 11; have h7 := B7; clear h7; refine (lawBits_any _ _ _ (by omega) (by omega)).mono ?_; rintro e w8 ⟨gv, cv, l8, rfl, O8, b8, v8, B8⟩; have V8 := Lib.hid v8; clear v8)
            | (go_at_call 11; refine (lawBits_any _ _ _ (by omega) (by omega)).mono ?_; rw [E1.out]; rintro e w2 ⟨g2, c2, l2, rfl, O2, b2, v2, B2⟩; have V2 := Lib.hid v2; clear v2)
            | (go_at_call 12; have h9 := O9; clear h9; refine (refCmp_any gv 128 cv g9 128 c9 l8 l9 _ (O8.kept B9).rd O9.rd b8 b9 (by omega) (by omega)).mono ?_; rw [V8.out, V9.out]; rintro e w10 ⟨rfl, rfl⟩)
            | (go_at_call 12; refine (refCmp_any g2 128 c2 gp np cp l2 lp _ O2.rd ((OP.kept B1).kept B2).rd b2 bp (by omega) (by omega)).mono ?_; rw [V2.out, VP.out, cmp_self]; rintro e w3 ⟨rfl, rfl⟩)
            | (go_at_call 14; have h4 := mk4; clear h4; refine (refNum_any gw 128 cw 64 64 (lw.take 128) _ (Rd.take ((OW.kept B1).kept B2).rd (by omega)) (bits_take bw 128) rfl (by omega) (by omega)).mono ?_; rw [PP.out.2.1]; rintro e w5 ⟨rfl, rfl⟩)
            | (go_at_call 14; refine (refNum_any gw 129 cw 0 0 lw _ ((OW.kept B1).kept B2).rd bw rfl (by omega) (by omega)).mono ?_; rw [PP.out.1]; rintro e w4 ⟨rfl, rfl⟩; have mk4 := trivial)
            | (go_at_call 15; refine (wideCmp_any _ _ _ _ _ (by omega) (by omega) (by omega) (by omega)).mono ?_; rintro e w7 ⟨rfl, B7⟩)
            | (go_at_call 16; refine (works_any _).mono ?_; rintro e w11 ⟨rfl, B11⟩))
      all_goals
        go_wp2_with fail
        go_ret
        exact ⟨rfl, new_then L (new_then B1 (new_then B2 (new_then B7 (new_then B8 (new_then B9 B11)))))⟩
    · simp only [if_true] at z0
      go_region_held3 (fun w' => w'.cell? ⟨w.heap.size, 0, none⟩ = some (.int .u64 a2x0) ∧ w'.cell? ⟨w.heap.size, 1, none⟩ = some (.int .u64 a2x1) ∧ w'.cell? ⟨w.heap.size, 2, none⟩ = some (.int .u64 a2x2) ∧ w'.cell? ⟨w.heap.size, 3, none⟩ = some (.int .u64 a2x3) ∧ w'.cell? ⟨g8, 0, none⟩ = some (.int .u64 (hi64 (wsum a2x0 a2x1 a2x2 a2x3))) ∧ w'.cell? ⟨g8, 1, none⟩ = some (.int .u64 (lo64 (wsum a2x0 a2x1 a2x2 a2x3))) ∧ w'.cell? ⟨gw, 128, none⟩ = some (.int .i64 1))
          (first | go_keep | assumption | exact seven_kept B11 (by assumption) | exact seven_kept B9 (by assumption) | exact seven_kept B8 (by assumption) | exact seven_kept B7 (by assumption) | exact seven_kept B2 (by assumption) | exact seven_kept B1 ⟨by assumption, by assumption, by assumption, by assumption, by assumption, by assumption, by assumption⟩ | exact seven_kept B1 (by assumption))
          (first
            | (go_at_call 13; refine (wideMul_any _ _ _ (by omega) (by omega)).mono ?_; rintro e w1 ⟨rfl, B1⟩; replace B1 := new_undrew B1)
            | (go_at_call 11; have h8 := O8; clear h8; refine (lawBits_any _ _ _ (by omega) (by omega)).mono ?_; rintro e w9 ⟨g9, c9, l9, rfl, O9, b9, v9, B9⟩; have V9 := Lib.hid v9; clear v9)
            | (go_at_call 11; have h7 := B7; clear h7; refine (lawBits_any _ _ _ (by omega) (by omega)).mono ?_; rintro e w8 ⟨gv, cv, l8, rfl, O8, b8, v8, B8⟩; have V8 := Lib.hid v8; clear v8)
            | (go_at_call 11; refine (lawBits_any _ _ _ (by omega) (by omega)).mono ?_; rw [E1.out]; rintro e w2 ⟨g2, c2, l2, rfl, O2, b2, v2, B2⟩; have V2 := Lib.hid v2; clear v2)
            | (go_at_call 12; have h9 := O9; clear h9; refine (refCmp_any gv 128 cv g9 128 c9 l8 l9 _ (O8.kept B9).rd O9.rd b8 b9 (by omega) (by omega)).mono ?_; rw [V8.out, V9.out]; rintro e w10 ⟨rfl, rfl⟩)
            | (go_at_call 12; refine (refCmp_any g2 128 c2 gp np cp l2 lp _ O2.rd ((OP.kept B1).kept B2).rd b2 bp (by omega) (by omega)).mono ?_; rw [V2.out, VP.out, cmp_self]; rintro e w3 ⟨rfl, rfl⟩)
            | (go_at_call 14; have h4 := mk4; clear h4; refine (refNum_any gw 128 cw 64 64 (lw.take 128) _ (Rd.take ((OW.kept B1).kept B2).rd (by omega)) (bits_take bw 128) rfl (by omega) (by omega)).mono ?_; rw [PP.out.2.1]; rintro e w5 ⟨rfl, rfl⟩)
            | (go_at_call 14; refine (refNum_any gw 129 cw 0 0 lw _ ((OW.kept B1).kept B2).rd bw rfl (by omega) (by omega)).mono ?_; rw [PP.out.1]; rintro e w4 ⟨rfl, rfl⟩; have mk4 := trivial)
            | (go_at_call 15; refine (wideCmp_any _ _ _ _ _ (by omega) (by omega) (by omega) (by omega)).mono ?_; rintro e w7 ⟨rfl, B7⟩)
            | (go_at_call 16; refine (works_any _).mono ?_; rintro e w11 ⟨rfl, B11⟩))
      all_goals
        go_wp2_with fail
        go_ret
        exact ⟨rfl, new_then L (new_then B1 (new_then B2 (new_then B7 (new_then B8 (new_then B9 B11)))))⟩

set_option maxRecDepth 100000 in
theorem lifted (os : Os) (started : os.Started) (H : Type) (enc : TypeId × Value → H) :
    ReturnsInHanded {} Try.checked os 3 .any (Rows.wideMulsSpec.pre6 enc Try.prog Try.f3 Rows.wideMulsRow.domain false) (Rows.wideMulsSpec.post enc Try.prog Try.f3 false true false false) := by
  refine returnsInHanded_of_change (C := Try.checked) own started (by kernel_rfl) Try.func3
    (ChangeSpec.witness6 (enc := enc) (C := Try.checked) false ⟨#[], #[.int .u64 0, .int .u64 0, .agg #[.int .u64 0, .int .u64 0, .int .u64 0, .int .u64 0]], []⟩ 8 (by kernel_rfl) (by kernel_rfl) (by kernel_rfl) (by kernel_rfl)) ?_
  intro W base args ds gs before hval0 hW hcnd _
  have hval : ∀ (j : Nat) t v, Try.f3.params[j]? = some t → args[j]? = some v → Value.okWide Try.prog W .any base t v := hval0
  have hW' := hW
  obtain ⟨p, q, hA0, hV, rfl, hfz, hnd⟩ := hW
  have hA : DataW.TrodAll enc Try.prog W 0 (fun _ => true) true Try.f3.params.toList args.toList ds p := hA0
  rw [Try.params3] at hA hval
  obtain ⟨v0, vs0, d0, ds0, p0, q0, hargs, rfl, rfl, h0, r0⟩ := trodAll_cons hA
  obtain ⟨v1, vs1, d1, ds1, p1, q1, rfl, rfl, rfl, h1, r1⟩ := trodAll_cons r0
  obtain ⟨v2, vs2, d2, ds2, p2, q2, rfl, rfl, rfl, h2, r2⟩ := trodAll_cons r1
  obtain ⟨rfl, rfl, rfl⟩ := trodAll_nil r2
  obtain rfl : args = #[v0, v1, v2] := by cases args; simp_all
  obtain ⟨rfl, rfl⟩ := trodVars_none hV
  have k0 := h0
  have lt0 : ∀ x ∈ p0, x.block < W.heap.size := by obtain ⟨m, hm⟩ := k0; exact DataW.trod_lt m _ _ _ hm
  obtain ⟨a0, rfl, _, _, w0⟩ := open_int Try.underlying22 (hval 0 22 v0 rfl rfl) h0
  have k1 := h1
  have lt1 : ∀ x ∈ p1, x.block < W.heap.size := by obtain ⟨m, hm⟩ := k1; exact DataW.trod_lt m _ _ _ hm
  obtain ⟨a1, rfl, _, _, w1⟩ := open_int Try.underlying22 (hval 1 22 v1 rfl rfl) h1
  have k2 := h2
  have lt2 : ∀ x ∈ p2, x.block < W.heap.size := by obtain ⟨m, hm⟩ := k2; exact DataW.trod_lt m _ _ _ hm
  obtain ⟨cs2, rfl, l2, L2⟩ := flat_of (n := 4) (ls := [(0, .inl .u64), (1, .inl .u64), (2, .inl .u64), (3, .inl .u64)]) (by kernel_rfl) (by kernel_rfl) (agg_of_array Try.underlying25 (hval 2 25 v2 rfl rfl)) h2
  obtain ⟨a2x0, e2x0, w2x0⟩ := leaf_int (L2 (0, .inl .u64) (by simp))
  obtain ⟨a2x1, e2x1, w2x1⟩ := leaf_int (L2 (1, .inl .u64) (by simp))
  obtain ⟨a2x2, e2x2, w2x2⟩ := leaf_int (L2 (2, .inl .u64) (by simp))
  obtain ⟨a2x3, e2x3, w2x3⟩ := leaf_int (L2 (3, .inl .u64) (by simp))
  obtain rfl : cs2 = [.int .u64 a2x0, .int .u64 a2x1, .int .u64 a2x2, .int .u64 a2x3] := list_is l2 rfl (by intro i hi; match i, hi with | 0, _ => exact e2x0 | 1, _ => exact e2x1 | 2, _ => exact e2x2 | 3, _ => exact e2x3)
  clear hA0 hval0
  refine (walk a0 a1 a2x0 a2x1 a2x2 a2x3 W w0 w1 w2x0 w2x1 w2x2 w2x3).mono fun e W' ⟨he, bel⟩ => ?_
  subst he
  exact ⟨_, rfl, _, _, _, [], _, [], hW', trodAll_mk1 (shut_bool Try.underlying4 _), (trodAll_cons_mk (Below.trod laidOut (by kernel_rfl) (of_decide_eq_true (by kernel_rfl)) k0 bel lt0) (trodAll_cons_mk (Below.trod laidOut (by kernel_rfl) (of_decide_eq_true (by kernel_rfl)) k1 bel lt1) (trodAll_cons_mk (Below.trod laidOut (by kernel_rfl) (of_decide_eq_true (by kernel_rfl)) k2 bel lt2) trodAll_mk0))), rfl, bel.frame _, fun h => by cases h⟩

theorem over : Rows.wideMulsRow.holds Try.pinned (OpenSpec.ofChange Rows.wideMulsSpec) :=
  OpenClaim.holds_of_wide 3 Try.f3 rfl rfl rfl rfl rfl rfl rfl ⟨rfl, rfl, rfl, rfl, rfl⟩ rfl rfl rfl rfl rfl (by kernel_rfl) Try.func3 (by kernel_rfl)
    (of_decide_eq_true (by kernel_rfl)) (by unfold Func.isWrapper; first | (rw [if_pos (by decide +kernel)]; kernel_rfl) | (rw [if_neg (by decide +kernel)]; exact ⟨rfl, rfl⟩))
    (fun os started H enc _ => lifted os started H enc)
end wideMuls
theorem wideMuls_holds : Rows.WideMulsSaid := wideMuls.over
end Go.Proofs.Ytlppokoobkcbjaa
