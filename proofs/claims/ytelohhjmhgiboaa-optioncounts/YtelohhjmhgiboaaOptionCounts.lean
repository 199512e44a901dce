/- For every option, every three counters, every kind and every number: of the option (its first twelve numbers, the first sixty bytes of its text) option.Counters tells what the document's Counters tells, and option.Acc makes the option that the document's Acc makes; and the chapter's example holds: OptionCounts returns true and changes nothing that was there. No conditions. -/
import Derived.Test.YtelohhjmhgiboaaKit
import Derived.Test.YtelohhjmhgiboaaOptK
import Derived.Test.YtelohhjmhgiboaaOptQ
import Derived.Test.YtelohhjmhgiboaaOptR
import Derived.Test.YtelohhjmhgiboaaKitN
import Derived.ChangeKeysEq
import Derived.Laws.StructEq
namespace Go.Proofs.Ytelohhjmhgiboaa
namespace optionCounts
open Go.ChangeShapes Go.WideShapes Go.ChangeAt Go.RowKit
open Go.ChangeMaps (open_string shut_string)
set_option linter.unusedVariables false

theorem eql3 (a b c : Int) (w : World) : (binOp .eql 44 (.agg #[.int .i64 a, .int .i64 b, .int .i64 c]) (.agg #[.int .i64 a, .int .i64 b, .int .i64 c])).run Try.prog w = .ok (.bool true) w := by
  obtain ⟨i, hi⟩ := Option.isSome_iff_exists.1 (show (Try.prog.info? 2).isSome = true by kernel_rfl)
  rw [run_eql_struct, show (10000 : Nat) = 9999 + 1 from rfl, run_equalIn_array w 9999 _ _ (show Try.prog.underlying 44 = some (.array 3 2) by kernel_rfl) hi]
  rw [show Try.prog.cellsOf 2 = 1 by kernel_rfl, show List.range 3 = [0, 1, 2] by decide]
  simp only [Op.eqItems]
  go_simp
theorem row_kept {k : IntKind} {w w' : World} {a : Option Addr} {m cap : Nat} {zs : List Int} (h : IsRow k w a m cap zs) (B : Below w.heap.size w w') : IsRow k w' a m cap zs := by
  rcases h with h | ⟨x, e, h1, h2, h3, h4, h5⟩
  · exact .inl h
  · exact .inr ⟨x, e, h1, h2, h3, fun i hi => cell_kept B (h4 i hi), h5⟩
theorem src_one {w : World} {k : Int} {a : Option Addr} {m cap : Nat} {zs : List Int} {s : ByteArray} (h : IsRow .u32 w a m cap zs) (hs : s.size ≤ maxLen) : SrcO (w.alloc (.cells #[.int .i64 k, .slice a m cap, .string s] 39)) (some ⟨w.heap.size, 0, none⟩) 1 := by
  have A1 := At.new w [.int .i64 k, .slice a m cap, .string s] 39
  refine .inr ⟨w.heap.size, 0, rfl, fun i hi => ?_⟩
  obtain rfl : i = 0 := by omega
  exact ⟨k, a, m, cap, zs, s, ⟨A1.cell 0 rfl, A1.cell 1 rfl, A1.cell 2 rfl⟩, row_kept h (new_alloc (new_refl w) _), hs⟩
theorem eight_kept {W w1 : World} {p q r s t u x y : Addr} {a b c d e f g h : Value} (hb : Below W.heap.size W w1) (k : W.cell? p = some a ∧ W.cell? q = some b ∧ W.cell? r = some c ∧ W.cell? s = some d ∧ W.cell? t = some e ∧ W.cell? u = some f ∧ W.cell? x = some g ∧ W.cell? y = some h) :
    w1.cell? p = some a ∧ w1.cell? q = some b ∧ w1.cell? r = some c ∧ w1.cell? s = some d ∧ w1.cell? t = some e ∧ w1.cell? u = some f ∧ w1.cell? x = some g ∧ w1.cell? y = some h :=
  ⟨cell_kept hb k.1, cell_kept hb k.2.1, cell_kept hb k.2.2.1, cell_kept hb k.2.2.2.1, cell_kept hb k.2.2.2.2.1, cell_kept hb k.2.2.2.2.2.1, cell_kept hb k.2.2.2.2.2.2.1, cell_kept hb k.2.2.2.2.2.2.2⟩
theorem own : ownKnob Try.prog.godebug = none := by kernel_rfl
theorem laidOut : laidOutB Try.prog = true := by kernel_rfl

set_option maxHeartbeats 4000000 in
set_option maxRecDepth 100000 in
theorem walk (a0x0 : Int) (a0x1 : Option Addr) (len0x1 cap0x1 : Nat) (z0x1 : List Int) (a0x2 : ByteArray) (a1x0 : Int) (a1x1 : Int) (a1x2 : Int) (a2x0 : Int) (a2x1 : Int) (w : World) (w0x0 : (Lit.int .i64 a0x0).wf = true) (w0x1 : IsRow .u32 w a0x1 len0x1 cap0x1 z0x1) (w0x2 : a0x2.size ≤ maxLen) (w1x0 : (Lit.int .i64 a1x0).wf = true) (w1x1 : (Lit.int .i64 a1x1).wf = true) (w1x2 : (Lit.int .i64 a1x2).wf = true) (w2x0 : (Lit.int .i64 a2x0).wf = true) (w2x1 : (Lit.int .i64 a2x1).wf = true) :
    Calls Try.prog 5 #[.agg #[.int .i64 a0x0, .slice a0x1 len0x1 cap0x1, .string a0x2], .agg #[.int .i64 a1x0, .int .i64 a1x1, .int .i64 a1x2], .agg #[.int .i64 a2x0, .int .i64 a2x1]] w fun e w' => e = .returned (.bool true) ∧ Below w.heap.size w w' := by
  have b0 := bounds_i64 w1x0
  have b1 := bounds_i64 w1x1
  have b2 := bounds_i64 w1x2
  have CA := Lib.hid (fun w => acc_any a2x0 a1x0 a1x1 a1x2 a2x1 w)
  have CR := Lib.hid (fun w => refAcc_any a2x0 a1x0 a1x1 a1x2 a2x1 w (by omega) (by omega) (by omega))
  generalize accO a2x0 a1x0 a1x1 a1x2 (mnA a2x1) = o at CA CR
  clear b0 b1 b2 w1x0 w1x1 w1x2 w2x0 w2x1 w0x0
  have O0 := ((Blk.new w [.int .i64 a0x0, .slice a0x1 len0x1 cap0x1, .string a0x2] 39).alloc (.cells #[.int .i64 a1x0, .int .i64 a1x1, .int .i64 a1x2] 44)).alloc (.cells #[.int .i64 a2x0, .int .i64 a2x1] 45)
  have C0 := (Blk.newAt (alloc_size w (.cells #[.int .i64 a0x0, .slice a0x1 len0x1 cap0x1, .string a0x2] 39)) [.int .i64 a1x0, .int .i64 a1x1, .int .i64 a1x2] 44).alloc (.cells #[.int .i64 a2x0, .int .i64 a2x1] 45)
  have D0 := Blk.newAt (w := (w.alloc (.cells #[.int .i64 a0x0, .slice a0x1 len0x1 cap0x1, .string a0x2] 39)).alloc (.cells #[.int .i64 a1x0, .int .i64 a1x1, .int .i64 a1x2] 44)) (g := w.heap.size + 1 + 1) (by rw [alloc_size, alloc_size]) [.int .i64 a2x0, .int .i64 a2x1] 45
  have L0 := new_alloc (new_alloc (new_alloc (new_refl w) (.cells #[.int .i64 a0x0, .slice a0x1 len0x1 cap0x1, .string a0x2] 39)) (.cells #[.int .i64 a1x0, .int .i64 a1x1, .int .i64 a1x2] 44)) (.cells #[.int .i64 a2x0, .int .i64 a2x1] 45)
  have R0 := Lib.hid (row_kept w0x1 L0)
  clear w0x1
  go_enter Try.func5, Try.ntmps5
  go_upto_region 1 with (fail)
  generalize ((w.alloc (.cells #[.int .i64 a0x0, .slice a0x1 len0x1 cap0x1, .string a0x2] 39)).alloc (.cells #[.int .i64 a1x0, .int .i64 a1x1, .int .i64 a1x2] 44)).alloc (.cells #[.int .i64 a2x0, .int .i64 a2x1] 45) = V at *
  have n1 : w.heap.size + 1 ≠ w.heap.size := by omega
  have n2 : w.heap.size + 1 + 1 ≠ w.heap.size := by omega
  generalize w.heap.size + 1 + 1 = g2 at *
  generalize w.heap.size + 1 = g1 at *
  have o0 := O0.cell 0 rfl
  have o1 := O0.cell 1 rfl
  have o2 := O0.cell 2 rfl
  have HO0 := Lib.hid O0
  have HC0 := Lib.hid C0
  have HD0 := Lib.hid D0
  clear O0 C0 D0
  go_upto_region 2 with (first
    | (go_at_call 11; refine (few_any (some ⟨V.heap.size, 0, none⟩) 1 1 1 _ (src_one R0.out w0x2) rfl (by decide)).mono ?_; rintro e w1 ⟨A1, c1, xs, rfl, hx, hc, B1⟩
       obtain ⟨g, off, rfl, T0, h0, g0⟩ := hx.at (i := 0) (by decide)
       generalize nthO xs 0 = x at T0 h0
       obtain ⟨t0, t1, t2⟩ := T0
       simp only [Nat.zero_mul, Nat.add_zero] at t0 t1 t2
       have B2 := new_then (new_alloc (new_refl V) _) B1
       have O1 := HO0.out.kept B2
       have f0 := O1.frozen 0
       have f1 := O1.frozen 1
       have f2 := O1.frozen 2
       have p0 := O1.cell 0 rfl
       have p1 := O1.cell 1 rfl
       have p2 := O1.cell 2 rfl))
  have C1 := HC0.out.kept B2
  have D1 := HD0.out.kept B2
  have L1 := new_then L0 B2
  have H2 := h0.apart3 (b := x.o.k) (B := x.a) (m := x.n) (d := x.c) (s' := x.o.s) O1
  have O2 := ((O1.set 0 (.int .i64 x.o.k)).set 1 (.slice x.a x.n x.c)).set 2 (.string x.o.s)
  have C2 := ((C1.far (p := ⟨w.heap.size, 0, none⟩) n1 (.int .i64 x.o.k)).far (p := ⟨w.heap.size, 1, none⟩) n1 (.slice x.a x.n x.c)).far (p := ⟨w.heap.size, 2, none⟩) n1 (.string x.o.s)
  have D2 := ((D1.far (p := ⟨w.heap.size, 0, none⟩) n2 (.int .i64 x.o.k)).far (p := ⟨w.heap.size, 1, none⟩) n2 (.slice x.a x.n x.c)).far (p := ⟨w.heap.size, 2, none⟩) n2 (.string x.o.s)
  have L2 := new_set3 L1 (Nat.le_refl _) (.int .i64 x.o.k) (.slice x.a x.n x.c) (.string x.o.s)
  clear t0 t1 t2 f0 f1 f2 p0 p1 p2 o0 o1 o2 O1 C1 D1 L1 B1 B2 h0 hx g0 HO0 HC0 HD0 R0 L0
  generalize ((w1.setCell ⟨w.heap.size, 0, none⟩ (.int .i64 x.o.k)).setCell ⟨w.heap.size, 1, none⟩ (.slice x.a x.n x.c)).setCell ⟨w.heap.size, 2, none⟩ (.string x.o.s) = W at *
  have o0 : W.cell? ⟨w.heap.size, 0, none⟩ = some (.int .i64 x.o.k) := O2.cell 0 rfl
  have o1 : W.cell? ⟨w.heap.size, 1, none⟩ = some (.slice x.a x.n x.c) := O2.cell 1 rfl
  have o2 : W.cell? ⟨w.heap.size, 2, none⟩ = some (.string x.o.s) := O2.cell 2 rfl
  have c0 := C2.cell 0 rfl
  have c1' := C2.cell 1 rfl
  have c2 := C2.cell 2 rfl
  have d0 := D2.cell 0 rfl
  have d1 := D2.cell 1 rfl
  have H := Lib.hid H2
  clear O2 C2 D2 H2
  have CC := Lib.hid (fun w h => counters_any x w h)
  have CD := Lib.hid (fun w h => refCounters_any x w h)
  unfold CtrTo at CC CD
  generalize cO x.o.k x.o.zs (min x.n 3) 0 = q0 at CC CD
  generalize cO x.o.k x.o.zs (min x.n 3) 1 = q1 at CC CD
  generalize cO x.o.k x.o.zs (min x.n 3) 2 = q2 at CC CD
  have hq := eql3 q0 q1 q2
  have hs2 := L2.size
  have HL2 := Lib.hid L2
  clear L2
  generalize hg0 : w.heap.size = g0 at *
  have HG0 := Lib.hid hg0
  clear hg0
  go_region_held3 (fun w' => w'.cell? ⟨g0, 0, none⟩ = some (.int .i64 x.o.k) ∧ w'.cell? ⟨g0, 1, none⟩ = some (.slice x.a x.n x.c) ∧ w'.cell? ⟨g0, 2, none⟩ = some (.string x.o.s) ∧ w'.cell? ⟨g1, 0, none⟩ = some (.int .i64 a1x0) ∧ w'.cell? ⟨g1, 1, none⟩ = some (.int .i64 a1x1) ∧ w'.cell? ⟨g1, 2, none⟩ = some (.int .i64 a1x2) ∧ w'.cell? ⟨g2, 0, none⟩ = some (.int .i64 a2x0) ∧ w'.cell? ⟨g2, 1, none⟩ = some (.int .i64 a2x1))
    (first | go_keep | assumption | exact eight_kept B16 (by assumption) | exact eight_kept B16 ⟨by assumption, by assumption, by assumption, by assumption, by assumption, by assumption, by assumption, by assumption⟩)
    (first
      | (go_at_call 16; refine (CC.out _ (H.out.drew 1)).mono ?_; rintro e w3 ⟨rfl, B16⟩; replace B16 := new_undrew B16; have L3 := B16)
      | (go_at_call 17; refine (CD.out _ (H.out.kept L3)).mono ?_; rintro e w4 ⟨rfl, B4⟩; have L4 := new_then L3 B4; replace B16 := B4)
      | (go_at_call 18; refine (CA.out _).mono ?_; rintro e w5 ⟨A5, n5, c5, rfl, H5, B5⟩; have L5 := new_then L4 B5; replace B16 := B5)
      | (go_at_call 19; refine (CR.out _).mono ?_; rintro e w6 ⟨A6, n6, c6, rfl, H6, B6⟩; have L6 := new_then L5 B6; replace B16 := B6)
      | (go_at_call 15; refine (same_any ⟨o, A5, n5, c5⟩ ⟨o, A6, n6, c6⟩ _ (H5.kept B6) H6 rfl).mono ?_; rintro e w7 ⟨rfl, B7⟩; have L7 := new_then L6 B7; replace B16 := B7)
      | (go_at_call 10; refine (works12_any _).mono ?_; rintro e w8 ⟨rfl, B8⟩; have L8 := new_then L7 B8; replace B16 := B8))
  all_goals
    go_wp2_with fail
    go_ret
    exact ⟨rfl, by have h := HG0.out; subst h; exact HL2.out.trans (L8.mono hs2)⟩

set_option maxRecDepth 100000 in
theorem lifted (os : Os) (started : os.Started) (H : Type) (enc : TypeId × Value → H) :
    ReturnsInHanded {} Try.checked os 5 .any (Rows.optionCountsSpec.pre6 enc Try.prog Try.f5 Rows.optionCountsRow.domain false) (Rows.optionCountsSpec.post enc Try.prog Try.f5 false true false false) := by
  refine returnsInHanded_of_change (C := Try.checked) own started (by kernel_rfl) Try.func5
    (ChangeSpec.witness6 (enc := enc) (C := Try.checked) false ⟨#[], #[.agg #[.int .i64 0, .slice none 0 0, .string ByteArray.empty], .agg #[.int .i64 0, .int .i64 0, .int .i64 0], .agg #[.int .i64 0, .int .i64 0]], []⟩ 8 (by kernel_rfl) (by kernel_rfl) (by kernel_rfl) (by kernel_rfl)) ?_
  intro W base args ds gs before hval0 hW hcnd _
  have hval : ∀ (j : Nat) t v, Try.f5.params[j]? = some t → args[j]? = some v → Value.okWide Try.prog W .any base t v := hval0
  have hW' := hW
  obtain ⟨p, q, hA0, hV, rfl, hfz, hnd⟩ := hW
  have hA : DataW.TrodAll enc Try.prog W 0 (fun _ => true) true Try.f5.params.toList args.toList ds p := hA0
  rw [Try.params5] at hA hval
  obtain ⟨v0, vs0, d0, ds0, p0, q0, hargs, rfl, rfl, h0, r0⟩ := trodAll_cons hA
  obtain ⟨v1, vs1, d1, ds1, p1, q1, rfl, rfl, rfl, h1, r1⟩ := trodAll_cons r0
  obtain ⟨v2, vs2, d2, ds2, p2, q2, rfl, rfl, rfl, h2, r2⟩ := trodAll_cons r1
  obtain ⟨rfl, rfl, rfl⟩ := trodAll_nil r2
  obtain rfl : args = #[v0, v1, v2] := by cases args; simp_all
  obtain ⟨rfl, rfl⟩ := trodVars_none hV
  have k0 := h0
  have lt0 : ∀ x ∈ p0, x.block < W.heap.size := by obtain ⟨m, hm⟩ := k0; exact DataW.trod_lt m _ _ _ hm
  obtain ⟨cs0, rfl, l0, L0⟩ := flatN_of (n := 3) (ls := [(0, .inl .i64), (1, .inr (.inr .u32)), (2, .inr (.inl true))]) (by kernel_rfl) (by kernel_rfl) (agg_of_struct Try.underlying39 (hval 0 39 v0 rfl rfl)) h0
  obtain ⟨a0x0, e0x0, w0x0⟩ := lf_int (L0 (0, .inl .i64) (by simp))
  obtain ⟨a0x1, len0x1, cap0x1, z0x1, e0x1, w0x1⟩ := lf_ints (L0 (1, .inr (.inr .u32)) (by simp))
  obtain ⟨a0x2, e0x2, w0x2⟩ := lf_str (L0 (2, .inr (.inl true)) (by simp))
  obtain rfl : cs0 = [.int .i64 a0x0, .slice a0x1 len0x1 cap0x1, .string a0x2] := list_is l0 rfl (by intro i hi; match i, hi with | 0, _ => exact e0x0 | 1, _ => exact e0x1 | 2, _ => exact e0x2)
  have k1 := h1
  have lt1 : ∀ x ∈ p1, x.block < W.heap.size := by obtain ⟨m, hm⟩ := k1; exact DataW.trod_lt m _ _ _ hm
  obtain ⟨cs1, rfl, l1, L1⟩ := flat_of (n := 3) (ls := [(0, .inl .i64), (1, .inl .i64), (2, .inl .i64)]) (by kernel_rfl) (by kernel_rfl) (agg_of_array Try.underlying44 (hval 1 44 v1 rfl rfl)) h1
  obtain ⟨a1x0, e1x0, w1x0⟩ := leaf_int (L1 (0, .inl .i64) (by simp))
  obtain ⟨a1x1, e1x1, w1x1⟩ := leaf_int (L1 (1, .inl .i64) (by simp))
  obtain ⟨a1x2, e1x2, w1x2⟩ := leaf_int (L1 (2, .inl .i64) (by simp))
  obtain rfl : cs1 = [.int .i64 a1x0, .int .i64 a1x1, .int .i64 a1x2] := list_is l1 rfl (by intro i hi; match i, hi with | 0, _ => exact e1x0 | 1, _ => exact e1x1 | 2, _ => exact e1x2)
  have k2 := h2
  have lt2 : ∀ x ∈ p2, x.block < W.heap.size := by obtain ⟨m, hm⟩ := k2; exact DataW.trod_lt m _ _ _ hm
  obtain ⟨cs2, rfl, l2, L2⟩ := flat_of (n := 2) (ls := [(0, .inl .i64), (1, .inl .i64)]) (by kernel_rfl) (by kernel_rfl) (agg_of_array Try.underlying45 (hval 2 45 v2 rfl rfl)) h2
  obtain ⟨a2x0, e2x0, w2x0⟩ := leaf_int (L2 (0, .inl .i64) (by simp))
  obtain ⟨a2x1, e2x1, w2x1⟩ := leaf_int (L2 (1, .inl .i64) (by simp))
  obtain rfl : cs2 = [.int .i64 a2x0, .int .i64 a2x1] := list_is l2 rfl (by intro i hi; match i, hi with | 0, _ => exact e2x0 | 1, _ => exact e2x1)
  clear hA0 hval0
  refine (walk a0x0 a0x1 len0x1 cap0x1 z0x1 a0x2 a1x0 a1x1 a1x2 a2x0 a2x1 W w0x0 w0x1 w0x2 w1x0 w1x1 w1x2 w2x0 w2x1).mono fun e W' ⟨he, bel⟩ => ?_
  subst he
  exact ⟨_, rfl, _, _, _, [], _, [], hW', trodAll_mk1 (shut_bool Try.underlying4 _), (trodAll_cons_mk (Below.trod laidOut (by kernel_rfl) (of_decide_eq_true (by kernel_rfl)) k0 bel lt0) (trodAll_cons_mk (Below.trod laidOut (by kernel_rfl) (of_decide_eq_true (by kernel_rfl)) k1 bel lt1) (trodAll_cons_mk (Below.trod laidOut (by kernel_rfl) (of_decide_eq_true (by kernel_rfl)) k2 bel lt2) trodAll_mk0))), rfl, bel.frame _, fun h => by cases h⟩

theorem over : Rows.optionCountsRow.holds Try.pinned (OpenSpec.ofChange Rows.optionCountsSpec) :=
  OpenClaim.holds_of_wide 5 Try.f5 rfl rfl rfl rfl rfl rfl rfl ⟨rfl, rfl, rfl, rfl, rfl⟩ rfl rfl rfl rfl rfl (by kernel_rfl) Try.func5 (by kernel_rfl)
    (of_decide_eq_true (by kernel_rfl)) (by unfold Func.isWrapper; first | (rw [if_pos (by decide +kernel)]; kernel_rfl) | (rw [if_neg (by decide +kernel)]; exact ⟨rfl, rfl⟩))
    (fun os started H enc _ => lifted os started H enc)
end optionCounts
theorem optionCounts_holds : Rows.OptionCountsSaid := optionCounts.over
end Go.Proofs.Ytelohhjmhgiboaa
