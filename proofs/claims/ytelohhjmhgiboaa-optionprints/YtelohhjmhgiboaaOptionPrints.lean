/- For every list of options and every kind: of its first twelve options (their first twelve numbers, the first sixty bytes of their texts) option.Print tells the bytes and the error that the document's Print tells, option.Find finds the first one of that kind, or none, and the chapter's example holds: OptionPrints returns true and changes nothing that was there. No conditions. -/
import Derived.Test.YtelohhjmhgiboaaKit
import Derived.Test.YtelohhjmhgiboaaOptJ
import Derived.Test.YtelohhjmhgiboaaOptK
import Derived.Test.YtelohhjmhgiboaaOptN
import Derived.Test.YtelohhjmhgiboaaOptR
import Derived.Test.YtelohhjmhgiboaaKitN
namespace Go.Proofs.Ytelohhjmhgiboaa
namespace optionPrints
open Go.ChangeShapes Go.WideShapes Go.ChangeAt Go.RowKit
open Go.ChangeMaps (open_string shut_string)
set_option linter.unusedVariables false

theorem first_of (xs : List OC) (kind : Int) : ∀ N : Nat, (∀ i, i < N → (nthO xs i).o.k ≠ kind) ∨ ∃ i, i < N ∧ (∀ j, j < i → (nthO xs j).o.k ≠ kind) ∧ (nthO xs i).o.k = kind
  | 0 => .inl fun i hi => absurd hi (Nat.not_lt_zero _)
  | N + 1 => by
    rcases first_of xs kind N with h | ⟨i, hi, h1, h2⟩
    · by_cases e : (nthO xs N).o.k = kind
      · exact .inr ⟨N, by omega, h, e⟩
      · refine .inl fun i hi => ?_
        by_cases hN : i = N
        · subst hN; exact e
        · exact h i (by omega)
    · exact .inr ⟨i, by omega, h1, h2⟩
def LpI (W : World) (I gh : Nat) (vi : Value) (wr : World) : Prop := ∃ i : Nat, vi = .int .i64 (i : Int) ∧ I - i = gh ∧ i ≤ I ∧ W = wr
theorem s_kept {W w1 : World} {p q r p' q' r' : Addr} {a b c a' b' c' : Value} {X Y P Q : Prop} (hb : Below W.heap.size W w1) (h : W.cell? p = some a ∧ W.cell? q = some b ∧ W.cell? r = some c ∧ W.cell? p' = some a' ∧ W.cell? q' = some b' ∧ W.cell? r' = some c' ∧ X ∧ Y) (hP : P) (hQ : Q) : w1.cell? p = some a ∧ w1.cell? q = some b ∧ w1.cell? r = some c ∧ w1.cell? p' = some a' ∧ w1.cell? q' = some b' ∧ w1.cell? r' = some c' ∧ P ∧ Q :=
  ⟨cell_kept hb h.1, cell_kept hb h.2.1, cell_kept hb h.2.2.1, cell_kept hb h.2.2.2.1, cell_kept hb h.2.2.2.2.1, cell_kept hb h.2.2.2.2.2.1, hP, hQ⟩
theorem has_none (w : World) : HasO w ⟨⟨0, [], ByteArray.empty⟩, none, 0, 0⟩ := ⟨rfl, ⟨0, .inl rfl⟩, fun z hz => (by cases hz), by decide, by decide, Nat.le_refl _⟩
theorem own : ownKnob Try.prog.godebug = none := by kernel_rfl
theorem laidOut : laidOutB Try.prog = true := by kernel_rfl

set_option maxHeartbeats 4000000 in
set_option maxRecDepth 100000 in
theorem walk (a0 : Option Addr) (len0 cap0 : Nat) (a1 : Int) (w : World) (w0 : IsRowsN w a0 len0 cap0 3 [(0, .inl .i64), (1, .inr (.inr .u32)), (2, .inr (.inl true))]) (w1 : (Lit.int .i64 a1).wf = true) :
    Calls Try.prog 4 #[.slice a0 len0 cap0, .int .i64 a1] w fun e w' => e = .returned (.bool true) ∧ Below w.heap.size w w' := by
  have hS := Lib.hid (srcO_of w0)
  have hlen : len0 ≤ maxLen := by
    rcases w0 with ⟨_, h, _⟩ | ⟨_, _, h1, h2, _⟩
    · rw [h]; exact Nat.zero_le _
    · omega
  obtain ⟨N, hN⟩ : ∃ N, N = min len0 12 := ⟨_, rfl⟩
  have HF := Lib.hid (few_any a0 len0 cap0 N w hS.out hN hlen)
  have n12 : N ≤ 12 := by omega
  clear w0 hS hN hlen w1
  go_enter Try.func4, Try.ntmps4
  go_upto_region 2 with (first
    | (go_at_call 11; refine HF.out.mono ?_; rintro e w1 ⟨A1, c1, xs, rfl, hx, hc, B1⟩))
  have HX1 := Lib.hid hx
  clear hx
  go_upto_region 4 with (first
    | (go_at_call 12; refine (print_any A1 N c1 xs w1 HX1.out (by omega)).mono ?_; rintro e w2 k2; obtain ⟨A2, n2, c2, rfl, T2, B2⟩ := k2.txt)
    | (go_at_call 13; refine (refPrint_any A1 N c1 xs w2 (HX1.out.kept B2) (by omega) hc).mono ?_; rintro e w3 k3; obtain ⟨A3, n3, c3, rfl, T3, B3⟩ := k3.txt))
  generalize strOfNums (prO (xs.map OC.o)) = T at *
  generalize chkO [] (xs.map OC.o) 0 = q at *
  have TX := Lib.hid (fun w4 (B : Below w3.heap.size w3 w4) => T2 w4 (new_then B3 B))
  have TY := Lib.hid T3
  have L3 := new_then (new_then B1 B2) B3
  have HX := Lib.hid ((HX1.out.kept B2).kept B3)
  clear HX1 T2 T3 B1 B2 B3 HF hc
  rcases first_of xs a1 N with hno | ⟨I, hI, hbef, hat⟩
  · have HNo := Lib.hid hno
    clear hno
    go_upto_region 5 with (first
      | (go_at_call 14; refine (find_no A1 N c1 a1 xs w3 HX.out (by omega) HNo.out).mono ?_; rintro e w4 ⟨rfl, B4⟩))
    have HX4 := Lib.hid ((HX.out.kept B4).kept (new_alloc (new_refl w4) (.cells #[.int .i64 0, .slice none 0 0, .string ByteArray.empty] 39)))
    have O4 := Blk.new w4 [.int .i64 0, .slice none 0 0, .string ByteArray.empty] 39
    have L4 := new_alloc (new_then L3 B4) (.cells #[.int .i64 0, .slice none 0 0, .string ByteArray.empty] 39)
    have tx := TX.out _ (new_alloc B4 (.cells #[.int .i64 0, .slice none 0 0, .string ByteArray.empty] 39))
    have ty := TY.out _ (new_alloc B4 (.cells #[.int .i64 0, .slice none 0 0, .string ByteArray.empty] 39))
    clear HX TX TY B4 L3
    generalize w4.alloc (.cells #[.int .i64 0, .slice none 0 0, .string ByteArray.empty] 39) = W at *
    generalize w4.heap.size = ob at *
    have o0 := O4.cell 0 rfl
    have o1 := O4.cell 1 rfl
    have o2 := O4.cell 2 rfl
    clear O4
    go_wp2_with fail
    go_loopg [32] N (fun gh vi wr => LpI W N gh vi wr)
    case atStart => exact ⟨0, rfl, rfl, by omega, rfl⟩
    case round =>
      obtain ⟨i, rfl, rfl, hi, rfl⟩ := hrel
      by_cases hlt : i < N
      · have k0 : (0 : Int) ≤ (i : Int) := by omega
        have k1 : (i : Int) < (N : Int) := by omega
        obtain ⟨g, off, rfl, ⟨c0, _, _⟩, _, _⟩ := HX4.out.at hlt
        have hk := HNo.out i hlt
        generalize nthO xs i = x at c0 hk
        have ek : (x.o.k == a1) = false := by simp [hk]
        go_wp2_with fail
        go_roundg (N - (i + 1))
        case measure => omega
        case rel => exact ⟨i + 1, by go_num, rfl, by omega, rfl⟩
      · obtain rfl : i = N := by omega
        go_wp2_with (first
          | (go_at_call 15; refine (same_any ⟨⟨0, [], ByteArray.empty⟩, none, 0, 0⟩ ⟨⟨0, [], ByteArray.empty⟩, none, 0, 0⟩ _ (has_none _) (has_none _) rfl).mono ?_; rintro e w5 ⟨rfl, B5⟩)
          | (go_at_call 10; refine (works12_any _).mono ?_; rintro e w6 ⟨rfl, B6⟩))
        go_ret
        exact ⟨rfl, new_then (new_then L4 B5) B6⟩
  · have HBef := Lib.hid hbef
    have HAt := Lib.hid hat
    clear hbef hat
    go_upto_region 5 with (first
      | (go_at_call 14; refine (find_yes A1 N c1 a1 xs w3 HX.out (by omega) I hI HBef.out HAt.out).mono ?_; rintro e w4 ⟨A4, c4, rfl, H4, B4⟩))
    obtain ⟨y, hy⟩ : ∃ y, nthO xs I = y := ⟨_, rfl⟩
    rw [hy] at H4 ⊢
    have O4 := Blk.new w4 [.int .i64 y.o.k, .slice A4 y.n c4, .string y.o.s] 39
    have L4 := new_alloc (new_then L3 B4) (.cells #[.int .i64 y.o.k, .slice A4 y.n c4, .string y.o.s] 39)
    have M4 := new_alloc (new_refl w4) (.cells #[.int .i64 y.o.k, .slice A4 y.n c4, .string y.o.s] 39)
    have HX4 := Lib.hid ((HX.out.kept B4).kept M4)
    have HY4 := Lib.hid (H4.kept M4)
    have KX := Lib.hid (fun w5 (B : Below (w4.alloc (.cells #[.int .i64 y.o.k, .slice A4 y.n c4, .string y.o.s] 39)).heap.size (w4.alloc (.cells #[.int .i64 y.o.k, .slice A4 y.n c4, .string y.o.s] 39)) w5) => TX.out w5 (new_then (new_then B4 M4) B))
    have KY := Lib.hid (fun w5 (B : Below (w4.alloc (.cells #[.int .i64 y.o.k, .slice A4 y.n c4, .string y.o.s] 39)).heap.size (w4.alloc (.cells #[.int .i64 y.o.k, .slice A4 y.n c4, .string y.o.s] 39)) w5) => TY.out w5 (new_then (new_then B4 M4) B))
    have HYK : Hid (y.o.k = a1) := Lib.hid (by rw [← hy]; exact HAt.out)
    have HYE := Lib.hid hy
    clear HX TX TY B4 L3 M4 H4 HAt hy
    generalize w4.alloc (.cells #[.int .i64 y.o.k, .slice A4 y.n c4, .string y.o.s] 39) = W at *
    generalize w4.heap.size = ob at *
    have o0 := O4.cell 0 rfl
    have o1 := O4.cell 1 rfl
    have o2 := O4.cell 2 rfl
    clear O4
    go_wp2_with fail
    go_loopg [32] I (fun gh vi wr => LpI W I gh vi wr)
    case atStart => exact ⟨0, rfl, rfl, by omega, rfl⟩
    case round =>
      obtain ⟨i, rfl, rfl, hi, rfl⟩ := hrel
      obtain ⟨g, off, rfl, T0, h0, g0⟩ := HX4.out.at (i := i) (by omega)
      have k0 : (0 : Int) ≤ (i : Int) := by omega
      have k1 : (i : Int) < (N : Int) := by omega
      by_cases hlt : i < I
      · have hk := HBef.out i hlt
        obtain ⟨c0, _, _⟩ := T0
        generalize nthO xs i = x at c0 hk h0
        have ek : (x.o.k == a1) = false := by simp [hk]
        clear h0
        go_wp2_with fail
        go_roundg (I - (i + 1))
        case measure => omega
        case rel => exact ⟨i + 1, by go_num, rfl, by omega, rfl⟩
      · obtain rfl : i = I := by omega
        rw [HYE.out] at T0 h0
        obtain ⟨y0, y1, y2⟩ := T0
        have ek : (y.o.k == a1) = true := by simp [HYK.out]
        have HH := Lib.hid h0
        clear h0
        go_upto_region 9 with (fail)
        have tx := KX.out W.drew (new_drew (new_refl W))
        have ty := KY.out W.drew (new_drew (new_refl W))
        go_region_held3 (fun w' => w'.cell? ⟨ob, 0, none⟩ = some (.int .i64 y.o.k) ∧ w'.cell? ⟨ob, 1, none⟩ = some (.slice A4 y.n c4) ∧ w'.cell? ⟨ob, 2, none⟩ = some (.string y.o.s) ∧ w'.cell? ⟨g, off + i * 3, none⟩ = some (.int .i64 y.o.k) ∧ w'.cell? ⟨g, off + i * 3 + 1, none⟩ = some (.slice y.a y.n y.c) ∧ w'.cell? ⟨g, off + i * 3 + 2, none⟩ = some (.string y.o.s) ∧ (convert 22 9 (.slice A2 n2 c2)).run Try.prog w' = .ok (.string T) w' ∧ (convert 22 9 (.slice A3 n3 c3)).run Try.prog w' = .ok (.string T) w')
          (first | go_keep | assumption | exact s_kept B16 (by assumption) (KX.out _ L5) (KY.out _ L5) | exact s_kept B16 ⟨by assumption, by assumption, by assumption, by assumption, by assumption, by assumption, tx, ty⟩ (KX.out _ L5) (KY.out _ L5))
          (first
            | (go_at_call 15; refine (same_any ⟨y.o, A4, y.n, c4⟩ y _ (HY4.out.drew 1) (HH.out.drew 1) rfl).mono ?_; rintro e w5 ⟨rfl, B16⟩; replace B16 := new_undrew B16; have L5 := B16)
            | (go_at_call 10; refine (works12_any _).mono ?_; rintro e w6 ⟨rfl, B6⟩; have L6 := new_then L5 B6; replace L5 := L6; replace B16 := B6))
        all_goals
          go_wp2_with fail
          go_ret
          exact ⟨rfl, new_then L4 L6⟩

set_option maxRecDepth 100000 in
theorem lifted (os : Os) (started : os.Started) (H : Type) (enc : TypeId × Value → H) :
    ReturnsInHanded {} Try.checked os 4 .any (Rows.optionPrintsSpec.pre6 enc Try.prog Try.f4 Rows.optionPrintsRow.domain false) (Rows.optionPrintsSpec.post enc Try.prog Try.f4 false true false false) := by
  refine returnsInHanded_of_change (C := Try.checked) own started (by kernel_rfl) Try.func4
    (ChangeSpec.witness6 (enc := enc) (C := Try.checked) false ⟨#[], #[.slice none 0 0, .int .i64 0], []⟩ 8 (by kernel_rfl) (by kernel_rfl) (by kernel_rfl) (by kernel_rfl)) ?_
  intro W base args ds gs before hval0 hW hcnd _
  have hval : ∀ (j : Nat) t v, Try.f4.params[j]? = some t → args[j]? = some v → Value.okWide Try.prog W .any base t v := hval0
  have hW' := hW
  obtain ⟨p, q, hA0, hV, rfl, hfz, hnd⟩ := hW
  have hA : DataW.TrodAll enc Try.prog W 0 (fun _ => true) true Try.f4.params.toList args.toList ds p := hA0
  rw [Try.params4] at hA hval
  obtain ⟨v0, vs0, d0, ds0, p0, q0, hargs, rfl, rfl, h0, r0⟩ := trodAll_cons hA
  obtain ⟨v1, vs1, d1, ds1, p1, q1, rfl, rfl, rfl, h1, r1⟩ := trodAll_cons r0
  obtain ⟨rfl, rfl, rfl⟩ := trodAll_nil r1
  obtain rfl : args = #[v0, v1] := by cases args; simp_all
  obtain ⟨rfl, rfl⟩ := trodVars_none hV
  have k0 := h0
  have lt0 : ∀ x ∈ p0, x.block < W.heap.size := by obtain ⟨m, hm⟩ := k0; exact DataW.trod_lt m _ _ _ hm
  obtain ⟨a0, len0, cap0, rfl⟩ := okWide_slice Try.underlying23 (hval 0 23 v0 rfl rfl)
  have w0 := isRowsN_of (n := 3) (ls := [(0, .inl .i64), (1, .inr (.inr .u32)), (2, .inr (.inl true))]) Try.underlying23 (by kernel_rfl) (by kernel_rfl) (by decide) h0
  have k1 := h1
  have lt1 : ∀ x ∈ p1, x.block < W.heap.size := by obtain ⟨m, hm⟩ := k1; exact DataW.trod_lt m _ _ _ hm
  obtain ⟨a1, rfl, _, _, w1⟩ := open_int Try.underlying3 (hval 1 3 v1 rfl rfl) h1
  clear hA0 hval0
  refine (walk a0 len0 cap0 a1 W w0 w1).mono fun e W' ⟨he, bel⟩ => ?_
  subst he
  exact ⟨_, rfl, _, _, _, [], _, [], hW', trodAll_mk1 (shut_bool Try.underlying4 _), (trodAll_cons_mk (Below.trod laidOut (by kernel_rfl) (of_decide_eq_true (by kernel_rfl)) k0 bel lt0) (trodAll_cons_mk (Below.trod laidOut (by kernel_rfl) (of_decide_eq_true (by kernel_rfl)) k1 bel lt1) trodAll_mk0)), rfl, bel.frame _, fun h => by cases h⟩

theorem over : Rows.optionPrintsRow.holds Try.pinned (OpenSpec.ofChange Rows.optionPrintsSpec) :=
  OpenClaim.holds_of_wide 4 Try.f4 rfl rfl rfl rfl rfl rfl rfl ⟨rfl, rfl, rfl, rfl, rfl⟩ rfl rfl rfl rfl rfl (by kernel_rfl) Try.func4 (by kernel_rfl)
    (of_decide_eq_true (by kernel_rfl)) (by unfold Func.isWrapper; first | (rw [if_pos (by decide +kernel)]; kernel_rfl) | (rw [if_neg (by decide +kernel)]; exact ⟨rfl, rfl⟩))
    (fun os started H enc _ => lifted os started H enc)
end optionPrints
theorem optionPrints_holds : Rows.OptionPrintsSaid := optionPrints.over
end Go.Proofs.Ytelohhjmhgiboaa
