/- For every Cwnd below 2^24, every mss up to 2^16 and every list of parts: a window that does not grow fast, of which the first sixty parts are acknowledged, one by one, as long as no more was acknowledged than it has bytes, at the full share, grows by at most a segment and one byte and never falls; and the chapter's example holds: RenoRound returns true and changes nothing that was there. No conditions. -/
import Derived.Test.YtbfghiocfognlaaKit
import Derived.Test.YtbfghiocfognlaaRenI
import Derived.Deep.CutBlock
namespace Go.Proofs.Ytbfghiocfognlaa
namespace renoRound
open Go.ChangeShapes Go.WideShapes Go.ChangeAt Go.RowKit
open Go.ChangeMaps (open_string shut_string)
set_option linter.unusedVariables false

/-- The window behind so many parts. -/
def RrI (w : World) (g : Nat) (c0 m : Int) (len gh : Nat) (vl vi : Value) (wr : World) : Prop :=
  ∃ (k : Nat) (l : Int) (d : Rn), vi = .int .i64 (k : Int) ∧ vl = .int .i64 l ∧ len - k = gh ∧ k ≤ len ∧ 0 ≤ l ∧ l ≤ c0 ∧ RnUp c0 m l d ∧ Blk wr g (rnV d) 23 ∧ Below w.heap.size w wr
def RrE (w : World) (g : Nat) (c0 m : Int) (wr : World) : Prop :=
  ∃ (l : Int) (d : Rn), 0 ≤ l ∧ RnUp c0 m l d ∧ Blk wr g (rnV d) 23 ∧ Below w.heap.size w wr
theorem own : ownKnob Try.prog.godebug = none := by kernel_rfl
theorem laidOut : laidOutB Try.prog = true := by kernel_rfl

set_option maxHeartbeats 4000000 in
set_option maxRecDepth 100000 in
theorem walk (a0 : Int) (a1 : Int) (a2 : Option Addr) (len2 cap2 : Nat) (z2 : List Int) (w : World) (w0 : (Lit.int .u32 a0).wf = true) (w1 : (Lit.int .u16 a1).wf = true) (w2 : IsRow .u16 w a2 len2 cap2 z2) :
    Calls Try.prog 5 #[.int .u32 a0, .int .u16 a1, .slice a2 len2 cap2] w fun e w' => e = .returned (.bool true) ∧ Below w.heap.size w w' := by
  have h0 := bounds_u32 w0
  have h1 := bounds_u16 w1
  have HX := Lib.hid w2
  clear w0 w1 w2
  obtain ⟨m, hm⟩ : ∃ m, a1 + 1 = m := ⟨_, rfl⟩
  have bm : 1 ≤ m ∧ m ≤ 65536 := by omega
  obtain ⟨q, hq⟩ : ∃ q, a0 % 16777216 = q := ⟨_, rfl⟩
  have bq : 0 ≤ q ∧ q < 16777216 := by omega
  have hq2 : a0.tmod 16777216 = q := by rw [Int.tmod_eq_emod_of_nonneg h0.1]; exact hq
  have hS : rnS m = m := clampP_in bm.1 bm.2
  obtain ⟨c0, hc0⟩ : ∃ c, rnC ⟨q, 0, 0⟩ m = c := ⟨_, rfl⟩
  have bc : m ≤ c0 ∧ c0 ≤ 16777216 := by
    rw [← hc0]
    unfold rnC clampI
    rw [hS]
    show m ≤ (if q < m ∨ _ then m else if _ < q then _ else q) ∧ (if q < m ∨ _ then m else if _ < q then _ else q) ≤ _
    split <;> (try split) <;> omega
  have IN : Hid (∀ w, Calls Try.prog 16 #[.agg #[.int .i64 q, .int .i64 0, .int .i64 0], .int .i64 m] w fun e w' => e = .returned (.agg #[.int .i64 c0, .int .i64 0, .int .i64 0]) ∧ Below w.heap.size w w') := Lib.hid (fun w => by
    rw [← hc0]
    exact within24_any ⟨q, 0, 0⟩ m w)
  clear hc0 hS
  go_enter Try.func5, Try.ntmps5
  go_upto_region 3 with (go_at_call 16; refine (IN.out _).mono ?_; rintro e w1 ⟨rfl, B1⟩)
  clear hq hq2 bq IN h0
  obtain ⟨g, hg⟩ : ∃ g, w1.heap.size = g := ⟨_, rfl⟩
  obtain ⟨W, hW⟩ : ∃ W, w1.alloc (.cells #[.int .i64 c0, .int .i64 0, .int .i64 0] 23) = W := ⟨_, rfl⟩
  have V : Hid (Blk W g (rnV ⟨c0, 0, 0⟩) 23) := Lib.hid (by rw [← hW]; exact Blk.newAt hg _ _)
  have L : Hid (Below w.heap.size w W) := Lib.hid (by rw [← hW]; exact new_alloc B1 _)
  have LG : Hid (w.heap.size ≤ g) := Lib.hid (by rw [← hg]; exact B1.size)
  rw [hW, hg]
  clear hW hg B1
  have d0 : W.cell? ⟨g, 0, none⟩ = some (.int .i64 c0) := V.out.cell 0 rfl
  go_upto_block 0 with fail
  clear d0
  go_cut [] (fun wx => RrE w g c0 m wx)
  case first =>
    go_wp2_with fail
    go_loopg [10, 11] len2 (fun gh vl vi wr => RrI w g c0 m len2 gh vl vi wr)
    case atStart => exact ⟨0, c0, ⟨c0, 0, 0⟩, rfl, rfl, by omega, Nat.zero_le _, by omega, Int.le_refl _, rnUp_start, V.out, L.out⟩
    case round =>
      clear V L
      obtain ⟨k, l, d, rfl, rfl, hgh, hk, hl, hlc, hu, hv, hL⟩ := hrel
      have HU := Lib.hid hu
      have HV := Lib.hid hv
      have HL := Lib.hid hL
      clear hu hv hL
      by_cases hlt : k < len2
      · have i0 : (0 : Int) ≤ (k : Int) := by omega
        have i1 : (k : Int) < (len2 : Int) := by omega
        by_cases h5 : k < 60
        · have i2 : (k : Int) < 60 := by omega
          by_cases h6 : 0 < l
          · obtain ⟨bl, off, rfl, e0, hbl, s0⟩ := row_at HX.out (i := k) hlt
            replace e0 := cell_kept HL.out e0
            have hs := bounds_u16 s0
            clear s0
            generalize z2[k]?.getD 0 = z at *
            obtain ⟨b, hb⟩ : ∃ b, min z l = b := ⟨_, rfl⟩
            have bb : 0 ≤ b ∧ b ≤ l ∧ b ≤ 65536 := by omega
            obtain ⟨m1, m2, m3⟩ := rnMin_is hb
            have HN := Lib.hid (HU.out.next bc.1 bc.2 bm hl bb)
            have GR : Hid (∀ w, Calls Try.prog 14 #[.agg #[.int .i64 d.c, .int .i64 d.t, .int .i64 d.k], .int .i64 b, .int .i64 m, .int .i64 1048576] w fun e w' => e = .returned (rnW (rnGrow d b m 1048576)) ∧ Below w.heap.size w w') := Lib.hid (fun w => grow24_any d b m 1048576 w)
            obtain ⟨f, hf⟩ : ∃ f, rnGrow d b m 1048576 = f := ⟨_, rfl⟩
            rw [hf] at HN GR
            unfold rnW at GR
            clear hf hb
            have c0 := HV.out.cell 0 rfl; have c1 := HV.out.cell 1 rfl; have c2 := HV.out.cell 2 rfl; have f0 := HV.out.frozen 0; have f1 := HV.out.frozen 1; have f2 := HV.out.frozen 2
            go_wp2_with (first
              | (go_at_call 14; refine (GR.out _).mono ?_; rintro e w2 ⟨rfl, B2⟩
                 have K := Lib.hid (HV.out.kept B2)
                 have V2 := Lib.hid (rn_set K.out f)
                 have L2 := Lib.hid (lowN3 (new_then HL.out B2) LG.out (.int .i64 f.c) (.int .i64 f.t) (.int .i64 f.k))
                 have k0 := K.out.cell 0 rfl; have k1 := K.out.cell 1 rfl; have k2 := K.out.cell 2 rfl; have g0 := K.out.frozen 0; have g1 := K.out.frozen 1; have g2 := K.out.frozen 2))
            go_roundg (len2 - (k + 1))
            case measure => omega
            case rel => exact ⟨k + 1, l - b, f, by go_num, rfl, rfl, by omega, by omega, by omega, HN.out, V2.out, L2.out⟩
          · go_wp2_with fail
            go_meet
            exact ⟨l, d, hl, HU.out, HV.out, HL.out⟩
        · have i2 : ¬ (k : Int) < 60 := by omega
          go_wp2_with fail
          go_meet
          exact ⟨l, d, hl, HU.out, HV.out, HL.out⟩
      · have i1 : ¬ (k : Int) < (len2 : Int) := by omega
        go_wp2_with fail
        go_meet
        exact ⟨l, d, hl, HU.out, HV.out, HL.out⟩
  case rest =>
    clear V L HX
    obtain ⟨l, d, hl, hu, hv, hL⟩ := hcut
    have ht := (hu.top (by omega) (by omega) hl).1
    have hc := hu.c
    have HL := Lib.hid hL
    have c0' := hv.cell 0 rfl
    clear hu hv hL hl
    go_wp2_with (go_at_call 12; refine (works24_any _).mono ?_; rintro e w8 ⟨rfl, B8⟩)
    go_ret
    exact ⟨rfl, new_then HL.out B8⟩

set_option maxRecDepth 100000 in
theorem lifted (os : Os) (started : os.Started) (H : Type) (enc : TypeId × Value → H) :
    ReturnsInHanded {} Try.checked os 5 .any (Rows.renoRoundSpec.pre6 enc Try.prog Try.f5 Rows.renoRoundRow.domain false) (Rows.renoRoundSpec.post enc Try.prog Try.f5 false true false false) := by
  refine returnsInHanded_of_change (C := Try.checked) own started (by kernel_rfl) Try.func5
    (ChangeSpec.witness6 (enc := enc) (C := Try.checked) false ⟨#[], #[.int .u32 0, .int .u16 0, .slice none 0 0], []⟩ 8 (by kernel_rfl) (by kernel_rfl) (by kernel_rfl) (by kernel_rfl)) ?_
  intro W base args ds gs before hval0 hW hcnd _
  have hval : ∀ (j : Nat) t v, Try.f5.params[j]? = some t → args[j]? = some v → Value.okWide Try.prog W .any base t v := hval0
  have hW' := hW
  obtain ⟨p, q, hA0, hV, rfl, hfz, hnd⟩ := hW
  have hA : DataW.TrodAll enc Try.prog W 0 (fun _ => true) true Try.f5.params.toList args.toList ds p := hA0
  rw [Try.params5] at hA hval
  obtain ⟨v0, vs0, d0, ds0, p0, q0, hargs, rfl, rfl, h0, r0⟩ := trodAll_cons hA
  obtain ⟨v1, vs1, d1, ds1, p1, q1, rfl, rfl, rfl, h1, r1⟩ := trodAll_cons r0
  obtain ⟨v2, vs2, d2, ds2, p2, q2, rfl, rfl, rfl, h2, r2⟩ := trodAll_cons r1
  obtain ⟨rfl, rfl, rfl⟩ := trodAll_nil r2
  obtain rfl : args = #[v0, v1, v2] := by cases args; simp_all
  obtain ⟨rfl, rfl⟩ := trodVars_none hV
  have k0 := h0
  have lt0 : ∀ x ∈ p0, x.block < W.heap.size := by obtain ⟨m, hm⟩ := k0; exact DataW.trod_lt m _ _ _ hm
  obtain ⟨a0, rfl, _, _, w0⟩ := open_int Try.underlying33 (hval 0 33 v0 rfl rfl) h0
  have k1 := h1
  have lt1 : ∀ x ∈ p1, x.block < W.heap.size := by obtain ⟨m, hm⟩ := k1; exact DataW.trod_lt m _ _ _ hm
  obtain ⟨a1, rfl, _, _, w1⟩ := open_int Try.underlying34 (hval 1 34 v1 rfl rfl) h1
  have k2 := h2
  have lt2 : ∀ x ∈ p2, x.block < W.heap.size := by obtain ⟨m, hm⟩ := k2; exact DataW.trod_lt m _ _ _ hm
  obtain ⟨a2, len2, cap2, rfl⟩ := okWide_slice Try.underlying35 (hval 2 35 v2 rfl rfl)
  obtain ⟨z2, w2⟩ := isRow_of Try.underlying35 Try.underlying34 (by kernel_rfl) h2
  clear hA0 hval0
  refine (walk a0 a1 a2 len2 cap2 z2 W w0 w1 w2).mono fun e W' ⟨he, bel⟩ => ?_
  subst he
  exact ⟨_, rfl, _, _, _, [], _, [], hW', trodAll_mk1 (shut_bool Try.underlying4 _), (trodAll_cons_mk (Below.trod laidOut (by kernel_rfl) (of_decide_eq_true (by kernel_rfl)) k0 bel lt0) (trodAll_cons_mk (Below.trod laidOut (by kernel_rfl) (of_decide_eq_true (by kernel_rfl)) k1 bel lt1) (trodAll_cons_mk (Below.trod laidOut (by kernel_rfl) (of_decide_eq_true (by kernel_rfl)) k2 bel lt2) trodAll_mk0))), rfl, bel.frame _, fun h => by cases h⟩

theorem over : Rows.renoRoundRow.holds Try.pinned (OpenSpec.ofChange Rows.renoRoundSpec) :=
  OpenClaim.holds_of_wide 5 Try.f5 rfl rfl rfl rfl rfl rfl rfl ⟨rfl, rfl, rfl, rfl, rfl⟩ rfl rfl rfl rfl rfl (by kernel_rfl) Try.func5 (by kernel_rfl)
    (of_decide_eq_true (by kernel_rfl)) (by unfold Func.isWrapper; first | (rw [if_pos (by decide +kernel)]; kernel_rfl) | (rw [if_neg (by decide +kernel)]; exact ⟨rfl, rfl⟩))
    (fun os started H enc _ => lifted os started H enc)
end renoRound
theorem renoRound_holds : Rows.RenoRoundSaid := renoRound.over
end Go.Proofs.Ytbfghiocfognlaa
