/- For every rate, every burst and every list of sizes: of the first forty sizes, each one let go of a bucket, empty at first, when it may be: what is let go from any of their times to any later one of them is at most the burst, and the rate by the time between; and the chapter's example holds: PacerBounds returns true and changes nothing that was there. No conditions. -/
import Derived.Test.YtimipikabedjnaaKit
import Derived.Test.YtimipikabedjnaaPacH
import Derived.Deep.CutBlock
namespace Go.Proofs.Ytimipikabedjnaa
namespace pacerBounds
open Go.ChangeShapes Go.WideShapes Go.ChangeAt Go.RowKit
open Go.ChangeMaps (open_string shut_string)
set_option linter.unusedVariables false

def PbI (w : World) (R U : Int) (len gh : Nat) (vn va vs vi : Value) (wr : World) : Prop :=
  ∃ (k : Nat) (ats sents : List Int) (L N : Int), vi = .int .i64 (k : Int) ∧ vn = .int .i64 N ∧ k ≤ len ∧ k ≤ 40 ∧ len - k = gh ∧ PcPl R U ats sents L N k ∧ PlP w wr ⟨R, U, L, N⟩ va vs ats sents
def PbE (w : World) (R U : Int) (va vs : Value) (wr : World) : Prop :=
  ∃ (k : Nat) (ats sents : List Int) (L N : Int), k ≤ 40 ∧ PcPl R U ats sents L N k ∧ PlP w wr ⟨R, U, L, N⟩ va vs ats sents
def PbO (w : World) (c : Pc) (va vs : Value) (ats sents : List Int) (n gh : Nat) (vi : Value) (wr : World) : Prop :=
  ∃ i : Nat, vi = .int .i64 (i : Int) ∧ i ≤ n ∧ n - i = gh ∧ PlP w wr c va vs ats sents
def PbJ (w : World) (c : Pc) (va vs : Value) (ats sents : List Int) (n i gh : Nat) (vt vj : Value) (wr : World) : Prop :=
  ∃ j : Nat, vj = .int .i64 (j : Int) ∧ vt = .int .i64 (psP sents j - psP sents i) ∧ i ≤ j ∧ j ≤ n ∧ n - j = gh ∧ PlP w wr c va vs ats sents
theorem formP {w : World} {base n : Nat} {v : Value} {zs : List Int} (h : OwnP w base v zs) (hn : zs.length = n) : ∃ A c, v = .slice A n c ∧ (0 < n → ∃ g, A = some ⟨g, 0, none⟩) := by
  rcases h.form with ⟨rfl, rfl⟩ | ⟨g, c, rfl⟩
  · simp at hn
    subst hn
    exact ⟨none, 0, rfl, fun h => by omega⟩
  · rw [hn]
    exact ⟨_, c, rfl, fun _ => ⟨g, rfl⟩⟩
theorem own : ownKnob Try.prog.godebug = none := by kernel_rfl
theorem laidOut : laidOutB Try.prog = true := by kernel_rfl

set_option maxHeartbeats 4000000 in
set_option maxRecDepth 100000 in
theorem walk (a0 : Int) (a1 : Int) (a2 : Option Addr) (len2 cap2 : Nat) (z2 : List Int) (w : World) (w0 : (Lit.int .u32 a0).wf = true) (w1 : (Lit.int .u16 a1).wf = true) (w2 : IsRow .u16 w a2 len2 cap2 z2) :
    Calls Try.prog 6 #[.int .u32 a0, .int .u16 a1, .slice a2 len2 cap2] w fun e w' => e = .returned (.bool true) ∧ Below w.heap.size w w' := by
  have h0 := bounds_u32 w0
  have h1 := bounds_u16 w1
  have HX := Lib.hid w2
  obtain ⟨R, hR⟩ : ∃ R, a0 + 1 = R := ⟨_, rfl⟩
  obtain ⟨U, hU⟩ : ∃ U, a1 + 1 = U := ⟨_, rfl⟩
  have bR : 1 ≤ R ∧ R ≤ 4294967296 := by omega
  have bU : 1 ≤ U ∧ U ≤ 65536 := by omega
  have S := Lib.hid (plp_start w ⟨R, U, 0, 0⟩)
  have PS := Lib.hid (pcPl_start R bU.1)
  clear w0 w1 w2
  go_enter Try.func6, Try.ntmps6
  go_upto_block 0 with fail
  go_cut [9, 10] (fun va vs wx => PbE w R U va vs wx)
  case first =>
    go_wp2_with fail
    go_loopg [8, 9, 10, 11] len2 (fun gh vn va vs vi wr => PbI w R U len2 gh vn va vs vi wr)
    case atStart => exact ⟨0, [], [], 0, 0, rfl, rfl, Nat.zero_le _, by omega, rfl, PS.out, S.out⟩
    case round =>
      clear S PS
      obtain ⟨k, ats, sents, L, N, rfl, rfl, hk, hk4, hgh, hp, hd⟩ := hrel
      have HP := Lib.hid hp
      have HD := Lib.hid hd
      clear hp hd
      by_cases hlt : k < len2
      · have i0 : (0 : Int) ≤ (k : Int) := by omega
        have i1 : (k : Int) < (len2 : Int) := by omega
        by_cases h5 : k < 40
        · have i2 : (k : Int) < 40 := by omega
          obtain ⟨bl, off, rfl, e0, hbl, s0⟩ := row_at HX.out (i := k) hlt
          replace e0 := cell_low HD.out.low hbl e0
          have hs := bounds_u16 s0
          clear s0
          generalize z2[k]?.getD 0 = z at *
          obtain ⟨s, hms⟩ : ∃ s, min z U = s := ⟨_, rfl⟩
          have bs : 0 ≤ s ∧ s ≤ U := by omega
          obtain ⟨m1, m2, m3⟩ := minP_is hms
          obtain ⟨N1, L1, hW, hS, hP1, bN1⟩ := pcPl_next HP.out bR bU h5 bs
          have HP1 := Lib.hid hP1
          have WN : Hid (∀ w, Calls Try.prog 12 #[.agg #[.int .i64 R, .int .i64 U, .int .i64 L, .int .i64 N], .int .i64 N, .int .i64 s] w fun e w' => e = .returned (.int .i64 N1) ∧ Below w.heap.size w w') := Lib.hid (fun w => by
            have h := when23_any ⟨R, U, L, N⟩ N s w
            rwa [hW] at h)
          have SP : Hid (∀ w, Calls Try.prog 9 #[.agg #[.int .i64 R, .int .i64 U, .int .i64 L, .int .i64 N], .int .i64 N1, .int .i64 s] w fun e w' => e = .returned (.agg #[.int .i64 R, .int .i64 U, .int .i64 L1, .int .i64 N1]) ∧ Below w.heap.size w w') := Lib.hid (fun w => by
            have h := spend23_any ⟨R, U, L, N⟩ N1 s w
            unfold PcIs at h
            rwa [hS] at h)
          have gb : ¬ 35184372088832 < N1 := by omega
          have la := HP.out.la
          have lb := HP.out.ls
          have HZ1 : Hid (ats.length + 1 = k + 1) := Lib.hid (by rw [la])
          have HZ2 : Hid (sents.length + 1 = k + 1) := Lib.hid (by rw [lb])
          have hz3 : k + 1 ≤ 1000000000 := by omega
          clear hP1 hW hS hms la lb
          go_upto_region 7 with fail
          have c1 := HD.out.blk.cell 1 rfl
          go_quiet (fail)
          have HD2 := Lib.hid (HD.out.drawN nq)
          clear e0 c1 HD m1 m2 m3
          generalize wr.drewN nq = wx at *
          have c0 := HD2.out.blk.cell 0 rfl
          have c1 := HD2.out.blk.cell 1 rfl
          have c2 := HD2.out.blk.cell 2 rfl
          have c3 := HD2.out.blk.cell 3 rfl
          go_upto_region 12 with (first
            | (go_at_call 12; refine (WN.out _).mono ?_; rintro e w3 ⟨rfl, B3⟩
               have HD3 := Lib.hid (HD2.out.kept B3)
               have d0 := HD3.out.blk.cell 0 rfl; have d1 := HD3.out.blk.cell 1 rfl; have d2 := HD3.out.blk.cell 2 rfl; have d3 := HD3.out.blk.cell 3 rfl)
            | (go_at_call 9; refine (SP.out _).mono ?_; rintro e w4 ⟨rfl, B4⟩
               have HD4 := Lib.hid (HD3.out.kept B4)
               have HD5 := Lib.hid (HD4.out.setC ⟨R, U, L1, N1⟩)
               have h0 := HD4.out.blk.cell 0 rfl; have h1 := HD4.out.blk.cell 1 rfl; have h2 := HD4.out.blk.cell 2 rfl; have h3 := HD4.out.blk.cell 3 rfl; have f0 := HD4.out.blk.frozen 0; have f1 := HD4.out.blk.frozen 1; have f2 := HD4.out.blk.frozen 2; have f3 := HD4.out.blk.frozen 3))
          obtain ⟨W5, hW5⟩ : ∃ W5, (((w4.setCell ⟨w.heap.size, 0, none⟩ (.int .i64 R)).setCell ⟨w.heap.size, 1, none⟩ (.int .i64 U)).setCell ⟨w.heap.size, 2, none⟩ (.int .i64 L1)).setCell ⟨w.heap.size, 3, none⟩ (.int .i64 N1) = W5 := ⟨_, rfl⟩
          replace HD5 : Hid (PlP w W5 ⟨R, U, L1, N1⟩ u9 u10 ats sents) := Lib.hid (by rw [← hW5]; exact HD5.out)
          rw [hW5]
          clear hW5 c0 c1 c2 c3 d0 d1 d2 d3 h0 h1 h2 h3 f0 f1 f2 f3 HD2 HD3 HD4 B3 B4 WN SP
          have hb5 : w.heap.size + 1 ≤ W5.heap.size := by have := HD5.out.blk.lt; omega
          go_upto_region 13 with (first
            | (at_builtin; refine wp_pushK elP23 (by rfl) _ _ (by rfl) (w.heap.size + 1) _ ats N1 _ 1 (by rfl) (by rfl) ((At.new W5 [.int .i64 N1] _).cell 0 rfl) (OwnK.alloc HD5.out.ra _) (k + 1) HZ1.out hz3 (alloc_le hb5 _) _ rfl ?_; intro gA capA wA OA GA hatA hltA))
          have HA := Lib.hid (plp_a HD5.out OA GA hatA)
          clear HD5 OA GA hatA hltA hb5
          have hb6 : w.heap.size + 1 ≤ wA.heap.size := by have := HA.out.blk.lt; omega
          go_wp2_with (first
            | (at_builtin; refine wp_pushK elP23 (by rfl) _ _ (by rfl) (w.heap.size + 1) _ sents s _ 1 (by rfl) (by rfl) ((At.new wA [.int .i64 s] _).cell 0 rfl) (OwnK.alloc HA.out.rb _) (k + 1) HZ2.out hz3 (alloc_le hb6 _) _ rfl ?_; intro gB capB wB OB GB hatB hltB))
          have HB := plp_b HA.out OB GB hatB
          go_roundg (len2 - (k + 1))
          case measure => omega
          case rel => exact ⟨k + 1, _, _, L1, N1, by go_num, rfl, by omega, by omega, rfl, HP1.out, HB⟩
        · have i2 : ¬ (k : Int) < 40 := by omega
          go_wp2_with fail
          go_meet
          exact ⟨k, ats, sents, L, N, hk4, HP.out, HD.out⟩
      · have i1 : ¬ (k : Int) < (len2 : Int) := by omega
        go_wp2_with fail
        go_meet
        exact ⟨k, ats, sents, L, N, hk4, HP.out, HD.out⟩
  case rest =>
    clear S PS HX
    obtain ⟨n, ats, sents, L, N, hn4, hp, hd⟩ := hcut
    obtain ⟨A, cA, hA, nA⟩ := formP hd.ra hp.la
    obtain ⟨B, cB, hB, nB⟩ := formP hd.rb hp.ls
    subst hA
    subst hB
    have HP := Lib.hid hp
    have HD := Lib.hid hd
    have HNA := Lib.hid nA
    have HNB := Lib.hid nB
    clear hp hd nA nB
    go_wp2_with fail
    go_loopg [62] n (fun gh vi wr => PbO w ⟨R, U, L, N⟩ (.slice A n cA) (.slice B n cB) ats sents n gh vi wr)
    case atStart => exact ⟨0, rfl, Nat.zero_le _, rfl, HD.out⟩
    case round =>
      clear HD
      obtain ⟨i, rfl, hi, hgh, hd⟩ := hrel
      have HD := Lib.hid hd
      clear hd
      have j0 : (0 : Int) ≤ (i : Int) := by omega
      by_cases hlt : i < n
      · have j1 : (i : Int) < (n : Int) := by omega
        generalize wr = wo at *
        go_wp2_with fail
        go_loopg [14, 15] (n - i) (fun gh vt vj wr => PbJ w ⟨R, U, L, N⟩ (.slice A n cA) (.slice B n cB) ats sents n i gh vt vj wr)
        case atStart => exact ⟨i, rfl, by rw [Int.sub_self], Nat.le_refl _, by omega, rfl, HD.out⟩
        case round =>
          clear HD
          obtain ⟨j, rfl, rfl, hij, hj, hgj, hd⟩ := hrel
          have HD := Lib.hid hd
          clear hd
          have k0 : (0 : Int) ≤ (j : Int) := by omega
          by_cases hlj : j < n
          · have k1 : (j : Int) < (n : Int) := by omega
            obtain ⟨gA, rfl⟩ := HNA.out (by omega)
            obtain ⟨gB, rfl⟩ := HNB.out (by omega)
            obtain ⟨X, Bx, Y, Z, e1, e2, e3, e4, e5, e6, bX, bY, bZ, b1⟩ := pcPl_test HP.out bR.1 hn4 hij hlj
            have HE := Lib.hid e2
            clear e2
            have x1 := OwnK.cell HD.out.rb (i := j) (by rw [HP.out.ls]; exact hlj)
            have x2 := OwnK.cell HD.out.ra (i := j) (by rw [HP.out.la]; exact hlj)
            have x3 := OwnK.cell HD.out.ra (i := i) (by rw [HP.out.la]; exact hlt)
            have c0 := HD.out.blk.cell 0 rfl
            have c1 := HD.out.blk.cell 1 rfl
            generalize psP sents j - psP sents i = P at *
            generalize sents[j]?.getD 0 = sj at *
            generalize ats[j]?.getD 0 = tj at *
            generalize ats[i]?.getD 0 = ti at *
            go_upto_region 22 with fail
            go_quiet (fail)
            have HD2 := Lib.hid (HD.out.drawN nq)
            go_wp2_with fail
            go_roundg (n - (j + 1))
            case measure => omega
            case rel => exact ⟨j + 1, by go_num, by rw [HE.out], by omega, by omega, rfl, HD2.out⟩
          · obtain rfl : j = n := by omega
            have k1 : ¬ (j : Int) < (j : Int) := by omega
            go_wp2_with fail
            go_roundg (j - (i + 1))
            case measure => omega
            case rel => exact ⟨i + 1, by go_num, by omega, rfl, HD.out⟩
      · obtain rfl : i = n := by omega
        have j1 : ¬ (i : Int) < (i : Int) := by omega
        go_wp2_with (go_at_call 11; refine (works23_any _).mono ?_; rintro e w8 ⟨rfl, B8⟩)
        go_ret
        exact ⟨rfl, new_then HD.out.low B8⟩

set_option maxRecDepth 100000 in
theorem lifted (os : Os) (started : os.Started) (H : Type) (enc : TypeId × Value → H) :
    ReturnsInHanded {} Try.checked os 6 .any (Rows.pacerBoundsSpec.pre6 enc Try.prog Try.f6 Rows.pacerBoundsRow.domain false) (Rows.pacerBoundsSpec.post enc Try.prog Try.f6 false true false false) := by
  refine returnsInHanded_of_change (C := Try.checked) own started (by kernel_rfl) Try.func6
    (ChangeSpec.witness6 (enc := enc) (C := Try.checked) false ⟨#[], #[.int .u32 0, .int .u16 0, .slice none 0 0], []⟩ 8 (by kernel_rfl) (by kernel_rfl) (by kernel_rfl) (by kernel_rfl)) ?_
  intro W base args ds gs before hval0 hW hcnd _
  have hval : ∀ (j : Nat) t v, Try.f6.params[j]? = some t → args[j]? = some v → Value.okWide Try.prog W .any base t v := hval0
  have hW' := hW
  obtain ⟨p, q, hA0, hV, rfl, hfz, hnd⟩ := hW
  have hA : DataW.TrodAll enc Try.prog W 0 (fun _ => true) true Try.f6.params.toList args.toList ds p := hA0
  rw [Try.params6] at hA hval
  obtain ⟨v0, vs0, d0, ds0, p0, q0, hargs, rfl, rfl, h0, r0⟩ := trodAll_cons hA
  obtain ⟨v1, vs1, d1, ds1, p1, q1, rfl, rfl, rfl, h1, r1⟩ := trodAll_cons r0
  obtain ⟨v2, vs2, d2, ds2, p2, q2, rfl, rfl, rfl, h2, r2⟩ := trodAll_cons r1
  obtain ⟨rfl, rfl, rfl⟩ := trodAll_nil r2
  obtain rfl : args = #[v0, v1, v2] := by cases args; simp_all
  obtain ⟨rfl, rfl⟩ := trodVars_none hV
  have k0 := h0
  have lt0 : ∀ x ∈ p0, x.block < W.heap.size := by obtain ⟨m, hm⟩ := k0; exact DataW.trod_lt m _ _ _ hm
  obtain ⟨a0, rfl, _, _, w0⟩ := open_int Try.underlying32 (hval 0 32 v0 rfl rfl) h0
  have k1 := h1
  have lt1 : ∀ x ∈ p1, x.block < W.heap.size := by obtain ⟨m, hm⟩ := k1; exact DataW.trod_lt m _ _ _ hm
  obtain ⟨a1, rfl, _, _, w1⟩ := open_int Try.underlying36 (hval 1 36 v1 rfl rfl) h1
  have k2 := h2
  have lt2 : ∀ x ∈ p2, x.block < W.heap.size := by obtain ⟨m, hm⟩ := k2; exact DataW.trod_lt m _ _ _ hm
  obtain ⟨a2, len2, cap2, rfl⟩ := okWide_slice Try.underlying37 (hval 2 37 v2 rfl rfl)
  obtain ⟨z2, w2⟩ := isRow_of Try.underlying37 Try.underlying36 (by kernel_rfl) h2
  clear hA0 hval0
  refine (walk a0 a1 a2 len2 cap2 z2 W w0 w1 w2).mono fun e W' ⟨he, bel⟩ => ?_
  subst he
  exact ⟨_, rfl, _, _, _, [], _, [], hW', trodAll_mk1 (shut_bool Try.underlying4 _), (trodAll_cons_mk (Below.trod laidOut (by kernel_rfl) (of_decide_eq_true (by kernel_rfl)) k0 bel lt0) (trodAll_cons_mk (Below.trod laidOut (by kernel_rfl) (of_decide_eq_true (by kernel_rfl)) k1 bel lt1) (trodAll_cons_mk (Below.trod laidOut (by kernel_rfl) (of_decide_eq_true (by kernel_rfl)) k2 bel lt2) trodAll_mk0))), rfl, bel.frame _, fun h => by cases h⟩

theorem over : Rows.pacerBoundsRow.holds Try.pinned (OpenSpec.ofChange Rows.pacerBoundsSpec) :=
  OpenClaim.holds_of_wide 6 Try.f6 rfl rfl rfl rfl rfl rfl rfl ⟨rfl, rfl, rfl, rfl, rfl⟩ rfl rfl rfl rfl rfl (by kernel_rfl) Try.func6 (by kernel_rfl)
    (of_decide_eq_true (by kernel_rfl)) (by unfold Func.isWrapper; first | (rw [if_pos (by decide +kernel)]; kernel_rfl) | (rw [if_neg (by decide +kernel)]; exact ⟨rfl, rfl⟩))
    (fun os started H enc _ => lifted os started H enc)
end pacerBounds
theorem pacerBounds_holds : Rows.PacerBoundsSaid := pacerBounds.over
end Go.Proofs.Ytimipikabedjnaa
