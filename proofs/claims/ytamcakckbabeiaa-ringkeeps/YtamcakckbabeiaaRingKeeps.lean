/- For every list, every number and every number of turns ahead, of a row of the first sixty numbers of the list so many of the first are dropped, and then those are taken out that are odd, the others stay in order, and the list that was told ahead stays as it was; a nil row answers as the document says: RingKeeps returns true and changes nothing that was there. No conditions. -/
import Derived.Test.YtamcakckbabeiaaKit
import Derived.Test.YtamcakckbabeiaaWorks05
import Derived.Test.YtamcakckbabeiaaRingJ
import Derived.Deep.DeepCutAuto
namespace Go.Proofs.Ytamcakckbabeiaa
namespace ringKeeps
open Go.ChangeShapes Go.WideShapes Go.ChangeAt Go.RowKit
open Go.ChangeMaps (open_string shut_string)
set_option linter.unusedVariables false

def InvA (w : World) (M A gh : Nat) (vi : Value) (wr : World) : Prop := ∃ j : Nat, j ≤ A ∧ gh = A - j ∧ vi = .int .i64 (j : Int) ∧ R8.RAt w w.heap.size M [] wr
def InvB (w : World) (M : Nat) (zs : List Int) (n gh : Nat) (vi : Value) (wr : World) : Prop := ∃ k : Nat, k ≤ n ∧ gh = n - k ∧ vi = .int .i64 (k : Int) ∧ R8.RAt w w.heap.size M (zs.take k) wr
/-- What stays of the first k numbers. -/
def wantL (zs : List Int) (kk k : Nat) : List Int := ((zs.take k).drop kk).filter R8.evn
theorem want_all (zs : List Int) (kk n : Nat) (h : zs.length = n) : wantL zs kk n = (zs.drop kk).filter R8.evn := by unfold wantL; rw [List.take_of_length_le (by omega)]
theorem want_no {zs : List Int} {kk k : Nat} {x : Int} (hx : zs[k]?.getD 0 = x) (hk : k < zs.length) (h : k < kk ∨ R8.evn x = false) : wantL zs kk (k + 1) = wantL zs kk k := by
  unfold wantL
  rw [R8.take_next hx hk]
  by_cases hkk : k < kk
  · rw [List.drop_of_length_le (by simp; omega), List.drop_of_length_le (by simp; omega)]
  · have e := h.resolve_left hkk
    rw [List.drop_append_of_le_length (by rw [List.length_take]; omega), List.filter_append, List.filter_cons, e]
    simp
theorem want_yes {zs : List Int} {kk k : Nat} {x : Int} (hx : zs[k]?.getD 0 = x) (hk : k < zs.length) (h : kk ≤ k) (e : R8.evn x = true) : wantL zs kk (k + 1) = wantL zs kk k ++ [x] := by
  unfold wantL
  rw [R8.take_next hx hk, List.drop_append_of_le_length (by rw [List.length_take]; omega), List.filter_append, List.filter_cons, e]
  simp
theorem want_le (zs : List Int) (kk k : Nat) : (wantL zs kk k).length ≤ zs.length := by
  unfold wantL
  refine Nat.le_trans (List.length_filter_le _ _) ?_
  rw [List.length_drop, List.length_take]
  omega
def InvW (w5 : World) (zs : List Int) (kk n gh : Nat) (v vi : Value) (wr : World) : Prop := ∃ k : Nat, k ≤ n ∧ gh = n - k ∧ vi = .int .i64 (k : Int) ∧ R8.Own wr w5.heap.size v (wantL zs kk k) ∧ Below w5.heap.size w5 wr
def InvZ (W : World) (n gh : Nat) (vi : Value) (wr : World) : Prop := ∃ k : Nat, k ≤ n ∧ gh = n - k ∧ vi = .int .i64 (k : Int) ∧ W = wr
theorem slice_nil0 (w : World) : Calls Try.prog 16 #[.pointer none] w fun e w' => ∃ g c, e = .returned (.slice (some ⟨g, 0, none⟩) 0 c) ∧ Below w.heap.size w w' :=
  (R8.slice_nil w).mono fun e w' ⟨g, c, he, _, hB⟩ => ⟨g, c, he, hB⟩
theorem own : ownKnob Try.prog.godebug = none := by kernel_rfl
theorem laidOut : laidOutB Try.prog = true := by kernel_rfl

set_option maxHeartbeats 4000000 in
set_option maxRecDepth 100000 in
theorem walk (a0 : Option Addr) (len0 cap0 : Nat) (z0 : List Int) (a1 : Int) (a2 : Int) (w : World) (w0 : IsRow .i64 w a0 len0 cap0 z0) (w1 : (Lit.int .i64 a1).wf = true) (w2 : (Lit.int .u8 a2).wf = true) :
    Calls Try.prog 5 #[.slice a0 len0 cap0, .int .i64 a1, .int .u8 a2] w fun e w' => e = .returned (.bool true) ∧ Below w.heap.size w w' := by
  have bu := bounds_u8 w2
  have bn := bounds_i64 w1
  obtain ⟨A, rfl⟩ : ∃ A : Nat, a2 = (A : Int) := ⟨a2.toNat, by omega⟩
  obtain ⟨n, hn⟩ : ∃ n, n = min len0 60 := ⟨_, rfl⟩
  have hn1 : n ≤ len0 := by omega
  have hn2 : n ≤ 60 := by omega
  have hc1 := row_len w0
  have HW := Lib.hid w0
  have HN := Lib.hid hn
  clear w0 w1 w2 hn
  go_enter Try.func5, Try.ntmps5
  go_upto_region 1 with (fail)
  go_cut [0] (fun v wx => v = .slice a0 n cap0 ∧ w = wx)
  case first =>
    by_cases h60 : len0 ≤ 60
    · obtain rfl : len0 = n := by have := HN.out; omega
      have k1 : (len0 : Int) ≤ 60 := by omega
      have k2 : (0 : Int) ≤ (len0 : Int) := by omega
      have k3 : (len0 : Int) ≤ (cap0 : Int) := by omega
      go_wp2_with fail
      go_meet
      case rel => exact ⟨rfl, rfl⟩
    · obtain rfl : n = 60 := by have := HN.out; omega
      have k1 : (60 : Int) < (len0 : Int) := by omega
      have k3 : (60 : Int) ≤ (cap0 : Int) := by omega
      go_wp2_with fail
      all_goals
        go_meet
        case rel => exact ⟨rfl, rfl⟩
  case rest =>
    obtain ⟨rfl, rfl⟩ := hcut
    obtain ⟨zs, ez⟩ : ∃ zs, zs = z0.take n := ⟨_, rfl⟩
    have hzl : zs.length = n := by rw [ez, List.length_take]; omega
    have HE : Hid (∀ k, k < n → ∃ b off, a0 = some ⟨b, off, none⟩ ∧ w.cell? ⟨b, off + k, none⟩ = some (.int .i64 (zs[k]?.getD 0)) ∧ b < w.heap.size) := Lib.hid fun k hk => by
      obtain ⟨b, off, h1, h2, h3, _⟩ := row_at HW.out (i := k) (by omega)
      refine ⟨b, off, h1, ?_, h3⟩
      rw [h2, ez, List.getElem?_take, if_pos hk]
    have HL := Lib.hid hzl
    have HM := Lib.hid (R8.mst_nat n (by omega))
    clear ez hzl HW HN
    have k0 : (0 : Int) ≤ (n : Int) := by omega
    have k1 : (n : Int) ≤ 60 := by omega
    have ka : (0 : Int) ≤ (A : Int) := by omega
    have kb : (A : Int) ≤ 255 := by omega
    go_wp2_with (go_at_call 6; refine (R8.new_ring _ w).mono ?_; rw [HM.out]; rintro e wa ⟨rfl, RR, B1⟩)
    have S0 := R8.RAt.new RR B1
    clear RR B1
    go_loopg [8] A (fun gh vi wr => InvA w n A gh vi wr)
    case atStart => exact ⟨0, by omega, rfl, rfl, S0⟩
    case round =>
      obtain ⟨j, hj, rfl, rfl, S1⟩ := hrel
      by_cases hlt : j < A
      · have j1 : (j : Int) < (A : Int) := by omega
        by_cases hn0 : n = 0
        · have HN0 := Lib.hid hn0
          clear hn0
          go_wp2_with (first
            | (go_at_call 11; refine (S1.full 1 HN0.out.symm).mono ?_; rintro e w2 ⟨rfl, S2⟩)
            | (go_at_call 15; refine (S2.drop 1 0 (by simp)).mono ?_; rintro e w3 ⟨rfl, S3⟩))
          go_roundg (A - (j + 1))
          case measure => omega
          case rel => exact ⟨j + 1, by omega, rfl, by go_num, S3⟩
        · go_wp2_with (first
            | (go_at_call 11; refine (S1.push 1 (show 0 < n by omega)).mono ?_; rintro e w2 ⟨rfl, S2⟩)
            | (go_at_call 15; refine (S2.drop 1 1 (by simp)).mono ?_; rintro e w3 ⟨rfl, S3⟩))
          go_roundg (A - (j + 1))
          case measure => omega
          case rel => exact ⟨j + 1, by omega, rfl, by go_num, S3⟩
      · obtain rfl : j = A := by omega
        go_wp2_with fail
        go_loopg [39] n (fun gh vi wr => InvB w n zs n gh vi wr)
        case atStart => exact ⟨0, by omega, rfl, rfl, by rw [List.take_zero]; exact S1⟩
        case round =>
          obtain ⟨k, hk, rfl, rfl, S2⟩ := hrel
          by_cases hkn : k < n
          · obtain ⟨b, off, rfl, hx, hb⟩ := HE.out k hkn
            obtain ⟨x, ex⟩ : ∃ x, zs[k]?.getD 0 = x := ⟨_, rfl⟩
            rw [ex] at hx
            have EX := Lib.hid ex
            clear ex
            have hx' := cell_low S2.below hb hx
            have n1 : (0 : Int) ≤ (k : Int) := by omega
            have n2 : (k : Int) < (n : Int) := by omega
            have hln : (zs.take k).length < n := by rw [List.length_take]; omega
            go_wp2_with (go_at_call 11; refine (S2.push x hln).mono ?_; rintro e w2 ⟨rfl, S3⟩)
            go_roundg (n - (k + 1))
            case measure => omega
            case rel => exact ⟨k + 1, by omega, rfl, by go_num, by rw [R8.take_next EX.out (by rw [HL.out]; exact hkn)]; exact S3⟩
          · obtain rfl : k = n := by omega
            rw [List.take_of_length_le (by rw [HL.out]; omega)] at S2
            go_upto_region 14 with (go_at_call 16; refine (S2.sliceL HL.out).mono ?_; rintro e w4 ⟨gA, cA, gr, rfl, OA, B4, R4, lr, lb, hgr, hbw, BW4⟩)
            obtain ⟨kk, ekk⟩ : ∃ kk : Nat, kk = (min (max a1 0) (k : Int)).toNat := ⟨_, rfl⟩
            have hkk : (a1 < 0 ∧ kk = 0) ∨ (a1 = (kk : Int) ∧ kk ≤ k) ∨ ((k : Int) < a1 ∧ kk = k) := by omega
            clear ekk
            have hkk1 : kk ≤ k := by omega
            go_cut [12] (fun v wx => v = .int .i64 (kk : Int) ∧ w4 = wx)
            case first =>
              rcases hkk with ⟨h1, rfl⟩ | ⟨rfl, h1⟩ | ⟨h1, rfl⟩
              all_goals
                go_wp2_with fail
                all_goals
                  go_meet
                  case rel => exact ⟨by first | rfl | (congr 1; omega), rfl⟩
            case rest =>
              obtain ⟨rfl, rfl⟩ := hcut
              have HD := Lib.hid (R8.drop_to w.heap.size gr a1 zs k kk w4 R4 (by rw [HL.out]; exact hkk))
              clear hkk R4
              go_wp2_with (go_at_call 15; refine HD.out.mono ?_; rintro e w5 ⟨gr5, rfl, R5, hg5, o5⟩)
              have hle := R5.lt
              have OA5 := Lib.hid (OA.out o5 (fun g e => by
                have h1 := World.ownsRow.lt OA g e
                rintro (rfl | rfl) <;> omega))
              have s4 := BW4.size
              have BW5 := Lib.hid (BW4.trans (R8.foot_below o5 s4 (Nat.le_refl _) hgr))
              have R5' := Lib.hid R5
              have hgr5 : w.heap.size ≤ gr5 := by omega
              clear R5 o5 OA HD S0 S1 S2 BW4 B4 hg5
              go_loopg [13, 68] k (fun gh v vi wr => InvW w5 zs kk k gh v vi wr)
              case atStart => exact ⟨0, by omega, rfl, rfl, by unfold wantL; simp; exact OwnK.nil _ _ _ _, Below.refl _ _⟩
              case round =>
                rename_i wq _
                obtain ⟨i, hi, rfl, rfl, OW, Bw⟩ := hrel
                have hsz := Bw.size
                obtain ⟨Aw, mw, cw, rfl, hmw⟩ := R8.own_form OW
                have hwl := want_le zs kk i
                rw [hmw, HL.out] at hwl
                have MW := Lib.hid hmw
                clear hmw
                by_cases hik : i < k
                · obtain ⟨b, off, rfl, hx, hb⟩ := HE.out i hik
                  have ha := (OA5.out.kept Bw).cell (i := i) (by rw [HL.out]; exact hik)
                  obtain ⟨x, ex⟩ : ∃ x, zs[i]?.getD 0 = x := ⟨_, rfl⟩
                  rw [ex] at hx ha
                  have EX := Lib.hid ex
                  clear ex
                  have hx' := cell_low (BW5.out.trans (Bw.mono BW5.out.size)) hb hx
                  have n1 : (0 : Int) ≤ (i : Int) := by omega
                  have n2 : (i : Int) < (k : Int) := by omega
                  have hil : i < zs.length := by rw [HL.out]; exact hik
                  by_cases hkk2 : i < kk
                  · go_wp2_with fail
                    go_roundg (k - (i + 1))
                    case measure => omega
                    case rel => exact ⟨i + 1, by omega, rfl, by go_num, by rw [want_no EX.out hil (.inl hkk2)]; exact OW, Bw⟩
                  · have hkk3 : kk ≤ i := by omega
                    cases hev : R8.evn x
                    · have hev' : (x.tmod 2 == 0) = false := hev
                      have EV := Lib.hid hev
                      clear hev
                      go_wp2_with fail
                      go_roundg (k - (i + 1))
                      case measure => omega
                      case rel => exact ⟨i + 1, by omega, rfl, by go_num, by rw [want_no EX.out hil (.inr EV.out)]; exact OW, Bw⟩
                    · have hev' : (x.tmod 2 == 0) = true := hev
                      have EV := Lib.hid hev
                      clear hev
                      have OW' := Lib.hid OW
                      clear OW
                      go_wp2_with (at_builtin; refine wp_pushK R8.elem (by rfl) _ _ (by rfl) w5.heap.size _ (wantL zs kk i) x _ 1 (by rfl) (by rfl) ((At.new wr [.int .i64 x] _).cell 0 rfl) (OW'.out.alloc _) (mw + 1) (by rw [MW.out]) (by omega) (alloc_le hsz _) _ rfl ?_; intro g1 c1 w1 O1 G1 hat1 hlt1; have B1 := push_below (m := 0) OW'.out G1 hsz; clear G1 hat1)
                      go_roundg (k - (i + 1))
                      case measure => omega
                      case rel => exact ⟨i + 1, by omega, rfl, by go_num, by rw [want_yes EX.out hil hkk3 EV.out]; exact O1, Bw.trans B1⟩
                · obtain rfl : i = k := by omega
                  rw [want_all zs kk i HL.out] at OW MW
                  have RK := Lib.hid (R5'.out.kept Bw)
                  have hle5 := R5'.out.lt
                  obtain ⟨i', hi'⟩ : ∃ i' : Int, i' = (i : Int) - (kk : Int) - (mw : Int) := ⟨_, rfl⟩
                  have hdl : ((zs.drop kk).length : Int) - (((zs.drop kk).filter R8.evn).length : Int) = (i : Int) - (kk : Int) - (mw : Int) := by rw [MW.out, List.length_drop, HL.out]; omega
                  have hml : mw ≤ i - kk := by have := List.length_filter_le R8.evn (zs.drop kk); rw [MW.out, List.length_drop, HL.out] at this; exact this
                  have HKp := Lib.hid (R8.keep_evenL w.heap.size gr5 (zs.drop kk) i _ wr RK.out hdl)
                  clear hdl hi' i'
                  have q1 : (0 : Int) ≤ (mw : Int) := by omega
                  have q2 : (kk : Int) ≤ (i : Int) := by omega
                  have q3 : (mw : Int) ≤ (i : Int) - (kk : Int) := by omega
                  have OW' := Lib.hid OW
                  clear OW
                  go_wp2_with (first
                    | (go_at_call 17; refine HKp.out.mono ?_; rintro e w7 ⟨gr7, rfl, R7, hg7, o7⟩; have R7' := Lib.hid R7; clear R7)
                    | (go_at_call 14; refine (R8.len_ringL w.heap.size gr7 _ i mw _ R7'.out MW.out).mono ?_; rintro e w' ⟨rfl, rfl⟩)
                    | (go_at_call 16; refine (R8.slice_ringL w.heap.size gr7 _ i mw _ R7'.out MW.out).mono ?_; rintro e w8 ⟨gS, cS, rfl, OS, B8⟩))
                  have OW8 := Lib.hid ((OW'.out.out o7 (fun g e => by
                    have h1 := World.ownsRow.lt OW'.out g e
                    rintro (rfl | rfl) <;> omega)).kept B8)
                  have BW8 := Lib.hid (new_then ((BW5.out.trans (Bw.mono BW5.out.size)).trans (R8.foot_below o7 (Nat.le_trans BW5.out.size hsz) (Nat.le_refl _) hgr5)) B8)
                  have OS' := Lib.hid OS
                  clear OS o7 B8 HKp RK
                  go_loopg [112] mw (fun gh vi wr => InvZ w8 mw gh vi wr)
                  case atStart => exact ⟨0, by omega, rfl, rfl, rfl⟩
                  case round =>
                    obtain ⟨t, ht, rfl, rfl, rfl⟩ := hrel
                    by_cases htm : t < mw
                    · have c1 := OS'.out.cell (i := t) (by rw [MW.out]; exact htm)
                      obtain ⟨gw, cw', ew, _, _⟩ := World.ownsRow.form OW8.out (by rw [MW.out]; omega)
                      have eA := (Value.slice.inj ew).1
                      clear ew
                      subst eA
                      have c2 := OW8.out.cell (i := t) (by rw [MW.out]; exact htm)
                      obtain ⟨y, ey⟩ : ∃ y, ((zs.drop kk).filter R8.evn)[t]?.getD 0 = y := ⟨_, rfl⟩
                      rw [ey] at c1 c2
                      clear ey
                      have t1 : (0 : Int) ≤ (t : Int) := by omega
                      have t2 : (t : Int) < (mw : Int) := by omega
                      go_wp2_with fail
                      go_roundg (mw - (t + 1))
                      case measure => omega
                      case rel => exact ⟨t + 1, by omega, rfl, by go_num, rfl⟩
                    · obtain rfl : t = mw := by omega
                      go_wp2_with (first
                        | (go_at_call 16; refine (slice_nil0 _).mono ?_; rintro e w9 ⟨gN, cN, rfl, B9⟩)
                        | (go_at_call 15; refine (R8.drop_nil _).mono ?_; rintro e w' ⟨rfl, rfl⟩)
                        | (go_at_call 17; refine (R8.keep_nil _ _).mono ?_; rintro e w10 ⟨rfl, B10⟩)
                        | (go_at_call 13; refine (works05_any _).mono ?_; rintro e w11 ⟨rfl, B11⟩))
                      go_ret
                      exact ⟨rfl, new_then BW8.out (new_then B9 (new_then B10 B11))⟩

set_option maxRecDepth 100000 in
theorem lifted (os : Os) (started : os.Started) (H : Type) (enc : TypeId × Value → H) :
    ReturnsInHanded {} Try.checked os 5 .any (Rows.ringKeepsSpec.pre6 enc Try.prog Try.f5 Rows.ringKeepsRow.domain false) (Rows.ringKeepsSpec.post enc Try.prog Try.f5 false true false false) := by
  refine returnsInHanded_of_change (C := Try.checked) own started (by kernel_rfl) Try.func5
    (ChangeSpec.witness6 (enc := enc) (C := Try.checked) false ⟨#[], #[.slice none 0 0, .int .i64 0, .int .u8 0], []⟩ 8 (by kernel_rfl) (by kernel_rfl) (by kernel_rfl) (by kernel_rfl)) ?_
  intro W base args ds gs before hval0 hW hcnd _
  have hval : ∀ (j : Nat) t v, Try.f5.params[j]? = some t → args[j]? = some v → Value.okWide Try.prog W .any base t v := hval0
  have hW' := hW
  obtain ⟨p, q, hA0, hV, rfl, hfz, hnd⟩ := hW
  have hA : DataW.TrodAll enc Try.prog W 0 (fun _ => true) true Try.f5.params.toList args.toList ds p := hA0
  rw [Try.params5] at hA hval
  obtain ⟨v0, vs0, d0, ds0, p0, q0, hargs, rfl, rfl, h0, r0⟩ := trodAll_cons hA
  obtain ⟨v1, vs1, d1, ds1, p1, q1, rfl, rfl, rfl, h1, r1⟩ := trodAll_cons r0
  obtain ⟨v2, vs2, d2, ds2, p2, q2, rfl, rfl, rfl, h2, r2⟩ := trodAll_cons r1
  obtain ⟨rfl, rfl, rfl⟩ := trodAll_nil r2
  obtain rfl : args = #[v0, v1, v2] := by cases args; simp_all
  obtain ⟨rfl, rfl⟩ := trodVars_none hV
  have k0 := h0
  have lt0 : ∀ x ∈ p0, x.block < W.heap.size := by obtain ⟨m, hm⟩ := k0; exact DataW.trod_lt m _ _ _ hm
  obtain ⟨a0, len0, cap0, rfl⟩ := okWide_slice Try.underlying25 (hval 0 25 v0 rfl rfl)
  obtain ⟨z0, w0⟩ := isRow_of Try.underlying25 Try.underlying2 (by kernel_rfl) h0
  have k1 := h1
  have lt1 : ∀ x ∈ p1, x.block < W.heap.size := by obtain ⟨m, hm⟩ := k1; exact DataW.trod_lt m _ _ _ hm
  obtain ⟨a1, rfl, _, _, w1⟩ := open_int Try.underlying3 (hval 1 3 v1 rfl rfl) h1
  have k2 := h2
  have lt2 : ∀ x ∈ p2, x.block < W.heap.size := by obtain ⟨m, hm⟩ := k2; exact DataW.trod_lt m _ _ _ hm
  obtain ⟨a2, rfl, _, _, w2⟩ := open_int Try.underlying5 (hval 2 5 v2 rfl rfl) h2
  clear hA0 hval0
  refine (walk a0 len0 cap0 z0 a1 a2 W w0 w1 w2).mono fun e W' ⟨he, bel⟩ => ?_
  subst he
  exact ⟨_, rfl, _, _, _, [], _, [], hW', trodAll_mk1 (shut_bool Try.underlying4 _), (trodAll_cons_mk (Below.trod laidOut (by kernel_rfl) (of_decide_eq_true (by kernel_rfl)) k0 bel lt0) (trodAll_cons_mk (Below.trod laidOut (by kernel_rfl) (of_decide_eq_true (by kernel_rfl)) k1 bel lt1) (trodAll_cons_mk (Below.trod laidOut (by kernel_rfl) (of_decide_eq_true (by kernel_rfl)) k2 bel lt2) trodAll_mk0))), rfl, bel.frame _, fun h => by cases h⟩

theorem over : Rows.ringKeepsRow.holds Try.pinned (OpenSpec.ofChange Rows.ringKeepsSpec) :=
  OpenClaim.holds_of_wide 5 Try.f5 rfl rfl rfl rfl rfl rfl rfl ⟨rfl, rfl, rfl, rfl, rfl⟩ rfl rfl rfl rfl rfl (by kernel_rfl) Try.func5 (by kernel_rfl)
    (of_decide_eq_true (by kernel_rfl)) (by unfold Func.isWrapper; first | (rw [if_pos (by decide +kernel)]; kernel_rfl) | (rw [if_neg (by decide +kernel)]; exact ⟨rfl, rfl⟩))
    (fun os started H enc _ => lifted os started H enc)
end ringKeeps
theorem ringKeeps_holds : Rows.RingKeepsSaid := ringKeeps.over
end Go.Proofs.Ytamcakckbabeiaa
