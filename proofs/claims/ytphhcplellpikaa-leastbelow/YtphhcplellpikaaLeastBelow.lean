/- For every window, every list of times and numbers and every two times: behind each one of the first fifty of the list, put one behind the other, what the filter tells at the first of the two times is not above the last number; at the later one of the two it tells no less than at the earlier one; a filter that is nil takes nothing, tells nothing and has none; the chapter's example holds: LeastBelow returns true and changes nothing that was there. No conditions. -/
import Derived.Test.YtphhcplellpikaaKit
import Derived.Test.YtphhcplellpikaaLeaF
import Derived.StillTailTactics
namespace Go.Proofs.Ytphhcplellpikaa
namespace leastBelow
open Go.ChangeShapes Go.WideShapes Go.ChangeAt Go.RowKit
open Go.ChangeMaps (open_string shut_string)
set_option linter.unusedVariables false

theorem pairB_at {w : World} {a : Option Addr} {len cap : Nat} (h : IsRows w a len cap 2 [(0, Sum.inl IntKind.i64), (1, Sum.inl IntKind.i64)]) (hp : 0 < len) :
    ∃ b off, a = some ⟨b, off, none⟩ ∧ ∀ i, i < len → ∃ t x : Int, w.cell? ⟨b, off + i * 2, none⟩ = some (.int .i64 t) ∧ w.cell? ⟨b, off + i * 2 + 1, none⟩ = some (.int .i64 x) := by
  obtain ⟨b, off, rfl, _, _, h⟩ := rows_at h hp
  refine ⟨b, off, rfl, fun i hi => ?_⟩
  obtain ⟨u0, h0, x0, rfl, _⟩ := h i hi (0, .inl .i64) (by simp)
  obtain ⟨u1, h1, x1, rfl, _⟩ := h i hi (1, .inl .i64) (by simp)
  exact ⟨x0, x1, h0, h1⟩
theorem put_below {l : List Lc} {k : Nat} (hl : l.length = k) (t x f : Int) : lsL (ptL l t x) f ≤ x := by
  have h1 : (ptL l t x).length = k + 1 := by rw [ptL_len, hl]
  have h2 : nthC (ptL l t x) k = ⟨atL l t, x⟩ := by
    subst hl
    simp [nthC, ptL]
  have := lsL_last h1 f
  rw [h2] at this
  exact this
def BwI (w : World) (b : Nat) (W : Int) (len gh : Nat) (vi : Value) (wr : World) : Prop :=
  ∃ (k : Nat) (l : List Lc) (V : Value), vi = .int .i64 (k : Int) ∧ k ≤ len ∧ k ≤ 50 ∧ len - k = gh ∧ l.length = k ∧ TmL l ∧ LsAt w b W V l [] (.slice none 0 0) wr
def BwE (w : World) (b : Nat) (W : Int) (wr : World) : Prop := ∃ (l : List Lc) (V : Value), l.length ≤ 50 ∧ TmL l ∧ LsAt w b W V l [] (.slice none 0 0) wr
theorem own : ownKnob Try.prog.godebug = none := by kernel_rfl
theorem laidOut : laidOutB Try.prog = true := by kernel_rfl

set_option maxHeartbeats 4000000 in
set_option maxRecDepth 100000 in
theorem walk (a0 : Int) (a1 : Option Addr) (len1 cap1 : Nat) (a2x0 : Int) (a2x1 : Int) (w : World) (w0 : (Lit.int .i64 a0).wf = true) (w1 : IsRows w a1 len1 cap1 2 [(0, .inl .i64), (1, .inl .i64)]) (w2x0 : (Lit.int .i64 a2x0).wf = true) (w2x1 : (Lit.int .i64 a2x1).wf = true) :
    Calls Try.prog 4 #[.int .i64 a0, .slice a1 len1 cap1, .agg #[.int .i64 a2x0, .int .i64 a2x1]] w fun e w' => e = .returned (.bool true) ∧ Below w.heap.size w w' := by
  have wb := wnL_bd a0
  have N := Lib.hid (fun w => new21_any a0 w)
  generalize wnL a0 = W at *
  have HA := Lib.hid (Blk.new w [.int .i64 a2x0, .int .i64 a2x1] 26)
  have HR := Lib.hid w1
  have LA := Lib.hid (new_alloc (new_refl w) (.cells #[.int .i64 a2x0, .int .i64 a2x1] 26))
  clear w0 w1 w2x0 w2x1
  go_enter Try.func4, Try.ntmps4
  go_upto_block 0 with (first
    | (go_at_call 6; refine (put21_nil 1 1 _).mono ?_; rintro e wa ⟨rfl, rfl⟩)
    | (go_at_call 8; refine (least21_nil 1 _).mono ?_; rintro e wz ⟨rfl, BB⟩
       have LB := Lib.hid (new_then LA.out BB)
       have HB := Lib.hid (HA.out.kept BB))
    | (go_at_call 5; refine (N.out _).mono ?_; rintro e w1 ⟨b, rfl, hb, D1, B1⟩; have A1 := Lib.hid (ls_new hb D1 B1); clear D1 B1))
  go_cut [11] (fun vi wx => BwE wz b W wx)
  case first =>
    go_wp2_with fail
    go_loopg [11] len1 (fun gh vi wr => BwI wz b W len1 gh vi wr)
    case atStart => exact ⟨0, [], _, rfl, Nat.zero_le _, by omega, rfl, rfl, by simp [TmL], A1.out⟩
    case round =>
      clear A1 N HA LA
      obtain ⟨k, l, V, rfl, hk, hk5, hgh, hl, ht, D⟩ := hrel
      have HL := Lib.hid hl
      have HT := Lib.hid ht
      have HD := Lib.hid D
      clear hl ht D
      have i0 : (0 : Int) ≤ (k : Int) := by omega
      by_cases hlt : k < len1
      · have i1 : (k : Int) < (len1 : Int) := by omega
        have d1 : decide ((k : Int) < (len1 : Int)) = true := decide_eq_true i1
        by_cases h5 : k < 50
        · have i2 : (k : Int) < 50 := by omega
          obtain ⟨bl, off, rfl, hc⟩ := pairB_at HR.out (by omega)
          obtain ⟨t, x, e0, e1⟩ := hc k hlt
          have E1 := Lib.hid e1
          replace e0 := cell_kept (new_then LB.out HD.out.low) e0
          replace e1 := cell_kept (new_then LB.out HD.out.low) e1
          clear hc
          have HLN := Lib.hid (show (ptL l t x).length = k + 1 by rw [ptL_len, HL.out])
          have HTN := Lib.hid (ptL_time HT.out t x)
          have HLk := Lib.hid (show l.length < 1000000 by rw [HL.out]; omega)
          have HLj := Lib.hid (show (ptL l t x).length ≤ 1000000 by rw [HLN.out]; omega)
          have HLp := Lib.hid (show 0 < (ptL l t x).length by rw [HLN.out]; omega)
          have hle := put_below HL.out t x (nrL a2x0 - W)
          go_upto_region 8 with fail
          go_still_tail 11, (by kernel_rfl)
          change wpList _ _ _ _ _ wr.drew
          have HD1 := Lib.hid (HD.out.kept (new_drew (new_refl wr)))
          clear e0 e1 HD
          generalize wr.drew = X at *
          have LE := Lib.hid (fun V wr (h : LsAt wz b W V (ptL l t x) [] (.slice none 0 0) wr) => h.least HLj.out HLp.out HTN.out wb a2x0)
          generalize lsL (ptL l t x) (nrL a2x0 - W) = res at *
          have hlx : ¬ x < res := by omega
          have hlx' : decide (x < res) = false := decide_eq_false hlx
          go_wp2_with (first
            | (go_at_call 6; refine (HD1.out.put HLk.out t x).mono ?_; rintro e w2 ⟨rfl, V2, D2, _⟩
               have HD2 := Lib.hid D2
               have c20 := (HB.out.kept D2.low).cell 0 rfl
               clear D2)
            | (go_at_call 8; refine (LE.out _ _ HD2.out).mono ?_; rintro e w3 ⟨rfl, B3⟩
               have HD3 := Lib.hid (HD2.out.kept B3)
               have e31 := cell_kept (new_then LB.out HD3.out.low) E1.out
               clear c20))
          go_roundg (len1 - (k + 1))
          case measure => omega
          case rel => exact ⟨k + 1, ptL l t x, _, by go_num, by omega, by omega, rfl, HLN.out, HTN.out, HD3.out⟩
        · have i2 : ¬ (k : Int) < 50 := by omega
          go_wp2_with fail
          go_meet
          exact ⟨l, V, by rw [HL.out]; exact hk5, HT.out, HD.out⟩
      · obtain rfl : k = len1 := by omega
        have i1 : ¬ (k : Int) < (k : Int) := by omega
        have d1 : decide ((k : Int) < (k : Int)) = false := decide_eq_false i1
        go_wp2_with fail
        go_meet
        exact ⟨l, V, by rw [HL.out]; exact hk5, HT.out, HD.out⟩
  case rest =>
    obtain ⟨l, V, hl, ht, D⟩ := hcut
    have HL := Lib.hid (show l.length ≤ 1000000 by omega)
    have HT := Lib.hid ht
    have HD := Lib.hid D
    have c0 := (HB.out.kept D.low).cell 0 rfl
    have c1 := (HB.out.kept D.low).cell 1 rfl
    have HM := Lib.hid (fun u v : Int => fun h : u ≤ v => lsL_mono l (show nrL u - W ≤ nrL v - W by unfold nrL; omega))
    clear hl ht D A1 N HA LA
    have hle := HM.out (min a2x0 a2x1) (max a2x0 a2x1) (by omega)
    have TA := Lib.hid (fun wr (h : LsAt wz b W V l [] (.slice none 0 0) wr) => h.tell HL.out HT.out wb (min a2x0 a2x1))
    have TB := Lib.hid (fun wr (h : LsAt wz b W V l [] (.slice none 0 0) wr) => h.tell HL.out HT.out wb (max a2x0 a2x1))
    generalize lsL l (nrL (min a2x0 a2x1) - W) = ra at *
    generalize lsL l (nrL (max a2x0 a2x1) - W) = rb at *
    all_goals
      clear HM
      go_wp2_with (first
        | (go_at_call 8; have h := HD4; clear h; refine (TB.out _ HD4.out).mono ?_; rintro e w5 ⟨rfl, B5⟩
           have HD5 := Lib.hid (HD4.out.kept B5)
           clear c40 c41)
        | (go_at_call 8; refine (TA.out _ HD.out).mono ?_; rintro e w4 ⟨rfl, B4⟩
           have HD4 := Lib.hid (HD.out.kept B4)
           have c40 := (HB.out.kept HD4.out.low).cell 0 rfl
           have c41 := (HB.out.kept HD4.out.low).cell 1 rfl
           clear c0 c1)
        | (go_at_call 10; refine (len21_nil _).mono ?_; rintro e w6 ⟨rfl, rfl⟩)
        | (go_at_call 12; refine (works21_any _).mono ?_; rintro e w8 ⟨rfl, B8⟩))
      go_ret
      exact ⟨rfl, new_then (new_then LB.out HD5.out.low) B8⟩

set_option maxRecDepth 100000 in
theorem lifted (os : Os) (started : os.Started) (H : Type) (enc : TypeId × Value → H) :
    ReturnsInHanded {} Try.checked os 4 .any (Rows.leastBelowSpec.pre6 enc Try.prog Try.f4 Rows.leastBelowRow.domain false) (Rows.leastBelowSpec.post enc Try.prog Try.f4 false true false false) := by
  refine returnsInHanded_of_change (C := Try.checked) own started (by kernel_rfl) Try.func4
    (ChangeSpec.witness6 (enc := enc) (C := Try.checked) false ⟨#[], #[.int .i64 0, .slice none 0 0, .agg #[.int .i64 0, .int .i64 0]], []⟩ 8 (by kernel_rfl) (by kernel_rfl) (by kernel_rfl) (by kernel_rfl)) ?_
  intro W base args ds gs before hval0 hW hcnd _
  have hval : ∀ (j : Nat) t v, Try.f4.params[j]? = some t → args[j]? = some v → Value.okWide Try.prog W .any base t v := hval0
  have hW' := hW
  obtain ⟨p, q, hA0, hV, rfl, hfz, hnd⟩ := hW
  have hA : DataW.TrodAll enc Try.prog W 0 (fun _ => true) true Try.f4.params.toList args.toList ds p := hA0
  rw [Try.params4] at hA hval
  obtain ⟨v0, vs0, d0, ds0, p0, q0, hargs, rfl, rfl, h0, r0⟩ := trodAll_cons hA
  obtain ⟨v1, vs1, d1, ds1, p1, q1, rfl, rfl, rfl, h1, r1⟩ := trodAll_cons r0
  obtain ⟨v2, vs2, d2, ds2, p2, q2, rfl, rfl, rfl, h2, r2⟩ := trodAll_cons r1
  obtain ⟨rfl, rfl, rfl⟩ := trodAll_nil r2
  obtain rfl : args = #[v0, v1, v2] := by cases args; simp_all
  obtain ⟨rfl, rfl⟩ := trodVars_none hV
  have k0 := h0
  have lt0 : ∀ x ∈ p0, x.block < W.heap.size := by obtain ⟨m, hm⟩ := k0; exact DataW.trod_lt m _ _ _ hm
  obtain ⟨a0, rfl, _, _, w0⟩ := open_int Try.underlying2 (hval 0 2 v0 rfl rfl) h0
  have k1 := h1
  have lt1 : ∀ x ∈ p1, x.block < W.heap.size := by obtain ⟨m, hm⟩ := k1; exact DataW.trod_lt m _ _ _ hm
  obtain ⟨a1, len1, cap1, rfl⟩ := okWide_slice Try.underlying22 (hval 1 22 v1 rfl rfl)
  have w1 := isRows_of (n := 2) (ls := [(0, .inl .i64), (1, .inl .i64)]) Try.underlying22 (by kernel_rfl) (by kernel_rfl) (by decide) h1
  have k2 := h2
  have lt2 : ∀ x ∈ p2, x.block < W.heap.size := by obtain ⟨m, hm⟩ := k2; exact DataW.trod_lt m _ _ _ hm
  obtain ⟨cs2, rfl, l2, L2⟩ := flat_of (n := 2) (ls := [(0, .inl .i64), (1, .inl .i64)]) (by kernel_rfl) (by kernel_rfl) (agg_of_array Try.underlying26 (hval 2 26 v2 rfl rfl)) h2
  obtain ⟨a2x0, e2x0, w2x0⟩ := leaf_int (L2 (0, .inl .i64) (by simp))
  obtain ⟨a2x1, e2x1, w2x1⟩ := leaf_int (L2 (1, .inl .i64) (by simp))
  obtain rfl : cs2 = [.int .i64 a2x0, .int .i64 a2x1] := list_is l2 rfl (by intro i hi; match i, hi with | 0, _ => exact e2x0 | 1, _ => exact e2x1)
  clear hA0 hval0
  refine (walk a0 a1 len1 cap1 a2x0 a2x1 W w0 w1 w2x0 w2x1).mono fun e W' ⟨he, bel⟩ => ?_
  subst he
  exact ⟨_, rfl, _, _, _, [], _, [], hW', trodAll_mk1 (shut_bool Try.underlying4 _), (trodAll_cons_mk (Below.trod laidOut (by kernel_rfl) (of_decide_eq_true (by kernel_rfl)) k0 bel lt0) (trodAll_cons_mk (Below.trod laidOut (by kernel_rfl) (of_decide_eq_true (by kernel_rfl)) k1 bel lt1) (trodAll_cons_mk (Below.trod laidOut (by kernel_rfl) (of_decide_eq_true (by kernel_rfl)) k2 bel lt2) trodAll_mk0))), rfl, bel.frame _, fun h => by cases h⟩

theorem over : Rows.leastBelowRow.holds Try.pinned (OpenSpec.ofChange Rows.leastBelowSpec) :=
  OpenClaim.holds_of_wide 4 Try.f4 rfl rfl rfl rfl rfl rfl rfl ⟨rfl, rfl, rfl, rfl, rfl⟩ rfl rfl rfl rfl rfl (by kernel_rfl) Try.func4 (by kernel_rfl)
    (of_decide_eq_true (by kernel_rfl)) (by unfold Func.isWrapper; first | (rw [if_pos (by decide +kernel)]; kernel_rfl) | (rw [if_neg (by decide +kernel)]; exact ⟨rfl, rfl⟩))
    (fun os started H enc _ => lifted os started H enc)
end leastBelow
theorem leastBelow_holds : Rows.LeastBelowSaid := leastBelow.over
end Go.Proofs.Ytphhcplellpikaa
