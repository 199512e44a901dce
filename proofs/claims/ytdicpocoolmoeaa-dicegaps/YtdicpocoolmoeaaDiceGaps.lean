/- For every list of uint32 and every int64, of the first hundred draws as many miss between those that hit the share as the document says, all that miss and all that hit are all, and the chapter's example holds: DiceGaps returns true and changes nothing. No conditions. -/
import Derived.Test.YtdicpocoolmoeaaKit
import Derived.Test.YtdicpocoolmoeaaDicC
import Derived.Test.YtdicpocoolmoeaaRowL
import Derived.Deep.DeepCutAuto
namespace Go.Proofs.Ytdicpocoolmoeaa
namespace diceGaps
open Go.ChangeShapes Go.WideShapes Go.ChangeAt Go.RowKit
open Go.ChangeMaps (open_string shut_string)
set_option linter.unusedVariables false

theorem isU32_of {x : Int} (h : (Lit.int .u32 x).wf = true) : isU32 x := by have := bounds_u32 h; unfold isU32; omega
/-- Between two rounds: k numbers and a draws are behind. -/
def GI (s : Int) (ds : List Int) (gs : List Nat) (L q : Nat) (w1 : World) (gh : Nat) (va vh vi : Value) (wr : World) : Prop :=
  ∃ k a : Nat, vi = .int .i64 (k : Int) ∧ va = .int .i64 (a : Int) ∧ q + 1 - k = gh ∧ ((k < q + 1 ∧ a ≤ L ∧ Gap s (gs.drop k) (ds.drop a) ∧ vh = .int .i64 (k : Int)) ∨ (k = q + 1 ∧ a = L ∧ vh = .int .i64 (q : Int))) ∧ w1 = wr
def JI (a n : Nat) (w1 : World) (gh : Nat) (va vj : Value) (wr : World) : Prop := ∃ j p : Nat, vj = .int .i64 (j : Int) ∧ va = .int .i64 (p : Int) ∧ a + j = p ∧ n - j = gh ∧ j ≤ n ∧ w1 = wr
theorem own : ownKnob Try.prog.godebug = none := by kernel_rfl
theorem laidOut : laidOutB Try.prog = true := by kernel_rfl

set_option maxHeartbeats 4000000 in
set_option maxRecDepth 100000 in
theorem walk (a0 : Option Addr) (len0 cap0 : Nat) (z0 : List Int) (a1 : Int) (w : World) (w0 : IsRow .u32 w a0 len0 cap0 z0) (w1 : (Lit.int .i64 a1).wf = true) :
    Calls Try.prog 6 #[.slice a0 len0 cap0, .int .i64 a1] w fun e w' => e = .returned (.bool true) ∧ Below w.heap.size w w' := by
  have hc1 := row_len w0
  have hc2 := (row_low w0).2
  unfold maxLen at hc2
  obtain ⟨L, hn⟩ : ∃ n, n = min len0 100 := ⟨_, rfl⟩
  have hn1 : L ≤ len0 := by omega
  have hn2 : L ≤ 100 := by omega
  have HW := Lib.hid w0
  have HN := Lib.hid hn
  clear w0 w1 hn
  go_enter Try.func6, Try.ntmps6
  go_upto_region 1 with (fail)
  go_cut [0] (fun v wx => v = .slice a0 L cap0 ∧ w = wx)
  case first =>
    by_cases h40 : len0 ≤ 100
    · obtain rfl : len0 = L := by have := HN.out; omega
      have k1 : (len0 : Int) ≤ 100 := by omega
      have k2 : (0 : Int) ≤ (len0 : Int) := by omega
      have k3 : (len0 : Int) ≤ (cap0 : Int) := by omega
      go_wp2_with fail
      go_meet
      case rel => exact ⟨rfl, rfl⟩
    · obtain rfl : L = 100 := by have := HN.out; omega
      have k1 : (100 : Int) < (len0 : Int) := by omega
      have k3 : (100 : Int) ≤ (cap0 : Int) := by omega
      go_wp2_with fail
      go_meet
      case rel => exact ⟨rfl, rfl⟩
  case rest =>
    obtain ⟨rfl, rfl⟩ := hcut
    obtain ⟨gl, hls⟩ := row_ls HW.out L hn1
    have hU : ∀ x ∈ z0.take L, isU32 x := fun x hx => isU32_of (row_wf HW.out L x hx)
    have hl := row_take HW.out L hn1
    generalize z0.take L = ds at hls hU hl
    have HL := Lib.hid hl
    have HV := Lib.hid hls
    have HU := Lib.hid hU
    clear hl hls hU HW HN
    go_wp2_with (first
      | (go_at_call 16; refine (gaps_any gl L cap0 a0 ds a1 w HV.out HL.out HU.out (by omega)).mono ?_; rintro e w1 ⟨v1, rfl, gs, g1, q, c1, rfl, hgs, hG, hO, hB⟩))
    have HG := Lib.hid hG
    have HC : Hid (cnt a1 ds = q) := Lib.hid (by have := gap_cnt hG; omega)
    have HQ := Lib.hid hgs
    have V1 := Lib.hid (HV.out.kept hB)
    have hq : q ≤ 100 := by have := cnt_le a1 ds; have := HC.out; have := HL.out; omega
    have HO := Lib.hid hO
    have HS := Lib.hid (fun g hg => gap_some hG g hg)
    clear hG hgs hO
    go_loopg [6, 7, 20] (q + 1) (fun gh va vh vi wr => GI a1 ds gs L q w1 gh va vh vi wr)
    case atStart => exact ⟨0, 0, rfl, rfl, rfl, .inl ⟨by omega, by omega, HG.out, rfl⟩, rfl⟩
    case round =>
      obtain ⟨k, a, rfl, rfl, rfl, hst, rfl⟩ := hrel
      rcases hst with ⟨hk, ha, hGp, rfl⟩ | ⟨rfl, rfl, rfl⟩
      · obtain ⟨n, en⟩ : ∃ n, gs[k]?.getD 0 = n := ⟨_, rfl⟩
        have hgl := HQ.out
        have hdl := HL.out
        obtain ⟨t1, t2, t3⟩ := gap_at hGp (by omega) en (by omega)
        have cn := HO.out.cell (i := k) (by rw [cs_len]; omega)
        rw [cs_at, en] at cn
        have k0 : (0 : Int) ≤ (k : Int) := by omega
        have k1 : (k : Int) < (q : Int) + 1 := by omega
        have T2 := Lib.hid t2
        have T3 := Lib.hid t3
        rw [hdl] at t1
        clear hGp en t2 t3 hgl hdl
        go_wp2_with fail
        go_loopg [6, 9] n (fun gh va vj wr => JI a n w1 gh va vj wr)
        case atStart => exact ⟨0, a, rfl, rfl, rfl, rfl, by omega, rfl⟩
        case round =>
          obtain ⟨j, p, rfl, rfl, hp, rfl, hj, rfl⟩ := hrel
          by_cases hlt : j < n
          · have j1 : (j : Int) < (n : Int) := by omega
            have p1 : p < L := by omega
            have p2 : (p : Int) < (L : Int) := by omega
            have p3 : (0 : Int) ≤ (p : Int) := by omega
            have HB := Lib.hid (T2.out j hlt)
            rw [hp] at HB
            have hpl : p < ds.length := by rw [HL.out]; exact p1
            have hxp : isU32 (ds[p]?.getD 0) := HU.out _ (by rw [List.getElem?_eq_getElem hpl]; exact List.getElem_mem _)
            rcases V1.out with h0 | ⟨off, rfl, hc⟩
            · simp [h0] at hpl
            have c0 := hc p hpl
            generalize ds[p]?.getD 0 = x at c0 hxp HB
            have HP := Lib.hid hp
            clear hc hpl hp
            go_wp2_with (first
              | (go_at_call 11; refine (refHit8_any x a1 _ hxp).mono ?_; rw [HB.out]; rintro e w2 ⟨rfl, rfl⟩))
            go_roundg (n - (j + 1))
            case measure => omega
            case rel => exact ⟨j + 1, p + 1, by go_num, by go_num, by have := HP.out; omega, rfl, by omega, rfl⟩
          · obtain rfl : j = n := by omega
            clear T2
            rcases T3.out with ⟨u1, u2⟩ | ⟨u1, u2, u3, u4⟩
            · obtain rfl : k = q := by have := HQ.out; omega
              obtain rfl : p = L := by have := HL.out; omega
              clear u1 u2
              have HP := Lib.hid hp
              clear hp T3
              go_wp2_with fail
              go_roundg (k + 1 - (k + 1))
              case measure => omega
              case rel => exact ⟨k + 1, p, by go_num, rfl, rfl, .inr ⟨rfl, rfl, rfl⟩, rfl⟩
            · have hkq : k < q := by have := HQ.out; omega
              have hkq' : (k : Int) < (q : Int) := by omega
              have hpl : p < ds.length := by omega
              have p1 : p < L := by have := HL.out; omega
              have p2 : (p : Int) < (L : Int) := by omega
              have p3 : (0 : Int) ≤ (p : Int) := by omega
              rw [hp] at u3 u4
              have HB := Lib.hid u3
              have H4 := Lib.hid u4
              have hxp : isU32 (ds[p]?.getD 0) := HU.out _ (by rw [List.getElem?_eq_getElem hpl]; exact List.getElem_mem _)
              rcases V1.out with h0 | ⟨off, rfl, hc⟩
              · simp [h0] at hpl
              have c0 := hc p hpl
              generalize ds[p]?.getD 0 = x at c0 hxp HB
              have HP := Lib.hid hp
              clear hc hpl hp u1 u2 u3 u4 T3
              go_wp2_with (first
                | (go_at_call 11; refine (refHit8_any x a1 _ hxp).mono ?_; rw [HB.out]; rintro e w2 ⟨rfl, rfl⟩))
              go_roundg (q + 1 - (k + 1))
              case measure => omega
              case rel => exact ⟨k + 1, p + 1, by go_num, by go_num, rfl, .inl ⟨by omega, by omega, H4.out, by go_num⟩, rfl⟩
      · go_wp2_with (first
          | (go_at_call 17; refine (count_any gl a cap0 a0 ds a1 _ V1.out HL.out HU.out (by omega)).mono ?_; rw [HC.out]; rintro e w2 ⟨rfl, rfl⟩)
          | (go_at_call 13; refine (works08_any _).mono ?_; rintro e w3 ⟨rfl, B3⟩))
        go_ret
        exact ⟨rfl, new_then hB B3⟩

set_option maxRecDepth 100000 in
theorem lifted (os : Os) (started : os.Started) (H : Type) (enc : TypeId × Value → H) :
    ReturnsInHanded {} Try.checked os 6 .any (Rows.diceGapsSpec.pre6 enc Try.prog Try.f6 Rows.diceGapsRow.domain false) (Rows.diceGapsSpec.post enc Try.prog Try.f6 false true false false) := by
  refine returnsInHanded_of_change (C := Try.checked) own started (by kernel_rfl) Try.func6
    (ChangeSpec.witness6 (enc := enc) (C := Try.checked) false ⟨#[], #[.slice none 0 0, .int .i64 0], []⟩ 8 (by kernel_rfl) (by kernel_rfl) (by kernel_rfl) (by kernel_rfl)) ?_
  intro W base args ds gs before hval0 hW hcnd _
  have hval : ∀ (j : Nat) t v, Try.f6.params[j]? = some t → args[j]? = some v → Value.okWide Try.prog W .any base t v := hval0
  have hW' := hW
  obtain ⟨p, q, hA0, hV, rfl, hfz, hnd⟩ := hW
  have hA : DataW.TrodAll enc Try.prog W 0 (fun _ => true) true Try.f6.params.toList args.toList ds p := hA0
  rw [Try.params6] at hA hval
  obtain ⟨v0, vs0, d0, ds0, p0, q0, hargs, rfl, rfl, h0, r0⟩ := trodAll_cons hA
  obtain ⟨v1, vs1, d1, ds1, p1, q1, rfl, rfl, rfl, h1, r1⟩ := trodAll_cons r0
  obtain ⟨rfl, rfl, rfl⟩ := trodAll_nil r1
  obtain rfl : args = #[v0, v1] := by cases args; simp_all
  obtain ⟨rfl, rfl⟩ := trodVars_none hV
  have k0 := h0
  have lt0 : ∀ x ∈ p0, x.block < W.heap.size := by obtain ⟨m, hm⟩ := k0; exact DataW.trod_lt m _ _ _ hm
  obtain ⟨a0, len0, cap0, rfl⟩ := okWide_slice Try.underlying22 (hval 0 22 v0 rfl rfl)
  obtain ⟨z0, w0⟩ := isRow_of Try.underlying22 Try.underlying26 (by kernel_rfl) h0
  have k1 := h1
  have lt1 : ∀ x ∈ p1, x.block < W.heap.size := by obtain ⟨m, hm⟩ := k1; exact DataW.trod_lt m _ _ _ hm
  obtain ⟨a1, rfl, _, _, w1⟩ := open_int Try.underlying2 (hval 1 2 v1 rfl rfl) h1
  clear hA0 hval0
  refine (walk a0 len0 cap0 z0 a1 W w0 w1).mono fun e W' ⟨he, bel⟩ => ?_
  subst he
  exact ⟨_, rfl, _, _, _, [], _, [], hW', trodAll_mk1 (shut_bool Try.underlying4 _), (trodAll_cons_mk (Below.trod laidOut (by kernel_rfl) (of_decide_eq_true (by kernel_rfl)) k0 bel lt0) (trodAll_cons_mk (Below.trod laidOut (by kernel_rfl) (of_decide_eq_true (by kernel_rfl)) k1 bel lt1) trodAll_mk0)), rfl, bel.frame _, fun h => by cases h⟩

theorem over : Rows.diceGapsRow.holds Try.pinned (OpenSpec.ofChange Rows.diceGapsSpec) :=
  OpenClaim.holds_of_wide 6 Try.f6 rfl rfl rfl rfl rfl rfl rfl ⟨rfl, rfl, rfl, rfl, rfl⟩ rfl rfl rfl rfl rfl (by kernel_rfl) Try.func6 (by kernel_rfl)
    (of_decide_eq_true (by kernel_rfl)) (by unfold Func.isWrapper; first | (rw [if_pos (by decide +kernel)]; kernel_rfl) | (rw [if_neg (by decide +kernel)]; exact ⟨rfl, rfl⟩))
    (fun os started H enc _ => lifted os started H enc)
end diceGaps
theorem diceGaps_holds : Rows.DiceGapsSaid := diceGaps.over
end Go.Proofs.Ytdicpocoolmoeaa
