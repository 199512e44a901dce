/- For every number of turns ahead and every list, what is pushed (the first forty numbers) comes out as it came in, in the same order, and nothing is left: RingBack returns true and changes nothing that was there. No conditions. -/
import Derived.Test.YtamcakckbabeiaaKit
import Derived.Test.YtamcakckbabeiaaWorks05
import Derived.Test.YtamcakckbabeiaaRingF
import Derived.Deep.DeepCutAuto
namespace Go.Proofs.Ytamcakckbabeiaa
namespace ringBack
open Go.ChangeShapes Go.WideShapes Go.ChangeAt Go.RowKit
open Go.ChangeMaps (open_string shut_string)
set_option linter.unusedVariables false

def InvA (w : World) (M A gh : Nat) (vi : Value) (wr : World) : Prop := ∃ j : Nat, j ≤ A ∧ gh = A - j ∧ vi = .int .i64 (j : Int) ∧ R8.RAt w w.heap.size M [] wr
def InvB (w : World) (M : Nat) (zs : List Int) (n gh : Nat) (vi : Value) (wr : World) : Prop := ∃ k : Nat, k ≤ n ∧ gh = n - k ∧ vi = .int .i64 (k : Int) ∧ R8.RAt w w.heap.size M (zs.take k) wr
def InvC (w : World) (M : Nat) (zs : List Int) (n gh : Nat) (vi : Value) (wr : World) : Prop := ∃ k : Nat, k ≤ n ∧ gh = n - k ∧ vi = .int .i64 (k : Int) ∧ R8.RAt w w.heap.size M (zs.drop k) wr
theorem head_at {zs ys : List Int} {z : Int} {i : Nat} (h : zs.drop i = z :: ys) : zs[i]?.getD 0 = z := by
  have h1 : (zs.drop i)[0]? = some z := by rw [h]; rfl
  rw [List.getElem?_drop, Nat.add_zero] at h1
  rw [h1]; rfl
theorem own : ownKnob Try.prog.godebug = none := by kernel_rfl
theorem laidOut : laidOutB Try.prog = true := by kernel_rfl

set_option maxHeartbeats 4000000 in
set_option maxRecDepth 100000 in
theorem walk (a0 : Int) (a1 : Option Addr) (len1 cap1 : Nat) (z1 : List Int) (w : World) (w0 : (Lit.int .u8 a0).wf = true) (w1 : IsRow .i64 w a1 len1 cap1 z1) :
    Calls Try.prog 4 #[.int .u8 a0, .slice a1 len1 cap1] w fun e w' => e = .returned (.bool true) ∧ Below w.heap.size w w' := by
  have bu := bounds_u8 w0
  obtain ⟨A, rfl⟩ : ∃ A : Nat, a0 = (A : Int) := ⟨a0.toNat, by omega⟩
  obtain ⟨n, hn⟩ : ∃ n, n = min len1 40 := ⟨_, rfl⟩
  have hn1 : n ≤ len1 := by omega
  have hn2 : n ≤ 40 := by omega
  have hc1 := row_len w1
  have HW := Lib.hid w1
  have HN := Lib.hid hn
  clear w1 w0 hn
  go_enter Try.func4, Try.ntmps4
  go_upto_region 1 with (fail)
  go_cut [1] (fun v wx => v = .slice a1 n cap1 ∧ w = wx)
  case first =>
    by_cases h40 : len1 ≤ 40
    · obtain rfl : len1 = n := by have := HN.out; omega
      have k1 : (len1 : Int) ≤ 40 := by omega
      have k2 : (0 : Int) ≤ (len1 : Int) := by omega
      have k3 : (len1 : Int) ≤ (cap1 : Int) := by omega
      go_wp2_with fail
      go_meet
      case rel => exact ⟨rfl, rfl⟩
    · obtain rfl : n = 40 := by have := HN.out; omega
      have k1 : (40 : Int) < (len1 : Int) := by omega
      have k3 : (40 : Int) ≤ (cap1 : Int) := by omega
      go_wp2_with fail
      all_goals
        go_meet
        case rel => exact ⟨rfl, rfl⟩
  case rest =>
    obtain ⟨rfl, rfl⟩ := hcut
    obtain ⟨zs, ez⟩ : ∃ zs, zs = z1.take n := ⟨_, rfl⟩
    have hzl : zs.length = n := by rw [ez, List.length_take]; omega
    have HE : Hid (∀ k, k < n → ∃ b off, a1 = some ⟨b, off, none⟩ ∧ w.cell? ⟨b, off + k, none⟩ = some (.int .i64 (zs[k]?.getD 0)) ∧ b < w.heap.size) := Lib.hid fun k hk => by
      obtain ⟨b, off, h1, h2, h3, _⟩ := row_at HW.out (i := k) (by omega)
      refine ⟨b, off, h1, ?_, h3⟩
      rw [h2, ez, List.getElem?_take, if_pos hk]
    have HL := Lib.hid hzl
    have hM : R8.mst ((n : Int) + 1) = n + 1 := R8.mst_nat (n + 1) (by omega)
    have HM := Lib.hid hM
    clear ez hzl HW HN hM
    have k0 : (0 : Int) ≤ (n : Int) := by omega
    have k1 : (n : Int) ≤ 40 := by omega
    have ka : (0 : Int) ≤ (A : Int) := by omega
    have kb : (A : Int) ≤ 255 := by omega
    go_wp2_with (go_at_call 6; refine (R8.new_ring _ w).mono ?_; rw [HM.out]; rintro e wa ⟨rfl, RR, B1⟩)
    have S0 := R8.RAt.new RR B1
    clear RR B1
    go_loopg [6] A (fun gh vi wr => InvA w (n + 1) A gh vi wr)
    case atStart => exact ⟨0, by omega, rfl, rfl, S0⟩
    case round =>
      obtain ⟨j, hj, rfl, rfl, S1⟩ := hrel
      by_cases hlt : j < A
      · have j1 : (j : Int) < (A : Int) := by omega
        go_wp2_with (first
          | (go_at_call 11; refine (S1.push 7 (by simp)).mono ?_; rintro e w2 ⟨rfl, S2⟩)
          | (go_at_call 8; refine (R8.RAt.pop (z := 7) (zs := []) S2).mono ?_; rintro e w3 ⟨rfl, S3⟩))
        go_roundg (A - (j + 1))
        case measure => omega
        case rel => exact ⟨j + 1, by omega, rfl, by go_num, S3⟩
      · obtain rfl : j = A := by omega
        go_wp2_with fail
        go_loopg [34] n (fun gh vi wr => InvB w (n + 1) zs n gh vi wr)
        case atStart => exact ⟨0, by omega, rfl, rfl, by rw [List.take_zero]; exact S1⟩
        case round =>
          obtain ⟨k, hk, rfl, rfl, S2⟩ := hrel
          by_cases hkn : k < n
          · obtain ⟨b, off, rfl, hx, hb⟩ := HE.out k hkn
            obtain ⟨x, ex⟩ : ∃ x, zs[k]?.getD 0 = x := ⟨_, rfl⟩
            rw [ex] at hx
            have EX := Lib.hid ex
            clear ex
            have hx' := cell_low S2.below hb hx
            have n1 : (0 : Int) ≤ (k : Int) := by omega
            have n2 : (k : Int) < (n : Int) := by omega
            have hln : (zs.take k).length < n + 1 := by rw [List.length_take]; omega
            go_wp2_with (go_at_call 11; refine (S2.push x hln).mono ?_; rintro e w2 ⟨rfl, S3⟩)
            go_roundg (n - (k + 1))
            case measure => omega
            case rel => exact ⟨k + 1, by omega, rfl, by go_num, by rw [R8.take_next EX.out (by rw [HL.out]; exact hkn)]; exact S3⟩
          · obtain rfl : k = n := by omega
            rw [List.take_of_length_le (by rw [HL.out]; omega)] at S2
            go_wp2_with fail
            go_loopg [45] k (fun gh vi wr => InvC w (k + 1) zs k gh vi wr)
            case atStart => exact ⟨0, by omega, rfl, rfl, by rw [List.drop_zero]; exact S2⟩
            case round =>
              obtain ⟨i, hi, rfl, rfl, S3⟩ := hrel
              by_cases hin : i < k
              · obtain ⟨b, off, rfl, hx, hb⟩ := HE.out i hin
                obtain ⟨z, ys, hzs⟩ : ∃ z ys, zs.drop i = z :: ys := by
                  cases hd : zs.drop i with
                  | nil => have := HL.out; rw [List.drop_eq_nil_iff] at hd; omega
                  | cons z ys => exact ⟨z, ys, rfl⟩
                have ez : zs[i]?.getD 0 = z := head_at hzs
                rw [ez] at hx
                have hx' := cell_low S3.below hb hx
                rw [hzs] at S3
                have HY := Lib.hid (R8.drop_next hzs)
                clear hzs ez
                have n1 : (0 : Int) ≤ (i : Int) := by omega
                have n2 : (i : Int) < (k : Int) := by omega
                go_wp2_with (go_at_call 8; refine S3.pop.mono ?_; rintro e w2 ⟨rfl, S4⟩)
                go_roundg (k - (i + 1))
                case measure => omega
                case rel => exact ⟨i + 1, by omega, rfl, by go_num, by rw [HY.out]; exact S4⟩
              · obtain rfl : i = k := by omega
                rw [List.drop_of_length_le (by rw [HL.out]; omega)] at S3
                go_wp2_with (first
                  | (go_at_call 14; refine (S3.len (L := 0) rfl).mono ?_; rintro e w2 ⟨rfl, rfl⟩)
                  | (go_at_call 13; refine (works05_any _).mono ?_; rintro e w3 ⟨rfl, B3⟩))
                go_ret
                exact ⟨rfl, new_then S3.below B3⟩

set_option maxRecDepth 100000 in
theorem lifted (os : Os) (started : os.Started) (H : Type) (enc : TypeId × Value → H) :
    ReturnsInHanded {} Try.checked os 4 .any (Rows.ringBackSpec.pre6 enc Try.prog Try.f4 Rows.ringBackRow.domain false) (Rows.ringBackSpec.post enc Try.prog Try.f4 false true false false) := by
  refine returnsInHanded_of_change (C := Try.checked) own started (by kernel_rfl) Try.func4
    (ChangeSpec.witness6 (enc := enc) (C := Try.checked) false ⟨#[], #[.int .u8 0, .slice none 0 0], []⟩ 8 (by kernel_rfl) (by kernel_rfl) (by kernel_rfl) (by kernel_rfl)) ?_
  intro W base args ds gs before hval0 hW hcnd _
  have hval : ∀ (j : Nat) t v, Try.f4.params[j]? = some t → args[j]? = some v → Value.okWide Try.prog W .any base t v := hval0
  have hW' := hW
  obtain ⟨p, q, hA0, hV, rfl, hfz, hnd⟩ := hW
  have hA : DataW.TrodAll enc Try.prog W 0 (fun _ => true) true Try.f4.params.toList args.toList ds p := hA0
  rw [Try.params4] at hA hval
  obtain ⟨v0, vs0, d0, ds0, p0, q0, hargs, rfl, rfl, h0, r0⟩ := trodAll_cons hA
  obtain ⟨v1, vs1, d1, ds1, p1, q1, rfl, rfl, rfl, h1, r1⟩ := trodAll_cons r0
  obtain ⟨rfl, rfl, rfl⟩ := trodAll_nil r1
  obtain rfl : args = #[v0, v1] := by cases args; simp_all
  obtain ⟨rfl, rfl⟩ := trodVars_none hV
  have k0 := h0
  have lt0 : ∀ x ∈ p0, x.block < W.heap.size := by obtain ⟨m, hm⟩ := k0; exact DataW.trod_lt m _ _ _ hm
  obtain ⟨a0, rfl, _, _, w0⟩ := open_int Try.underlying5 (hval 0 5 v0 rfl rfl) h0
  have k1 := h1
  have lt1 : ∀ x ∈ p1, x.block < W.heap.size := by obtain ⟨m, hm⟩ := k1; exact DataW.trod_lt m _ _ _ hm
  obtain ⟨a1, len1, cap1, rfl⟩ := okWide_slice Try.underlying25 (hval 1 25 v1 rfl rfl)
  obtain ⟨z1, w1⟩ := isRow_of Try.underlying25 Try.underlying2 (by kernel_rfl) h1
  clear hA0 hval0
  refine (walk a0 a1 len1 cap1 z1 W w0 w1).mono fun e W' ⟨he, bel⟩ => ?_
  subst he
  exact ⟨_, rfl, _, _, _, [], _, [], hW', trodAll_mk1 (shut_bool Try.underlying4 _), (trodAll_cons_mk (Below.trod laidOut (by kernel_rfl) (of_decide_eq_true (by kernel_rfl)) k0 bel lt0) (trodAll_cons_mk (Below.trod laidOut (by kernel_rfl) (of_decide_eq_true (by kernel_rfl)) k1 bel lt1) trodAll_mk0)), rfl, bel.frame _, fun h => by cases h⟩

theorem over : Rows.ringBackRow.holds Try.pinned (OpenSpec.ofChange Rows.ringBackSpec) :=
  OpenClaim.holds_of_wide 4 Try.f4 rfl rfl rfl rfl rfl rfl rfl ⟨rfl, rfl, rfl, rfl, rfl⟩ rfl rfl rfl rfl rfl (by kernel_rfl) Try.func4 (by kernel_rfl)
    (of_decide_eq_true (by kernel_rfl)) (by unfold Func.isWrapper; first | (rw [if_pos (by decide +kernel)]; kernel_rfl) | (rw [if_neg (by decide +kernel)]; exact ⟨rfl, rfl⟩))
    (fun os started H enc _ => lifted os started H enc)
end ringBack
theorem ringBack_holds : Rows.RingBackSaid := ringBack.over
end Go.Proofs.Ytamcakckbabeiaa
