/- For every list of bytes (its first three hundred) and any two bytes n and at, sum.Sum does not hang on how the bytes are parted at n, nor, of an even number of them, on the order of both parts at an even place; what sum.Fill fills at at has as many bytes and is verified; and the chapter's example holds: SumParts returns true and changes nothing. No conditions. -/
import Derived.Test.YtdmdmekplfaflaaKit
import Derived.Test.YtdmdmekplfaflaaSumG
import Derived.Deep.DeepCutAuto
import Derived.Deep.QuietTactic
import Derived.BigQuiet
namespace Go.Proofs.Ytdmdmekplfaflaa
namespace sumParts
open Go.ChangeShapes Go.WideShapes Go.ChangeAt Go.RowKit
open Go.ChangeMaps (open_string shut_string)
set_option linter.unusedVariables false

theorem own : ownKnob Try.prog.godebug = none := by kernel_rfl
theorem laidOut : laidOutB Try.prog = true := by kernel_rfl

set_option maxHeartbeats 4000000 in
set_option maxRecDepth 100000 in
theorem walk (a0 : Option Addr) (len0 cap0 : Nat) (z0 : List Int) (a1 : Int) (a2 : Int) (w : World) (w0 : IsRow .u8 w a0 len0 cap0 z0) (w1 : (Lit.int .u8 a1).wf = true) (w2 : (Lit.int .u8 a2).wf = true) :
    Calls Try.prog 5 #[.slice a0 len0 cap0, .int .u8 a1, .int .u8 a2] w fun e w' => e = .returned (.bool true) ∧ Below w.heap.size w w' := by
  have hc2 := row_low w0
  unfold maxLen at hc2
  have b1 := bounds_u8 w1
  have b2 := bounds_u8 w2
  obtain ⟨L, hn⟩ : ∃ n, n = min len0 300 := ⟨_, rfl⟩
  have hn1 : L ≤ len0 := by omega
  have hn2 : L ≤ 300 := by omega
  have HW := Lib.hid w0
  have HN := Lib.hid hn
  clear w0 hn w1 w2
  go_enter Try.func5, Try.ntmps5
  go_upto_region 1 with (fail)
  go_cut [0] (fun v wx => v = .slice a0 L cap0 ∧ w = wx)
  case first =>
    by_cases h40 : len0 ≤ 300
    · obtain rfl : len0 = L := by have := HN.out; omega
      have k1 : (len0 : Int) ≤ 300 := by omega
      have k2 : (0 : Int) ≤ (len0 : Int) := by omega
      have k3 : (len0 : Int) ≤ (cap0 : Int) := by omega
      go_wp2_with fail
      go_meet
      case rel => exact ⟨rfl, rfl⟩
    · obtain rfl : L = 300 := by have := HN.out; omega
      have k1 : (300 : Int) < (len0 : Int) := by omega
      have k3 : (300 : Int) ≤ (cap0 : Int) := by omega
      go_wp2_with fail
      go_meet
      case rel => exact ⟨rfl, rfl⟩
  case rest =>
    obtain ⟨rfl, rfl⟩ := hcut
    obtain ⟨gl, hls⟩ := row_ls HW.out L hn1
    have hU := byt_row (k := L) HW.out
    have hl := row_take HW.out L hn1
    have hsrc := row_src HW.out L hn1
    have hcap : L ≤ cap0 := by omega
    have hcap2 : cap0 ≤ 9223372036854775807 := by omega
    generalize z0.take L = ds at hls hU hl hsrc
    have HV := Lib.hid hls
    have HU := Lib.hid hU
    have HL := Lib.hid hl
    have HS := Lib.hid hsrc
    clear hl hls hU hsrc HW HN hn1 hc2
    obtain ⟨k, hk⟩ : ∃ k : Nat, min a1.toNat L = k := ⟨_, rfl⟩
    have kL : k ≤ L := by omega
    go_upto_region 2 with (fail)
    go_cut [7] (fun v wx => v = .int .i64 (k : Int) ∧ w = wx)
    case first =>
      rcases Int.lt_trichotomy a1 (L : Int) with h | h | h
      · obtain rfl : (k : Int) = a1 := by omega
        clear hk
        go_wp2_with fail
        go_meet
        case rel => exact ⟨rfl, rfl⟩
      · obtain rfl : k = L := by omega
        subst h
        clear hk
        go_wp2_with fail
        go_meet
        case rel => exact ⟨rfl, rfl⟩
      · obtain rfl : k = L := by omega
        clear hk
        go_wp2_with fail
        go_meet
        case rel => exact ⟨rfl, rfl⟩
    case rest =>
      obtain ⟨rfl, rfl⟩ := hcut
      clear hk b1
      obtain ⟨A1, hA1⟩ : ∃ A, (if cap0 = k then a0 else Option.map (fun x => x.add k) a0) = A := ⟨_, rfl⟩
      have F1 := Lib.hid (parts_one (cap := cap0) HV.out HL.out HU.out hn2)
      have F3 := Lib.hid (parts_three HV.out HL.out HU.out hn2 kL hcap hA1)
      have k0 : (0 : Int) ≤ (k : Int) := by omega
      have k1 : (k : Int) ≤ (L : Int) := by omega
      have k2 : (k : Int) ≤ (cap0 : Int) := by omega
      have l0 : (0 : Int) ≤ (L : Int) := by omega
      generalize ckS ds = s at F1 F3
      go_upto_region 3 with (fail)
      go_cut [32] (fun v wx => v = .bool false ∧ Below w.heap.size w wx)
      case first =>
        go_region_held3 (fun w' => True)
          (first | trivial | go_keep)
          (first
            | (go_at_call 6
               refine (sumIs_any _ _ _ s _ ?_).mono ?_
               · first
                 | exact F3.out w.drew _ _ (new_drew (new_refl w)) rfl
                 | exact (F3.out w.drew _ _ (new_drew (new_refl w)) rfl).alloc _
                 | exact F3.out (w.drew.alloc _) _ _ (new_alloc (new_drew (new_refl w)) _) (alloc_size w.drew _)
                 | exact F1.out (w.drew.alloc _) _ _ (new_alloc (new_drew (new_refl w)) _) (alloc_size w.drew _)
                 | exact (F1.out w.drew _ _ (new_drew (new_refl w)) rfl).alloc _
               rintro e w' ⟨rfl, rfl⟩))
        all_goals
          go_wp2_with fail
          go_meet
          case rel => exact ⟨rfl, new_alloc (new_alloc (new_drew (new_refl w)) _) _⟩
      case rest =>
        obtain ⟨rfl, B1⟩ := hcut
        clear hA1 F1 F3 A1
        have V1 := Lib.hid (HV.out.kept B1)
        have S1 := Lib.hid (HS.out.kept B1)
        generalize wc = W at B1 V1 S1 ⊢
        obtain ⟨m, hm⟩ : ∃ m : Nat, k - k % 2 = m := ⟨_, rfl⟩
        have hm1 : (k : Int) - (k : Int) % 2 = (m : Int) := by omega
        have mL : m ≤ L := by omega
        have hme : m % 2 = 0 := by omega
        have HM := Lib.hid hme
        clear hm hme
        obtain ⟨A1, hA1⟩ : ∃ A, (if cap0 = m then a0 else Option.map (fun x => x.add m) a0) = A := ⟨_, rfl⟩
        have m0 : (0 : Int) ≤ (m : Int) := by omega
        have m1 : (m : Int) ≤ (L : Int) := by omega
        have m2 : (m : Int) ≤ (cap0 : Int) := by omega
        go_upto_region 6 with (fail)
        clear hm1
        go_cut [54] (fun v wx => v = .bool false ∧ Below W.heap.size W wx)
        case first =>
          by_cases hev : L % 2 = 0
          · have hev2 : (L : Int) % 2 = 0 := by omega
            have hev3 : (L : Int).tmod 2 = 0 := by rw [Int.tmod_eq_emod_of_nonneg l0]; exact hev2
            have F1 := Lib.hid (parts_one (cap := cap0) V1.out HL.out HU.out hn2)
            have F2 := Lib.hid (parts_two V1.out HL.out HU.out hn2 mL hcap HM.out hev hA1)
            generalize ckS ds = s at F1 F2
            clear hev
            go_region_held3 (fun w' => True)
              (first | trivial | go_keep)
              (first
                | (go_at_call 6
                   refine (sumIs_any _ _ _ s _ ?_).mono ?_
                   · first
                     | exact F2.out W.drew _ _ (new_drew (new_refl W)) rfl
                     | exact (F2.out W.drew _ _ (new_drew (new_refl W)) rfl).alloc _
                     | exact F2.out (W.drew.alloc _) _ _ (new_alloc (new_drew (new_refl W)) _) (alloc_size W.drew _)
                     | exact F1.out (W.drew.alloc _) _ _ (new_alloc (new_drew (new_refl W)) _) (alloc_size W.drew _)
                     | exact (F1.out W.drew _ _ (new_drew (new_refl W)) rfl).alloc _
                   rintro e w' ⟨rfl, rfl⟩))
            all_goals
              go_wp2_with fail
              go_meet
              case rel => exact ⟨rfl, new_alloc (new_alloc (new_drew (new_refl W)) _) _⟩
          · have hev2 : (L : Int) % 2 = 1 := by omega
            have hev3 : (L : Int).tmod 2 = 1 := by rw [Int.tmod_eq_emod_of_nonneg l0]; exact hev2
            clear hev
            go_quiet (fail)
            go_wp2_with fail
            go_meet
            case rel => exact ⟨rfl, new_draw (new_refl W) _⟩
        case rest =>
          obtain ⟨rfl, B2⟩ := hcut
          clear hA1 A1 m0 m1 m2
          have S2 := Lib.hid (S1.out.kept B2)
          generalize wc = X at B2 S2 ⊢
          have BX := new_then B1 B2
          clear B1 B2 V1 S1
          by_cases hmay : mayS L a2
          · obtain ⟨h0, h1, h2⟩ := hmay
            obtain ⟨p, rfl⟩ : ∃ p : Nat, a2 = (p : Int) := ⟨a2.toNat, by omega⟩
            have hp : p + 2 ≤ L := by omega
            have hL : L ≤ 100000 := by omega
            have EZ : Hid (ckS (filS ds p) = 0) := Lib.hid (fil_zero (by rw [HL.out]; exact hp) (by omega) HU.out)
            have HFB := Lib.hid (fil_byt HU.out p)
            clear h2
            go_wp2_with (first
              | (go_at_call 10; refine (fill_yes a0 L cap0 p ds X S2.out HU.out hL hp h1).mono ?_; rintro e w1 ⟨g1, c1, rfl, O1, B1⟩)
              | (go_at_call 8; refine (verOne_any ⟨some ⟨g1, 0, none⟩, L, c1, g1, filS ds p⟩ w1 _ _ rfl (own_pt O1 HFB.out) hL).mono ?_; rw [EZ.out]; rintro e w2 ⟨rfl, rfl⟩)
              | (go_at_call 9; refine (works10_any _).mono ?_; rintro e w3 ⟨rfl, B3⟩))
            go_ret
            exact ⟨rfl, new_then BX (new_then B1 (new_then (new_alloc (new_refl w1) _) B3))⟩
          · have hb2 : -9223372036854775808 ≤ a2 ∧ a2 ≤ 9223372036854775807 := by omega
            have HB2 := Lib.hid hb2
            have hL : L ≤ 100000 := by omega
            have HM2 := Lib.hid hmay
            clear hb2 hmay
            go_wp2_with (first
              | (go_at_call 10; refine (fill_no a0 L cap0 a2 X hL HB2.out HM2.out).mono ?_; rintro e w1 ⟨rfl, rfl⟩)
              | (go_at_call 9; refine (works10_any _).mono ?_; rintro e w3 ⟨rfl, B3⟩))
            go_ret
            exact ⟨rfl, new_then BX B3⟩

set_option maxRecDepth 100000 in
theorem lifted (os : Os) (started : os.Started) (H : Type) (enc : TypeId × Value → H) :
    ReturnsInHanded {} Try.checked os 5 .any (Rows.sumPartsSpec.pre6 enc Try.prog Try.f5 Rows.sumPartsRow.domain false) (Rows.sumPartsSpec.post enc Try.prog Try.f5 false true false false) := by
  refine returnsInHanded_of_change (C := Try.checked) own started (by kernel_rfl) Try.func5
    (ChangeSpec.witness6 (enc := enc) (C := Try.checked) false ⟨#[], #[.slice none 0 0, .int .u8 0, .int .u8 0], []⟩ 8 (by kernel_rfl) (by kernel_rfl) (by kernel_rfl) (by kernel_rfl)) ?_
  intro W base args ds gs before hval0 hW hcnd _
  have hval : ∀ (j : Nat) t v, Try.f5.params[j]? = some t → args[j]? = some v → Value.okWide Try.prog W .any base t v := hval0
  have hW' := hW
  obtain ⟨p, q, hA0, hV, rfl, hfz, hnd⟩ := hW
  have hA : DataW.TrodAll enc Try.prog W 0 (fun _ => true) true Try.f5.params.toList args.toList ds p := hA0
  rw [Try.params5] at hA hval
  obtain ⟨v0, vs0, d0, ds0, p0, q0, hargs, rfl, rfl, h0, r0⟩ := trodAll_cons hA
  obtain ⟨v1, vs1, d1, ds1, p1, q1, rfl, rfl, rfl, h1, r1⟩ := trodAll_cons r0
  obtain ⟨v2, vs2, d2, ds2, p2, q2, rfl, rfl, rfl, h2, r2⟩ := trodAll_cons r1
  obtain ⟨rfl, rfl, rfl⟩ := trodAll_nil r2
  obtain rfl : args = #[v0, v1, v2] := by cases args; simp_all
  obtain ⟨rfl, rfl⟩ := trodVars_none hV
  have k0 := h0
  have lt0 : ∀ x ∈ p0, x.block < W.heap.size := by obtain ⟨m, hm⟩ := k0; exact DataW.trod_lt m _ _ _ hm
  obtain ⟨a0, len0, cap0, rfl⟩ := okWide_slice Try.underlying22 (hval 0 22 v0 rfl rfl)
  obtain ⟨z0, w0⟩ := isRow_of Try.underlying22 Try.underlying5 (by kernel_rfl) h0
  have k1 := h1
  have lt1 : ∀ x ∈ p1, x.block < W.heap.size := by obtain ⟨m, hm⟩ := k1; exact DataW.trod_lt m _ _ _ hm
  obtain ⟨a1, rfl, _, _, w1⟩ := open_int Try.underlying5 (hval 1 5 v1 rfl rfl) h1
  have k2 := h2
  have lt2 : ∀ x ∈ p2, x.block < W.heap.size := by obtain ⟨m, hm⟩ := k2; exact DataW.trod_lt m _ _ _ hm
  obtain ⟨a2, rfl, _, _, w2⟩ := open_int Try.underlying5 (hval 2 5 v2 rfl rfl) h2
  clear hA0 hval0
  refine (walk a0 len0 cap0 z0 a1 a2 W w0 w1 w2).mono fun e W' ⟨he, bel⟩ => ?_
  subst he
  exact ⟨_, rfl, _, _, _, [], _, [], hW', trodAll_mk1 (shut_bool Try.underlying4 _), (trodAll_cons_mk (Below.trod laidOut (by kernel_rfl) (of_decide_eq_true (by kernel_rfl)) k0 bel lt0) (trodAll_cons_mk (Below.trod laidOut (by kernel_rfl) (of_decide_eq_true (by kernel_rfl)) k1 bel lt1) (trodAll_cons_mk (Below.trod laidOut (by kernel_rfl) (of_decide_eq_true (by kernel_rfl)) k2 bel lt2) trodAll_mk0))), rfl, bel.frame _, fun h => by cases h⟩

theorem over : Rows.sumPartsRow.holds Try.pinned (OpenSpec.ofChange Rows.sumPartsSpec) :=
  OpenClaim.holds_of_wide 5 Try.f5 rfl rfl rfl rfl rfl rfl rfl ⟨rfl, rfl, rfl, rfl, rfl⟩ rfl rfl rfl rfl rfl (by kernel_rfl) Try.func5 (by kernel_rfl)
    (of_decide_eq_true (by kernel_rfl)) (by unfold Func.isWrapper; first | (rw [if_pos (by decide +kernel)]; kernel_rfl) | (rw [if_neg (by decide +kernel)]; exact ⟨rfl, rfl⟩))
    (fun os started H enc _ => lifted os started H enc)
end sumParts
theorem sumParts_holds : Rows.SumPartsSaid := sumParts.over
end Go.Proofs.Ytdmdmekplfaflaa
