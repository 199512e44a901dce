/- For every two uint64 a and b and every wide number x: the product of a and b by b is a, and nothing is left; x by b, times b, and what is left, is x: WideBack returns true and changes nothing that was there. No conditions. -/
import Derived.Test.YtlppokoobkcbjaaKit
import Derived.Test.YtlppokoobkcbjaaWideC
import Derived.Deep.RegionHeld3
import Derived.Deep.DeepCutAuto
import Derived.Deep.Light
namespace Go.Proofs.Ytlppokoobkcbjaa
namespace wideBack
open Go.ChangeShapes Go.WideShapes Go.ChangeAt Go.RowKit
open Go.ChangeMaps (open_string shut_string)
set_option linter.unusedVariables false

theorem back (x0 x1 b : Int) (h0 : 0 ≤ x0 ∧ x0 ≤ 18446744073709551615) (h1 : 0 ≤ x1 ∧ x1 ≤ 18446744073709551615) (hb : 0 < b ∧ b ≤ 18446744073709551615) :
    ∃ q r kh kl : Int, wn x0 x1 / b = q ∧ wn x0 x1 % b = r ∧ hi64 q = kh ∧ lo64 q = kl ∧ (0 ≤ r ∧ r < b) ∧ (0 ≤ kh ∧ kh ≤ 18446744073709551615) ∧ (0 ≤ kl ∧ kl ≤ 18446744073709551615) ∧
      hi64 (kh * b) = 0 ∧ lo64 (kh * b) = kh * b ∧ (0 ≤ kh * b ∧ kh * b ≤ 18446744073709551615) ∧ (0 ≤ kl * b ∧ kl * b < 340282366920938463463374607431768211456) ∧
      wsum (hi64 (kl * b)) (lo64 (kl * b)) 0 r = kl * b + r ∧ wover (hi64 (kl * b)) (lo64 (kl * b)) 0 r = false ∧ (0 ≤ kl * b + r ∧ kl * b + r < 340282366920938463463374607431768211456) ∧
      wsum (hi64 (kl * b + r)) (lo64 (kl * b + r)) (kh * b) 0 = wn x0 x1 ∧ wover (hi64 (kl * b + r)) (lo64 (kl * b + r)) (kh * b) 0 = false := by
  have e := Int.mul_ediv_add_emod (wn x0 x1) b
  have m0 := Int.emod_nonneg (wn x0 x1) (b := b) (by omega)
  have m1 := Int.emod_lt_of_pos (wn x0 x1) hb.1
  have n := wn_bd x0 x1 h0 h1
  have q0 : 0 ≤ wn x0 x1 / b := Int.ediv_nonneg n.1 (by omega)
  have q1 : wn x0 x1 / b ≤ wn x0 x1 := Int.ediv_le_self _ n.1
  refine ⟨_, _, _, _, rfl, rfl, rfl, rfl, ?_⟩
  generalize wn x0 x1 % b = r at *
  generalize wn x0 x1 / b = q at *
  have hh := halves q
  have b1 := hi_bd q q0 (by omega)
  have b2 := lo_bd q
  generalize hi64 q = kh at *
  generalize lo64 q = kl at *
  have s : 18446744073709551616 * (kh * b) + kl * b + r = wn x0 x1 := by
    rw [← e, ← hh, Int.mul_add, Int.mul_left_comm b, Int.mul_comm b, Int.mul_comm b]
  have p1 := mul_bd kh b b1 (by omega)
  have p2 := mul_bd kl b b2 (by omega)
  generalize kh * b = u at *
  generalize kl * b = v at *
  unfold wover wsum
  rw [wn_halves, wn_halves]
  have z1 : wn 0 r = r := by unfold wn; omega
  have z2 : wn u 0 = 18446744073709551616 * u := by unfold wn; omega
  rw [z1, z2]
  refine ⟨by omega, b1, b2, by unfold hi64; omega, by unfold lo64; omega, by omega, by omega, by omega, by simp; omega, by omega, by omega, by simp; omega⟩

theorem own : ownKnob Try.prog.godebug = none := by kernel_rfl
theorem laidOut : laidOutB Try.prog = true := by kernel_rfl

set_option maxHeartbeats 4000000 in
set_option maxRecDepth 100000 in
theorem walk (a0 : Int) (a1 : Int) (a2x0 : Int) (a2x1 : Int) (w : World) (w0 : (Lit.int .u64 a0).wf = true) (w1 : (Lit.int .u64 a1).wf = true) (w2x0 : (Lit.int .u64 a2x0).wf = true) (w2x1 : (Lit.int .u64 a2x1).wf = true) :
    Calls Try.prog 6 #[.int .u64 a0, .int .u64 a1, .agg #[.int .u64 a2x0, .int .u64 a2x1]] w fun e w' => e = .returned (.bool true) ∧ Below w.heap.size w w' := by
  have b0 := bounds_u64 w0
  have b1 := bounds_u64 w1
  have b2 := bounds_u64 w2x0
  have b3 := bounds_u64 w2x1
  clear w0 w1 w2x0 w2x1
  by_cases h0 : a1 = 0
  · subst h0
    go_enter Try.func6, Try.ntmps6
    go_wp2_with (go_at_call 16; refine (works_any _).mono ?_; rintro e w1 ⟨rfl, B1⟩)
    go_ret
    exact ⟨rfl, new_then (new_alloc (new_refl w) _) B1⟩
  · have h1 : (a1 == 0) = false := by simpa using h0
    have p := mul_bd a0 a1 (by omega) (by omega)
    have hb1 := hi_bd (a0 * a1) p.1 (by omega)
    have hb2 := lo_bd (a0 * a1)
    have E := Lib.hid (wn_halves (a0 * a1))
    have d1 : a0 * a1 / a1 = a0 := Int.mul_ediv_cancel _ h0
    have d2 : a0 * a1 % a1 = 0 := Int.mul_emod_left a0 a1
    have d3 : hi64 a0 = 0 := by unfold hi64; omega
    have d4 : lo64 a0 = a0 := by unfold lo64; omega
    obtain ⟨q, r, kh, kl, e1, e2, e3, e4, c1, c2, c3, e5, e6, c4, c5, e7, e8, c6, e9, e10⟩ := back a2x0 a2x1 a1 b2 b3 (by omega)
    have K1 := Lib.hid (And.intro e1 (And.intro e2 (And.intro e3 e4)))
    have K2 := Lib.hid (And.intro e7 (And.intro e8 (And.intro e9 e10)))
    have K3 := Lib.hid (And.intro e5 e6)
    have K4 := Lib.hid (And.intro c5 c6)
    have hb5 := hi_bd (kl * a1) c5.1 c5.2
    have hb6 := lo_bd (kl * a1)
    have hb7 := hi_bd (kl * a1 + r) c6.1 c6.2
    have hb8 := lo_bd (kl * a1 + r)
    clear e1 e2 e3 e4 e5 e6 e7 e8 e9 e10 c5 c6 p
    go_enter Try.func6, Try.ntmps6
    go_upto_region 4 with (first
      | (go_at_call 13; refine (wideMul_any _ _ _ (by omega) (by omega)).mono ?_; rintro e w1 ⟨rfl, B1⟩)
      | (go_at_call 17; refine (wideDiv_any _ _ _ _ (by omega) (by omega) (by omega)).mono ?_; rw [E.out]; rintro e w2 ⟨rfl, B2⟩))
    have A5 := (((At.new w [.int .u64 a2x0, .int .u64 a2x1] 24).kept B1).kept B2).alloc (.cells #[.int .u64 0, .int .u64 a0] 24)
    have A7 := At.new w2 [.int .u64 0, .int .u64 a0] 24
    have L := new_alloc (new_then (new_then (new_alloc (new_refl w) _) B1) B2) (.cells #[.int .u64 0, .int .u64 a0] 24)
    clear hb1 hb2 E d1 d2 d3 d4 B1 B2
    generalize w2.heap.size = g7 at *
    generalize w2.alloc (.cells #[.int .u64 0, .int .u64 a0] 24) = W1 at *
    generalize hg5 : w.heap.size = g5 at *
    have HG := Lib.hid hg5
    clear hg5
    have x5 := A5.cell 0 rfl
    have y5 := A5.cell 1 rfl
    have l5 := A5.1
    clear w1 w2
    go_upto_region 5 with (go_at_call 17; refine (wideDiv_any _ _ _ _ (by omega) (by omega) (by omega)).mono ?_; rw [K1.out.1, K1.out.2.1, K1.out.2.2.1, K1.out.2.2.2]; rintro e w1 ⟨rfl, B1⟩)
    have A9 := At.new w1 [.int .u64 kh, .int .u64 kl] 24
    have N1 := new_alloc B1 (.cells #[.int .u64 kh, .int .u64 kl] 24)
    generalize w1.heap.size = g9 at *
    generalize w1.alloc (.cells #[.int .u64 kh, .int .u64 kl] 24) = W2 at *
    clear x5 y5 B1 w1
    have x9 := A9.cell 0 rfl
    have y9 := A9.cell 1 rfl
    have l9 := A9.1
    go_cut [11, 12] (fun p11 p12 wx => ∃ g11 g12 : Nat, p11 = .pointer (some ⟨g11, 0, none⟩) ∧ p12 = .pointer (some ⟨g12, 0, none⟩) ∧ At wx g11 [.int .u64 (hi64 (kl * a1)), .int .u64 (lo64 (kl * a1))] ∧ At wx g12 [.int .u64 0, .int .u64 (kh * a1)] ∧ Below W2.heap.size W2 wx)
    case first =>
      have n5 : ¬ W2.heap.size = g9 := by omega
      have n6 : ¬ W2.heap.size + 1 = g9 := by omega
      go_region_held3 (fun w' => w'.cell? ⟨g9, 0, none⟩ = some (.int .u64 kh) ∧ w'.cell? ⟨g9, 1, none⟩ = some (.int .u64 kl)) (first | go_keep | exact two_kept Bb (by assumption) | exact two_kept Ba ⟨by assumption, by assumption⟩ | exact two_kept Ba (by assumption))
        (first
          | (go_at_call_of 13 (Value.int .u64 kl); refine (wideMul_any _ _ _ (by omega) (by omega)).mono ?_; (try rw [K3.out.1, K3.out.2]); rintro e wa ⟨rfl, Ba⟩
             have LA : Below W2.heap.size W2 wa := new_then (by repeat (first | exact new_refl W2 | apply new_alloc | apply new_drew)) Ba
             have swa : wa.cell? ⟨g9, 0, none⟩ = some (.int .u64 kh) ∧ wa.cell? ⟨g9, 1, none⟩ = some (.int .u64 kl) := two_kept LA ⟨by assumption, by assumption⟩
             obtain ⟨hcwa, hfwa, hzwa⟩ := behind Ba
             try simp at hzwa
             try have Aa0 : At wa W2.heap.size [.int .u64 0, .int .u64 0] := by (refine At.kept ?_ Ba; (try change At (World.alloc _ _) _ _); (first | (((with_reducible refine at_new2 ?_); first | rfl | (simp; done))) | ((with_reducible refine At.alloc ?_ _); ((with_reducible refine at_new2 ?_); first | rfl | (simp; done)))); done)
             try have Aa1 : At wa (W2.heap.size + 1) [.int .u64 0, .int .u64 0] := by (refine At.kept ?_ Ba; (try change At (World.alloc _ _) _ _); (((with_reducible refine at_new2 ?_); first | rfl | (simp; done))); done)
             have z1 : g9 < wa.heap.size := World.block_lt_of_cell? _ _ swa.1
             have szwa := LA.size
             have na1 : ¬ wa.heap.size = g9 := by omega
             have na2 : ¬ wa.heap.size + 1 = g9 := by omega
             try have q1 : W2.heap.size < wa.heap.size := by omega
             try have q2 : W2.heap.size + 1 < wa.heap.size := by omega)
          | (go_at_call_of 13 (Value.int .u64 kh); refine (wideMul_any _ _ _ (by omega) (by omega)).mono ?_; (try rw [K3.out.1, K3.out.2]); rintro e wb ⟨rfl, Bb⟩
             have LB : Below W2.heap.size W2 wb := new_then (by repeat (first | exact LA | apply new_alloc | apply new_drew)) Bb
             have swb : wb.cell? ⟨g9, 0, none⟩ = some (.int .u64 kh) ∧ wb.cell? ⟨g9, 1, none⟩ = some (.int .u64 kl) := two_kept LB ⟨by assumption, by assumption⟩
             obtain ⟨hcwb, hfwb, hzwb⟩ := behind Bb
             try simp at hzwb
             try have Ab0 : At wb W2.heap.size [.int .u64 0, .int .u64 0] := by (refine At.kept ?_ Bb; (repeat (first | exact Aa0 | apply At.alloc)); done)
             try have Ab1 : At wb (W2.heap.size + 1) [.int .u64 0, .int .u64 0] := by (refine At.kept ?_ Bb; (repeat (first | exact Aa1 | apply At.alloc)); done)
             try have Ab2 : At wb wa.heap.size [.int .u64 0, .int .u64 0] := by (refine At.kept ?_ Bb; (try change At (World.alloc _ _) _ _); (first | (((with_reducible refine at_new2 ?_); first | rfl | (simp; done))) | ((with_reducible refine At.alloc ?_ _); ((with_reducible refine at_new2 ?_); first | rfl | (simp; done)))); done)
             try have Ab3 : At wb (wa.heap.size + 1) [.int .u64 0, .int .u64 0] := by (refine At.kept ?_ Bb; (((with_reducible refine at_new2 ?_); first | rfl | (simp; done))); done)
             have z2 : g9 < wb.heap.size := World.block_lt_of_cell? _ _ swb.1
             have szwb := LB.size
             have nb1 : ¬ wb.heap.size = g9 := by omega
             have nb2 : ¬ wb.heap.size + 1 = g9 := by omega
             try have q3 : W2.heap.size < wb.heap.size := by omega
             try have q4 : W2.heap.size + 1 < wb.heap.size := by omega
             try have q5 : wa.heap.size < wb.heap.size := by omega
             try have q6 : wa.heap.size + 1 < wb.heap.size := by omega))
      all_goals
        go_wp2_with fail
        go_meet
        case rel =>
          clear K1 K2 K3 K4 A5 A7 L N1 hb5 hb6 hb7 hb8 c1 c2 c3 c4 b0 b1 b2 b3 h0 h1
          go_light
          refine ⟨_, _, rfl, rfl, ?_, ?_, ?_⟩
          case refine_1 => repeat (first | assumption | (with_reducible refine At.set2 (u0 := .int .u64 0) (v0 := .int .u64 0) ?_) | (((with_reducible refine at_new2 ?_); first | rfl | (simp; done))) | with_reducible refine At.alloc ?_ _ | ((with_reducible refine At.far ?_ ?_ _); rotate_left; focus (first | omega | (simp; omega) | (simp; done))))
          case refine_2 => repeat (first | assumption | (with_reducible refine At.set2 (u0 := .int .u64 0) (v0 := .int .u64 0) ?_) | (((with_reducible refine at_new2 ?_); first | rfl | (simp; done))) | with_reducible refine At.alloc ?_ _ | ((with_reducible refine At.far ?_ ?_ _); rotate_left; focus (first | omega | (simp; omega) | (simp; done))))
          repeat (first | exact LB | apply new_alloc | (refine new_set ?_ (by first | omega | (simp; omega) | simp) _))
    case rest =>
      obtain ⟨g11, g12, rfl, rfl, A11, A12, N2⟩ := hcut
      replace A5 := (A5.kept N1).kept N2
      replace A7 := (A7.kept N1).kept N2
      have L2 := (L.trans (N1.mono (Nat.le_of_lt l5))).trans (N2.mono (Nat.le_trans (Nat.le_of_lt l5) N1.size))
      have x11 := A11.cell 0 rfl
      have y11 := A11.cell 1 rfl
      have l11 := A11.1
      have s2 := Nat.le_trans N1.size N2.size
      have H1 : hi64 (wn a2x0 a2x1) = a2x0 := by unfold hi64 wn; omega
      have H2 : lo64 (wn a2x0 a2x1) = a2x1 := by unfold lo64 wn; omega
      clear x9 y9 A9 l9 N1 N2 L
      go_upto_region 7 with (go_at_call 9; refine (wideAdd_any _ _ _ _ _ (by omega) (by omega) (by omega) (by omega)).mono ?_; rw [K2.out.1, K2.out.2.1]; rintro e w1 ⟨rfl, B1⟩)
      have B2 := new_alloc B1 (.cells #[.int .u64 (hi64 (kl * a1 + r)), .int .u64 (lo64 (kl * a1 + r))] 24)
      have A13 := At.new w1 [.int .u64 (hi64 (kl * a1 + r)), .int .u64 (lo64 (kl * a1 + r))] 24
      replace A5 := A5.kept B2
      replace A7 := A7.kept B2
      replace A12 := A12.kept B2
      replace L2 := L2.trans (B2.mono (Nat.le_trans (Nat.le_of_lt l5) s2))
      generalize w1.heap.size = g13 at *
      generalize w1.alloc (.cells #[.int .u64 (hi64 (kl * a1 + r)), .int .u64 (lo64 (kl * a1 + r))] 24) = W4 at *
      have x13 := A13.cell 0 rfl
      have y13 := A13.cell 1 rfl
      have y12 := A12.cell 1 rfl
      clear x11 y11 l11 B1 w1
      have s4 : g5 ≤ W4.heap.size := Nat.le_of_lt A5.1
      clear l5 s2 B2
      go_upto_region 8 with (go_at_call 9; refine (wideAdd_any _ _ _ _ _ (by omega) (by omega) (by omega) (by omega)).mono ?_; rw [K2.out.2.2.1, K2.out.2.2.2, H1, H2]; rintro e w1 ⟨rfl, B1⟩)
      have B2 := new_alloc B1 (.cells #[.int .u64 a2x0, .int .u64 a2x1] 24)
      have A15 := At.new w1 [.int .u64 a2x0, .int .u64 a2x1] 24
      replace A5 := A5.kept B2
      replace A7 := A7.kept B2
      replace A12 := A12.kept B2
      replace L2 := L2.trans (B2.mono s4)
      generalize w1.heap.size = g15 at *
      generalize w1.alloc (.cells #[.int .u64 a2x0, .int .u64 a2x1] 24) = W5 at *
      clear x13 y13 y12
      have x5 := A5.cell 0 rfl
      have y5 := A5.cell 1 rfl
      have x7 := A7.cell 0 rfl
      have y7 := A7.cell 1 rfl
      have x12 := A12.cell 0 rfl
      have x15 := A15.cell 0 rfl
      have y15 := A15.cell 1 rfl
      have s5 : g5 ≤ W5.heap.size := Nat.le_of_lt A5.1
      go_wp2_with (go_at_call 16; refine (works_any _).mono ?_; rintro e w2 ⟨rfl, B3⟩)
      go_ret
      exact ⟨rfl, by rw [HG.out]; exact L2.trans (B3.mono s5)⟩

set_option maxRecDepth 100000 in
theorem lifted (os : Os) (started : os.Started) (H : Type) (enc : TypeId × Value → H) :
    ReturnsInHanded {} Try.checked os 6 .any (Rows.wideBackSpec.pre6 enc Try.prog Try.f6 Rows.wideBackRow.domain false) (Rows.wideBackSpec.post enc Try.prog Try.f6 false true false false) := by
  refine returnsInHanded_of_change (C := Try.checked) own started (by kernel_rfl) Try.func6
    (ChangeSpec.witness6 (enc := enc) (C := Try.checked) false ⟨#[], #[.int .u64 0, .int .u64 0, .agg #[.int .u64 0, .int .u64 0]], []⟩ 8 (by kernel_rfl) (by kernel_rfl) (by kernel_rfl) (by kernel_rfl)) ?_
  intro W base args ds gs before hval0 hW hcnd _
  have hval : ∀ (j : Nat) t v, Try.f6.params[j]? = some t → args[j]? = some v → Value.okWide Try.prog W .any base t v := hval0
  have hW' := hW
  obtain ⟨p, q, hA0, hV, rfl, hfz, hnd⟩ := hW
  have hA : DataW.TrodAll enc Try.prog W 0 (fun _ => true) true Try.f6.params.toList args.toList ds p := hA0
  rw [Try.params6] at hA hval
  obtain ⟨v0, vs0, d0, ds0, p0, q0, hargs, rfl, rfl, h0, r0⟩ := trodAll_cons hA
  obtain ⟨v1, vs1, d1, ds1, p1, q1, rfl, rfl, rfl, h1, r1⟩ := trodAll_cons r0
  obtain ⟨v2, vs2, d2, ds2, p2, q2, rfl, rfl, rfl, h2, r2⟩ := trodAll_cons r1
  obtain ⟨rfl, rfl, rfl⟩ := trodAll_nil r2
  obtain rfl : args = #[v0, v1, v2] := by cases args; simp_all
  obtain ⟨rfl, rfl⟩ := trodVars_none hV
  have k0 := h0
  have lt0 : ∀ x ∈ p0, x.block < W.heap.size := by obtain ⟨m, hm⟩ := k0; exact DataW.trod_lt m _ _ _ hm
  obtain ⟨a0, rfl, _, _, w0⟩ := open_int Try.underlying22 (hval 0 22 v0 rfl rfl) h0
  have k1 := h1
  have lt1 : ∀ x ∈ p1, x.block < W.heap.size := by obtain ⟨m, hm⟩ := k1; exact DataW.trod_lt m _ _ _ hm
  obtain ⟨a1, rfl, _, _, w1⟩ := open_int Try.underlying22 (hval 1 22 v1 rfl rfl) h1
  have k2 := h2
  have lt2 : ∀ x ∈ p2, x.block < W.heap.size := by obtain ⟨m, hm⟩ := k2; exact DataW.trod_lt m _ _ _ hm
  obtain ⟨cs2, rfl, l2, L2⟩ := flat_of (n := 2) (ls := [(0, .inl .u64), (1, .inl .u64)]) (by kernel_rfl) (by kernel_rfl) (agg_of_struct Try.underlying24 (hval 2 24 v2 rfl rfl)) h2
  obtain ⟨a2x0, e2x0, w2x0⟩ := leaf_int (L2 (0, .inl .u64) (by simp))
  obtain ⟨a2x1, e2x1, w2x1⟩ := leaf_int (L2 (1, .inl .u64) (by simp))
  obtain rfl : cs2 = [.int .u64 a2x0, .int .u64 a2x1] := list_is l2 rfl (by intro i hi; match i, hi with | 0, _ => exact e2x0 | 1, _ => exact e2x1)
  clear hA0 hval0
  refine (walk a0 a1 a2x0 a2x1 W w0 w1 w2x0 w2x1).mono fun e W' ⟨he, bel⟩ => ?_
  subst he
  exact ⟨_, rfl, _, _, _, [], _, [], hW', trodAll_mk1 (shut_bool Try.underlying4 _), (trodAll_cons_mk (Below.trod laidOut (by kernel_rfl) (of_decide_eq_true (by kernel_rfl)) k0 bel lt0) (trodAll_cons_mk (Below.trod laidOut (by kernel_rfl) (of_decide_eq_true (by kernel_rfl)) k1 bel lt1) (trodAll_cons_mk (Below.trod laidOut (by kernel_rfl) (of_decide_eq_true (by kernel_rfl)) k2 bel lt2) trodAll_mk0))), rfl, bel.frame _, fun h => by cases h⟩

theorem over : Rows.wideBackRow.holds Try.pinned (OpenSpec.ofChange Rows.wideBackSpec) :=
  OpenClaim.holds_of_wide 6 Try.f6 rfl rfl rfl rfl rfl rfl rfl ⟨rfl, rfl, rfl, rfl, rfl⟩ rfl rfl rfl rfl rfl (by kernel_rfl) Try.func6 (by kernel_rfl)
    (of_decide_eq_true (by kernel_rfl)) (by unfold Func.isWrapper; first | (rw [if_pos (by decide +kernel)]; kernel_rfl) | (rw [if_neg (by decide +kernel)]; exact ⟨rfl, rfl⟩))
    (fun os started H enc _ => lifted os started H enc)
end wideBack
theorem wideBack_holds : Rows.WideBackSaid := wideBack.over
end Go.Proofs.Ytlppokoobkcbjaa
