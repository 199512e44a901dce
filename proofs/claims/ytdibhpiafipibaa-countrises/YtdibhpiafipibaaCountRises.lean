/- For every four int32 as a count, every list of ints and every uint16 as the bytes: behind packets of the first fifty numbers no counter fell, the marked packets rose by all that came marked, and the bytes of the three by all that came able; and the chapter's example holds: CountRises returns true and changes nothing that was there. No conditions. -/
import Derived.Test.YtdibhpiafipibaaKit
import Derived.Test.YtdibhpiafipibaaCntD
namespace Go.Proofs.Ytdibhpiafipibaa
namespace countRises
open Go.ChangeShapes Go.WideShapes Go.ChangeAt Go.RowKit
open Go.ChangeMaps (open_string shut_string)
set_option linter.unusedVariables false

def RsI (ks : List Int) (N : Nat) (w1 : World) (gh : Nat) (va vm vi : Value) (wr : World) : Prop := ∃ i : Nat, vi = .int .i64 (i : Int) ∧ va = .int .i64 (abN ks i : Int) ∧ vm = .int .i64 (mkN ks i : Int) ∧ N - i = gh ∧ i ≤ N ∧ w1 = wr
theorem i32_of {x : Int} (h : (Lit.int .i32 x).wf = true) : smR x := by have := bounds_i32 h; unfold smR; omega
theorem ab_few (ks : List Int) (i : Nat) : abN ks i ≤ i := Nat.le_trans List.countP_le_length (by rw [List.length_take]; omega)
theorem mk_few (ks : List Int) (i : Nat) : mkN ks i ≤ i := Nat.le_trans List.countP_le_length (by rw [List.length_take]; omega)
theorem own : ownKnob Try.prog.godebug = none := by kernel_rfl
theorem laidOut : laidOutB Try.prog = true := by kernel_rfl

set_option maxHeartbeats 4000000 in
set_option maxRecDepth 100000 in
theorem walk (a0x0 : Int) (a0x1 : Int) (a0x2 : Int) (a0x3 : Int) (a1 : Option Addr) (len1 cap1 : Nat) (z1 : List Int) (a2 : Int) (w : World) (w0x0 : (Lit.int .i32 a0x0).wf = true) (w0x1 : (Lit.int .i32 a0x1).wf = true) (w0x2 : (Lit.int .i32 a0x2).wf = true) (w0x3 : (Lit.int .i32 a0x3).wf = true) (w1 : IsRow .i64 w a1 len1 cap1 z1) (w2 : (Lit.int .u16 a2).wf = true) :
    Calls Try.prog 5 #[.agg #[.int .i32 a0x0, .int .i32 a0x1, .int .i32 a0x2, .int .i32 a0x3], .slice a1 len1 cap1, .int .u16 a2] w fun e w' => e = .returned (.bool true) ∧ Below w.heap.size w w' := by
  have r0 := i32_of w0x0
  have r1 := i32_of w0x1
  have r2 := i32_of w0x2
  have r3 := i32_of w0x3
  have rb := bounds_u16 w2
  have R0 := Lib.hid (And.intro r0 (And.intro r1 (And.intro r2 r3)))
  have ok : CnOk ⟨a0x0, a0x1, a0x2, a0x3⟩ := by unfold smR at r0 r1 r2 r3; exact ⟨by unfold i64R; dsimp only; omega, by unfold i64R; dsimp only; omega, by unfold i64R; dsimp only; omega, by unfold i64R; dsimp only; omega⟩
  have OK := Lib.hid ok
  have hc1 := row_len w1
  have hc2 := (row_low w1).2
  unfold maxLen at hc2
  obtain ⟨N, hn⟩ : ∃ n, n = min len1 50 := ⟨_, rfl⟩
  have hn1 : N ≤ len1 := by omega
  have hn2 : N ≤ 50 := by omega
  have HW := Lib.hid w1
  have HN := Lib.hid hn
  unfold smR at r0 r1 r2 r3
  clear w0x0 w0x1 w0x2 w0x3 w1 w2 hn ok
  go_enter Try.func5, Try.ntmps5
  go_upto_region 1 with (fail)
  go_cut [1] (fun v wx => v = .slice a1 N cap1 ∧ wx = w.alloc (.cells #[.int .i32 a0x0, .int .i32 a0x1, .int .i32 a0x2, .int .i32 a0x3] 41))
  case first =>
    by_cases h40 : len1 ≤ 50
    · obtain rfl : len1 = N := by have := HN.out; omega
      have k1 : (len1 : Int) ≤ 50 := by omega
      have k2 : (0 : Int) ≤ (len1 : Int) := by omega
      have k3 : (len1 : Int) ≤ (cap1 : Int) := by omega
      go_wp2_with fail
      go_meet
      case rel => exact ⟨rfl, rfl⟩
    · obtain rfl : N = 50 := by have := HN.out; omega
      have k1 : (50 : Int) < (len1 : Int) := by omega
      have k3 : (50 : Int) ≤ (cap1 : Int) := by omega
      go_wp2_with fail
      go_meet
      case rel => exact ⟨rfl, rfl⟩
  case rest =>
    obtain ⟨rfl, rfl⟩ := hcut
    obtain ⟨g, hls⟩ := row_ls HW.out N hn1
    have hl := row_take HW.out N hn1
    generalize z1.take N = ks at hls hl
    have HL := Lib.hid hls
    have HQ := Lib.hid hl
    have HR := Lib.hid (rose_all (c := ⟨a0x0, a0x1, a0x2, a0x3⟩) (b := a2) ks R0.out (by omega) N (by rw [hl]; omega) (by omega))
    rw [show ks.take N = ks from by rw [← hl]; exact List.take_length] at HR
    clear hls hl HW HN R0
    have CL : Hid (∀ w', LsK .i64 w' g a1 ks → Calls Try.prog 8 #[.agg #[.int .i64 a0x0, .int .i64 a0x1, .int .i64 a0x2, .int .i64 a0x3], .slice a1 N cap1, .int .i64 a2] w' (CntIs w' (allC ⟨a0x0, a0x1, a0x2, a0x3⟩ a2 ks))) := Lib.hid (fun w' h => all15_any ⟨a0x0, a0x1, a0x2, a0x3⟩ a2 g N cap1 a1 ks w' OK.out h HQ.out (by omega))
    generalize allC ⟨a0x0, a0x1, a0x2, a0x3⟩ a2 ks = d at CL HR
    obtain ⟨P, p, q, R⟩ := HR.out
    have HA := Lib.hid R
    clear HR R OK
    have E0 := Lib.hid ((Blk.newAt (alloc_size w (.cells #[.int .i32 a0x0, .int .i32 a0x1, .int .i32 a0x2, .int .i32 a0x3] 41)) [.int .i64 a0x0, .int .i64 a0x1, .int .i64 a0x2, .int .i64 a0x3] 23))
    have L0 := Lib.hid (new_alloc (new_alloc (new_refl w) (.cells #[.int .i32 a0x0, .int .i32 a0x1, .int .i32 a0x2, .int .i32 a0x3] 41)) (.cells #[.int .i64 a0x0, .int .i64 a0x1, .int .i64 a0x2, .int .i64 a0x3] 23))
    go_upto_region 4 with (go_at_call 8; refine (CL.out _ (HL.out.kept (new_alloc (new_alloc (new_refl w) _) _))).mono ?_; rintro e w1 ⟨rfl, B1⟩)
    have E1 := Lib.hid ((E0.out.kept B1).alloc (.cells #[.int .i64 d.cep, .int .i64 d.ceb, .int .i64 d.e0, .int .i64 d.e1] 23))
    have E2 := Lib.hid (Blk.new w1 [.int .i64 d.cep, .int .i64 d.ceb, .int .i64 d.e0, .int .i64 d.e1] 23)
    have L1 := Lib.hid (new_alloc (new_then L0.out B1) (.cells #[.int .i64 d.cep, .int .i64 d.ceb, .int .i64 d.e0, .int .i64 d.e1] 23))
    have LS := Lib.hid (HL.out.kept L1.out)
    clear E0 L0 HL B1 CL
    generalize w1.alloc (.cells #[.int .i64 d.cep, .int .i64 d.ceb, .int .i64 d.e0, .int .i64 d.e1] 23) = W at *
    generalize w1.heap.size = pb at *
    generalize w.heap.size + 1 = pa at *
    go_wp2_with fail
    go_loopg [9, 10, 39] N (fun gh va vm vi wr => RsI ks N W gh va vm vi wr)
    case atStart => exact ⟨0, rfl, by simp [abN], by simp [mkN], rfl, by omega, rfl⟩
    case round =>
      obtain ⟨i, rfl, rfl, rfl, rfl, hi, rfl⟩ := hrel
      by_cases hlt : i < N
      · have k0 : (0 : Int) ≤ (i : Int) := by omega
        have k1 : (i : Int) < (N : Int) := by omega
        rcases LS.out with rfl | ⟨off, rfl, hc⟩
        · have := HQ.out; simp at this; omega
        have z0 := hc i (by have := HQ.out; omega)
        have HM := mkN_more (ks := ks) (i := i) (by have := HQ.out; omega)
        have HB := abN_more (ks := ks) (i := i) (by have := HQ.out; omega)
        have f1 := ab_few ks i
        have f2 := mk_few ks i
        rw [show ks[i]?.getD 0 = bF ks i from rfl] at z0
        clear hc
        generalize bF ks i = k at *
        generalize abN ks i = x at *
        generalize mkN ks i = y at *
        unfold isMk at HM
        unfold isAb at HB
        by_cases q1 : k < 1
        · have HM' : Hid (mkN ks (i + 1) = y) := Lib.hid (by rw [HM, if_neg (by simp; omega)])
          have HB' : Hid (abN ks (i + 1) = x) := Lib.hid (by rw [HB, if_neg (by simp; omega)])
          have q2 : ¬ 1 ≤ k := by omega
          have q3 : ¬ k = 3 := by omega
          clear HM HB
          go_wp2_with fail
          go_roundg (N - (i + 1))
          case measure => omega
          case rel => exact ⟨i + 1, by go_num, by rw [HB'.out], by rw [HM'.out], rfl, by omega, rfl⟩
        · have q2 : 1 ≤ k := by omega
          by_cases q4 : k ≤ 3
          · by_cases q3 : k = 3
            · subst q3
              have HM' : Hid (mkN ks (i + 1) = y + 1) := Lib.hid (by rw [HM, if_pos (by decide)])
              have HB' : Hid (abN ks (i + 1) = x + 1) := Lib.hid (by rw [HB, if_pos (by decide)])
              clear HM HB
              go_wp2_with fail
              go_roundg (N - (i + 1))
              case measure => omega
              case rel => exact ⟨i + 1, by go_num, by rw [HB'.out]; go_num, by rw [HM'.out]; go_num, rfl, by omega, rfl⟩
            · have HM' : Hid (mkN ks (i + 1) = y) := Lib.hid (by rw [HM, if_neg (by simp; omega)])
              have HB' : Hid (abN ks (i + 1) = x + 1) := Lib.hid (by rw [HB, if_pos (by simp; omega)])
              clear HM HB
              go_wp2_with fail
              go_roundg (N - (i + 1))
              case measure => omega
              case rel => exact ⟨i + 1, by go_num, by rw [HB'.out]; go_num, by rw [HM'.out], rfl, by omega, rfl⟩
          · have HM' : Hid (mkN ks (i + 1) = y) := Lib.hid (by rw [HM, if_neg (by simp; omega)])
            have HB' : Hid (abN ks (i + 1) = x) := Lib.hid (by rw [HB, if_neg (by simp; omega)])
            have q3 : ¬ k = 3 := by omega
            clear HM HB
            go_wp2_with fail
            go_roundg (N - (i + 1))
            case measure => omega
            case rel => exact ⟨i + 1, by go_num, by rw [HB'.out], by rw [HM'.out], rfl, by omega, rfl⟩
      · obtain rfl : i = N := by omega
        have g0 := E1.out.cell 0 rfl
        have g1 := E1.out.cell 1 rfl
        have g2 := E1.out.cell 2 rfl
        have g3 := E1.out.cell 3 rfl
        have h0 := E2.out.cell 0 rfl
        have h1 := E2.out.cell 1 rfl
        have h2 := E2.out.cell 2 rfl
        have h3 := E2.out.cell 3 rfl
        obtain ⟨s1, s2, s3, s4, s5, s6, s7, s8, s9⟩ := HA.out
        simp only at s1 s2 s3 s4
        rw [s1] at h0
        rw [s2] at h1
        rw [s3] at h2
        rw [s4] at h3
        generalize abN ks i = x at *
        generalize mkN ks i = y at *
        have t1 : (y : Int) * a2 = P := s5.symm
        have t2 : (x : Int) * a2 = P + p + q := s6.symm
        clear s1 s2 s3 s4 s5 s6 HA E1 E2 LS
        have v1 : a0x0 + (y : Int) - a0x0 = (y : Int) := by omega
        have v2 : a0x1 + P - a0x1 = P := by omega
        have v3 : a0x2 + p - a0x2 = p := by omega
        have v4 : a0x3 + q - a0x3 = q := by omega
        have v5 : P + (a0x2 + p) - a0x2 = P + p := by omega
        have v6 : P + p + (a0x3 + q) - a0x3 = P + p + q := by omega
        have v7 : a0x2 ≤ a0x2 + p := by omega
        have v8 : a0x3 ≤ a0x3 + q := by omega
        go_wp2_with (go_at_call 10; refine (works15_any _).mono ?_; rintro e w5 ⟨rfl, B5⟩)
        all_goals go_ret
        all_goals exact ⟨rfl, new_then L1.out B5⟩

set_option maxRecDepth 100000 in
theorem lifted (os : Os) (started : os.Started) (H : Type) (enc : TypeId × Value → H) :
    ReturnsInHanded {} Try.checked os 5 .any (Rows.countRisesSpec.pre6 enc Try.prog Try.f5 Rows.countRisesRow.domain false) (Rows.countRisesSpec.post enc Try.prog Try.f5 false true false false) := by
  refine returnsInHanded_of_change (C := Try.checked) own started (by kernel_rfl) Try.func5
    (ChangeSpec.witness6 (enc := enc) (C := Try.checked) false ⟨#[], #[.agg #[.int .i32 0, .int .i32 0, .int .i32 0, .int .i32 0], .slice none 0 0, .int .u16 0], []⟩ 8 (by kernel_rfl) (by kernel_rfl) (by kernel_rfl) (by kernel_rfl)) ?_
  intro W base args ds gs before hval0 hW hcnd _
  have hval : ∀ (j : Nat) t v, Try.f5.params[j]? = some t → args[j]? = some v → Value.okWide Try.prog W .any base t v := hval0
  have hW' := hW
  obtain ⟨p, q, hA0, hV, rfl, hfz, hnd⟩ := hW
  have hA : DataW.TrodAll enc Try.prog W 0 (fun _ => true) true Try.f5.params.toList args.toList ds p := hA0
  rw [Try.params5] at hA hval
  obtain ⟨v0, vs0, d0, ds0, p0, q0, hargs, rfl, rfl, h0, r0⟩ := trodAll_cons hA
  obtain ⟨v1, vs1, d1, ds1, p1, q1, rfl, rfl, rfl, h1, r1⟩ := trodAll_cons r0
  obtain ⟨v2, vs2, d2, ds2, p2, q2, rfl, rfl, rfl, h2, r2⟩ := trodAll_cons r1
  obtain ⟨rfl, rfl, rfl⟩ := trodAll_nil r2
  obtain rfl : args = #[v0, v1, v2] := by cases args; simp_all
  obtain ⟨rfl, rfl⟩ := trodVars_none hV
  have k0 := h0
  have lt0 : ∀ x ∈ p0, x.block < W.heap.size := by obtain ⟨m, hm⟩ := k0; exact DataW.trod_lt m _ _ _ hm
  obtain ⟨cs0, rfl, l0, L0⟩ := flat_of (n := 4) (ls := [(0, .inl .i32), (1, .inl .i32), (2, .inl .i32), (3, .inl .i32)]) (by kernel_rfl) (by kernel_rfl) (agg_of_array Try.underlying41 (hval 0 41 v0 rfl rfl)) h0
  obtain ⟨a0x0, e0x0, w0x0⟩ := leaf_int (L0 (0, .inl .i32) (by simp))
  obtain ⟨a0x1, e0x1, w0x1⟩ := leaf_int (L0 (1, .inl .i32) (by simp))
  obtain ⟨a0x2, e0x2, w0x2⟩ := leaf_int (L0 (2, .inl .i32) (by simp))
  obtain ⟨a0x3, e0x3, w0x3⟩ := leaf_int (L0 (3, .inl .i32) (by simp))
  obtain rfl : cs0 = [.int .i32 a0x0, .int .i32 a0x1, .int .i32 a0x2, .int .i32 a0x3] := list_is l0 rfl (by intro i hi; match i, hi with | 0, _ => exact e0x0 | 1, _ => exact e0x1 | 2, _ => exact e0x2 | 3, _ => exact e0x3)
  have k1 := h1
  have lt1 : ∀ x ∈ p1, x.block < W.heap.size := by obtain ⟨m, hm⟩ := k1; exact DataW.trod_lt m _ _ _ hm
  obtain ⟨a1, len1, cap1, rfl⟩ := okWide_slice Try.underlying24 (hval 1 24 v1 rfl rfl)
  obtain ⟨z1, w1⟩ := isRow_of Try.underlying24 Try.underlying3 (by kernel_rfl) h1
  have k2 := h2
  have lt2 : ∀ x ∈ p2, x.block < W.heap.size := by obtain ⟨m, hm⟩ := k2; exact DataW.trod_lt m _ _ _ hm
  obtain ⟨a2, rfl, _, _, w2⟩ := open_int Try.underlying42 (hval 2 42 v2 rfl rfl) h2
  clear hA0 hval0
  refine (walk a0x0 a0x1 a0x2 a0x3 a1 len1 cap1 z1 a2 W w0x0 w0x1 w0x2 w0x3 w1 w2).mono fun e W' ⟨he, bel⟩ => ?_
  subst he
  exact ⟨_, rfl, _, _, _, [], _, [], hW', trodAll_mk1 (shut_bool Try.underlying4 _), (trodAll_cons_mk (Below.trod laidOut (by kernel_rfl) (of_decide_eq_true (by kernel_rfl)) k0 bel lt0) (trodAll_cons_mk (Below.trod laidOut (by kernel_rfl) (of_decide_eq_true (by kernel_rfl)) k1 bel lt1) (trodAll_cons_mk (Below.trod laidOut (by kernel_rfl) (of_decide_eq_true (by kernel_rfl)) k2 bel lt2) trodAll_mk0))), rfl, bel.frame _, fun h => by cases h⟩

theorem over : Rows.countRisesRow.holds Try.pinned (OpenSpec.ofChange Rows.countRisesSpec) :=
  OpenClaim.holds_of_wide 5 Try.f5 rfl rfl rfl rfl rfl rfl rfl ⟨rfl, rfl, rfl, rfl, rfl⟩ rfl rfl rfl rfl rfl (by kernel_rfl) Try.func5 (by kernel_rfl)
    (of_decide_eq_true (by kernel_rfl)) (by unfold Func.isWrapper; first | (rw [if_pos (by decide +kernel)]; kernel_rfl) | (rw [if_neg (by decide +kernel)]; exact ⟨rfl, rfl⟩))
    (fun os started H enc _ => lifted os started H enc)
end countRises
theorem countRises_holds : Rows.CountRisesSaid := countRises.over
end Go.Proofs.Ytdibhpiafipibaa
