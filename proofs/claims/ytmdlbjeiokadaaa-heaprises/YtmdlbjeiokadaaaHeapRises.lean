/- For every list of numbers, its first hundred, pushed as events at these times, are popped rising, each once, and those of one time as they were pushed: HeapRises returns true and changes nothing that was there. No conditions. -/
import Derived.Test.YtmdlbjeiokadaaaKit
import Derived.Test.YtmdlbjeiokadaaaHeapG
import Derived.Test.YtmdlbjeiokadaaaHeapH
import Derived.Test.YtmdlbjeiokadaaaRowK
import Derived.Deep.OwnRows
import Derived.Deep.DeepCutAuto
namespace Go.Proofs.Ytmdlbjeiokadaaa
namespace heapRises
open Go.ChangeShapes Go.WideShapes Go.ChangeAt Go.RowKit
open Go.ChangeMaps (open_string shut_string)
set_option linter.unusedVariables false

def Inv1 (w : World) (b n : Nat) (zs : List Int) (gh : Nat) (vi : Value) (wr : World) : Prop := ∃ k g : Nat, k ≤ n ∧ n - k = gh ∧ vi = .int .i64 (k : Int) ∧ HAt w b g (heapL zs k) k wr
/-- Beside the heap: what was seen, and the last one told. -/
def Beside (w : World) (b g s lb n k : Nat) (zs : List Int) (wr : World) : Prop :=
  ∃ (bs : List Bool) (la lk lf ln : Int), Blk wr s (bs.map Value.bool) 4 ∧ Seen zs (heapL zs n) k n bs ∧ Blk wr lb [.int .i64 la, .int .i64 lk, .int .i64 lf, .int .i64 ln] 27 ∧ LastAt (heapL zs n) k la ln ∧
    s ≠ b ∧ s ≠ g ∧ lb ≠ b ∧ lb ≠ g ∧ s ≠ lb ∧ w.heap.size ≤ s ∧ w.heap.size ≤ lb
def Inv2 (w : World) (b s lb n : Nat) (zs : List Int) (gh : Nat) (vi : Value) (wr : World) : Prop :=
  ∃ k g : Nat, k ≤ n ∧ n - k = gh ∧ vi = .int .i64 (k : Int) ∧ HAt w b g ((heapL zs n).drop k) n wr ∧ Beside w b g s lb n k zs wr
theorem made_bools (n : Nat) : madeCells #[.bool false] n = ((List.replicate n false).map Value.bool).toArray := by
  apply Array.toList_inj.1
  rw [toList_madeCells_one]; simp
theorem beside_start {w wr : World} {b g n : Nat} {zs : List Int} (h : HAt w b g (heapL zs n) n wr) :
    HAt w b g ((heapL zs n).drop 0) n ((wr.alloc (.cells (madeCells #[.bool false] n) 4)).alloc (.cells #[.int .i64 0, .int .i64 0, .int .i64 0, .int .i64 0] 27)) ∧
    Beside w b g wr.heap.size (wr.heap.size + 1) n 0 zs ((wr.alloc (.cells (madeCells #[.bool false] n) 4)).alloc (.cells #[.int .i64 0, .int .i64 0, .int .i64 0, .int .i64 0] 27)) := by
  have hl := h.1.lt
  have hw := h.2.2.2.size
  rw [made_bools]
  refine ⟨h.kept (new_alloc (new_alloc (new_refl wr) _) _), List.replicate n false, 0, 0, 0, 0, Blk.alloc (Blk.new wr _ _) _, seen_start _ _ _, Blk.newAt (alloc_size wr _) [.int .i64 0, .int .i64 0, .int .i64 0, .int .i64 0] _, fun h => absurd h (Nat.lt_irrefl _), by omega, by omega, by omega, by omega, by omega, by omega, by omega⟩
theorem out_two_blocks {w : World} {s lb j : Nat} {v u0 u1 u2 u3 : Value} : Out (fun k => k = s ∨ k = lb) w (((((w.setCell ⟨s, j, none⟩ v).setCell ⟨lb, 0, none⟩ u0).setCell ⟨lb, 1, none⟩ u1).setCell ⟨lb, 2, none⟩ u2).setCell ⟨lb, 3, none⟩ u3) :=
  Out.set (p := ⟨lb, 3, none⟩) (Out.set (p := ⟨lb, 2, none⟩) (Out.set (p := ⟨lb, 1, none⟩) (Out.set (p := ⟨lb, 0, none⟩) (Out.set (p := ⟨s, j, none⟩) (Out.refl (fun k => k = s ∨ k = lb) w) (.inl (.inl rfl)) v) (.inl (.inr rfl)) u0) (.inl (.inr rfl)) u1) (.inl (.inr rfl)) u2) (.inl (.inr rfl)) u3
/-- A round: one is told, seen, and is the last one. -/
theorem beside_next {w W : World} {b g s lb n k j : Nat} {zs : List Int} {R : List Wt} {bs : List Bool} {la lk lf ln : Int} (h : HAt w b g R n W) (hd : (heapL zs n).drop k = mkW zs j :: R) (ha : Asc (heapL zs n)) (hj : j < n)
    (hS : Blk W s (bs.map Value.bool) 4) (hs : Seen zs (heapL zs n) k n bs) (hL : Blk W lb [.int .i64 la, .int .i64 lk, .int .i64 lf, .int .i64 ln] 27)
    (n1 : s ≠ b) (n2 : s ≠ g) (n3 : lb ≠ b) (n4 : lb ≠ g) (n5 : s ≠ lb) (n6 : w.heap.size ≤ s) (n7 : w.heap.size ≤ lb) :
    let W' := ((((W.setCell ⟨s, j, none⟩ (.bool true)).setCell ⟨lb, 0, none⟩ (.int .i64 (mkW zs j).a)).setCell ⟨lb, 1, none⟩ (.int .i64 (mkW zs j).k)).setCell ⟨lb, 2, none⟩ (.int .i64 (mkW zs j).f)).setCell ⟨lb, 3, none⟩ (.int .i64 (mkW zs j).n)
    HAt w b g ((heapL zs n).drop (k + 1)) n W' ∧ Beside w b g s lb n (k + 1) zs W' := by
  have o := out_two_blocks (w := W) (s := s) (lb := lb) (j := j) (v := .bool true) (u0 := .int .i64 (mkW zs j).a) (u1 := .int .i64 (mkW zs j).k) (u2 := .int .i64 (mkW zs j).f) (u3 := .int .i64 (mkW zs j).n)
  obtain ⟨h1, h2, h3, h4⟩ := h
  have e2 := (take_next hd).2
  refine ⟨⟨by rw [e2]; exact h1.out o (by omega) (by omega), h2, h3, h4.trans (o.below h4.size (fun k hk => by rcases hk with rfl | rfl <;> assumption))⟩, bs.set j true, (mkW zs j).a, (mkW zs j).k, (mkW zs j).f, (mkW zs j).n, ?_, seen_next hs hd hj, ?_, last_next ha hd, n1, n2, n3, n4, n5, n6, n7⟩
  · rw [List.map_set]
    exact ((((hS.set j (.bool true)).far (p := ⟨lb, 0, none⟩) n5 _).far (p := ⟨lb, 1, none⟩) n5 _).far (p := ⟨lb, 2, none⟩) n5 _).far (p := ⟨lb, 3, none⟩) n5 _
  · exact ((((hL.far (p := ⟨s, j, none⟩) (fun e => n5 e.symm) _).set 0 _).set 1 _).set 2 _).set 3 _
theorem bool_cell {W : World} {s n j : Nat} {bs : List Bool} (h : Blk W s (bs.map Value.bool) 4) (hl : bs.length = n) (hj : j < n) {v : Bool} (hv : bs[j]?.getD false = v) : W.cell? ⟨s, j, none⟩ = some (.bool v) := by
  refine h.cell j ?_
  rw [List.getElem?_map, List.getElem?_eq_getElem (by omega)]
  rw [List.getElem?_eq_getElem (by omega)] at hv
  simpa using hv
theorem own : ownKnob Try.prog.godebug = none := by kernel_rfl
theorem laidOut : laidOutB Try.prog = true := by kernel_rfl

set_option maxHeartbeats 4000000 in
set_option maxRecDepth 100000 in
theorem walk (a0 : Option Addr) (len0 cap0 : Nat) (z0 : List Int) (w : World) (w0 : IsRow .i64 w a0 len0 cap0 z0) :
    Calls Try.prog 4 #[.slice a0 len0 cap0] w fun e w' => e = .returned (.bool true) ∧ Below w.heap.size w w' := by
  obtain ⟨n, hn⟩ : ∃ n, n = min len0 100 := ⟨_, rfl⟩
  have hn1 : n ≤ len0 := by omega
  have hn2 : n ≤ 100 := by omega
  have hc1 := row_len w0
  have HW := Lib.hid w0
  have HN := Lib.hid hn
  clear w0 hn
  go_enter Try.func4, Try.ntmps4
  go_upto_region 1 with (fail)
  go_cut [0] (fun v wx => v = .slice a0 n cap0 ∧ w = wx)
  case first =>
    by_cases h100 : len0 ≤ 100
    · obtain rfl : len0 = n := by have := HN.out; omega
      have k1 : (len0 : Int) ≤ 100 := by omega
      have k2 : (0 : Int) ≤ (len0 : Int) := by omega
      have k3 : (len0 : Int) ≤ (cap0 : Int) := by omega
      go_wp2_with fail
      go_meet
      case rel => exact ⟨rfl, rfl⟩
    · obtain rfl : n = 100 := by have := HN.out; omega
      have k1 : (100 : Int) < (len0 : Int) := by omega
      have k3 : (100 : Int) ≤ (cap0 : Int) := by omega
      go_wp2_with fail
      all_goals
        go_meet
        case rel => exact ⟨rfl, rfl⟩
  case rest =>
    obtain ⟨rfl, rfl⟩ := hcut
    obtain ⟨zs, ez⟩ : ∃ zs, zs = z0.take n := ⟨_, rfl⟩
    have hzl : zs.length = n := by rw [ez, List.length_take]; omega
    have HE : Hid (∀ k, k < n → ∃ b off, a0 = some ⟨b, off, none⟩ ∧ w.cell? ⟨b, off + k, none⟩ = some (.int .i64 (zs[k]?.getD 0)) ∧ b < w.heap.size) := Lib.hid fun k hk => by
      obtain ⟨b, off, h1, h2, h3, _⟩ := row_at HW.out (i := k) (by omega)
      refine ⟨b, off, h1, ?_, h3⟩
      rw [h2, ez, List.getElem?_take, if_pos hk]
    clear ez hzl HW HN
    have k0 : (0 : Int) ≤ (n : Int) := by omega
    have k1 : (n : Int) ≤ 100 := by omega
    go_wp2_with (go_at_call 7; refine (newA w).mono ?_; rintro e wa ⟨rfl, Q0⟩)
    go_loopg [19] n (fun gh vi wr => Inv1 w w.heap.size n zs gh vi wr)
    case atStart => exact ⟨0, _, by omega, rfl, rfl, Q0⟩
    case round =>
      clear Q0
      obtain ⟨k, g, hk, rfl, rfl, Q1⟩ := hrel
      by_cases hlt : k < n
      · obtain ⟨bl, off, rfl, hx, hb⟩ := HE.out k hlt
        have hx' := cell_low Q1.2.2.2 hb hx
        have j1 : (k : Int) < (n : Int) := by omega
        have j2 : (0 : Int) ≤ (k : Int) := by omega
        go_wp2_with (first
          | (go_at_call 12; refine (pushA (mkE zs k) Q1 (by omega)).mono ?_; rintro e w2 ⟨g2, rfl, Q2, _, _⟩))
        go_roundg (n - (k + 1))
        case measure => omega
        case rel => exact ⟨k + 1, g2, by omega, rfl, by go_num, by rw [show ((k + 1 : Nat) : Int) = (k : Int) + 1 by omega]; exact Q2⟩
      · obtain rfl : k = n := by omega
        have hmk : ∀ w, (Instr.makeSlice 43 (.int .i64 (k : Int)) (.int .i64 (k : Int))).run Try.prog w = .ok (.slice (some ⟨w.heap.size, 0, none⟩) k k) (w.alloc (.cells (madeCells #[.bool false] k) 4)) := fun w =>
          run_make_row' 43 4 (.bool false) 1 (by kernel_rfl) (by kernel_rfl) rfl .i64 .i64 k (by omega) (by omega) w
        obtain ⟨Q2, S2⟩ := beside_start Q1
        have HA := Lib.hid Q1.1.2.1
        have Q2' := Lib.hid Q2
        have S2' := Lib.hid S2
        clear Q1 Q2 S2
        go_wp2_with fail
        generalize hsb : wr.heap.size = s at Q2' S2' ⊢
        generalize hlb : s + 1 = lb at Q2' S2' ⊢
        go_loopg [36] k (fun gh vi wx => Inv2 w w.heap.size s lb k zs gh vi wx)
        case atStart => exact ⟨0, g, by omega, rfl, rfl, Q2'.out, S2'.out⟩
        case round =>
          clear Q2' S2' hmk hlt hk hsb hlb
          obtain ⟨i, gq, hi, rfl, rfl, Q3, bs, la, lk, lf, ln, hS, hs, hL, hlast, n1, n2, n3, n4, n5, n6, n7⟩ := hrel
          have hll := heapL_len zs k
          by_cases hin : i < k
          · obtain ⟨x, R, hd⟩ : ∃ x R, (heapL zs k).drop i = x :: R := by
              cases hq : (heapL zs k).drop i with
              | nil => rw [List.drop_eq_nil_iff] at hq; omega
              | cons x R => exact ⟨x, R, rfl⟩
            obtain ⟨j, hj, rfl⟩ := heapL_mem (List.mem_of_mem_drop (show x ∈ (heapL zs k).drop i by rw [hd]; exact List.mem_cons_self))
            obtain ⟨A, hA⟩ : ∃ A, zs[j]?.getD 0 = A := ⟨_, rfl⟩
            have em : mkW zs j = ⟨A, 0, 0, j, j⟩ := by unfold mkW; rw [hA]
            have hseen := seen_not hs HA.out hd hj
            have HD := Lib.hid hd
            have EM := Lib.hid em
            obtain ⟨bl, off, rfl, hx, hb⟩ := HE.out j hj
            rw [hA] at hx
            rw [hd, em] at Q3
            have hl1 : ∀ h : 0 < i, la < A ∨ (la = A ∧ ln < (j : Int)) := fun h => by
              obtain ⟨y, _, hya, hyt, hy⟩ := hlast h
              have h2 := hy _ _ hd
              rw [em, ← hya, ← hyt] at *
              exact h2
            clear hd em hA hlast hll
            have j0 : (0 : Int) ≤ (j : Int) := by omega
            have j1 : (j : Int) < (k : Int) := by omega
            have i0 : (0 : Int) ≤ (i : Int) := by omega
            have i1 : (i : Int) < (k : Int) := by omega
            go_upto_region 14 with (first
              | (go_at_call 8; refine (popA Q3).mono ?_; rintro e w1 ⟨g1, rfl, Q4, hg1, o1⟩; have S1 := hS.out o1 (not_footH n1 n2); have L1 := hL.out o1 (not_footH n3 n4)))
            have n2' : s ≠ g1 := by have := hS.lt; omega
            have n4' : lb ≠ g1 := by have := hL.lt; omega
            have E2 := Blk.new w1 [.int .i64 A, .int .i64 0, .int .i64 0, .int .i64 (j : Int)] 27
            have S2 := S1.alloc (.cells #[.int .i64 A, .int .i64 0, .int .i64 0, .int .i64 (j : Int)] 27)
            have L2 := L1.alloc (.cells #[.int .i64 A, .int .i64 0, .int .i64 0, .int .i64 (j : Int)] 27)
            have Q5 := Q4.kept (new_alloc (new_refl w1) (.cells #[.int .i64 A, .int .i64 0, .int .i64 0, .int .i64 (j : Int)] 27))
            have m1 : ¬ w1.heap.size = s := by have := S1.lt; omega
            have m2 : ¬ w1.heap.size = lb := by have := L1.lt; omega
            have hx2 := cell_low (p := ⟨bl, off + j, none⟩) Q5.2.2.2 hb hx
            generalize hW : w1.alloc (.cells #[.int .i64 A, .int .i64 0, .int .i64 0, .int .i64 (j : Int)] 27) = W at E2 S2 L2 Q5 hx2 ⊢
            generalize w1.heap.size = eb at E2 m1 m2 ⊢
            clear hW S1 L1 Q4 o1 hg1 Q3 hS hL hx
            obtain ⟨e0, e1, e2, e3, _, _, _, _⟩ := E2.four
            obtain ⟨l0, l1, l2, l3, x0, x1, x2, x3⟩ := L2.four
            have s0 := bool_cell S2 hs.1 hj hseen
            have fs := S2.frozen j
            have m3 : ¬ s = eb := fun e => m1 e.symm
            have m4 : ¬ lb = eb := fun e => m2 e.symm
            have m5 : ¬ lb = s := fun e => n5 e.symm
            have d1 : decide ((j : Int) < 0) = false := decide_eq_false (by omega)
            have d2 : decide ((k : Int) ≤ (j : Int)) = false := decide_eq_false (by omega)
            have d2' : decide (k ≤ j) = false := decide_eq_false (by omega)
            have d3 : (A != A) = false := by simp
            by_cases hi0 : i = 0
            · subst hi0
              have d4 : decide ((0 : Int) < ((0 : Nat) : Int)) = false := rfl
              go_quiet (fail)
              go_wp2_with fail
              go_roundg (k - (0 + 1))
              case measure => omega
              case rel =>
                have hr := beside_next (Q5.kept (new_draw (new_refl W) nq)) HD.out HA.out hj S2 hs L2 n1 n2' n3 n4' n5 n6 n7
                rw [EM.out] at hr
                exact ⟨0 + 1, g1, by omega, rfl, by go_num, hr⟩
            · have i2 : (0 : Int) < (i : Int) := by omega
              rcases hl1 (by omega) with hlt | ⟨rfl, hlt⟩
              · have d4 : decide ((0 : Int) < (i : Int)) = true := decide_eq_true i2
                have d4' : decide (0 < i) = true := decide_eq_true (by omega)
                have d5 : decide (A < la) = false := decide_eq_false (by omega)
                have d6 : (A == la) = false := beq_eq_false_iff_ne.2 (by omega)
                clear hl1
                go_quiet (fail)
                go_wp2_with fail
                go_roundg (k - (i + 1))
                case measure => omega
                case rel =>
                  have hr := beside_next (Q5.kept (new_draw (new_refl W) nq)) HD.out HA.out hj S2 hs L2 n1 n2' n3 n4' n5 n6 n7
                  rw [EM.out] at hr
                  exact ⟨i + 1, g1, by omega, rfl, by go_num, hr⟩
              · have d4 : decide ((0 : Int) < (i : Int)) = true := decide_eq_true i2
                have d4' : decide (0 < i) = true := decide_eq_true (by omega)
                have d5 : decide (la < la) = false := decide_eq_false (by omega)
                have d6 : (la == la) = true := by simp
                have d7 : decide ((j : Int) < ln) = false := decide_eq_false (by omega)
                clear hl1
                go_quiet (fail)
                go_wp2_with fail
                go_roundg (k - (i + 1))
                case measure => omega
                case rel =>
                  have hr := beside_next (Q5.kept (new_draw (new_refl W) nq)) HD.out HA.out hj S2 hs L2 n1 n2' n3 n4' n5 n6 n7
                  rw [EM.out] at hr
                  exact ⟨i + 1, g1, by omega, rfl, by go_num, hr⟩
          · obtain rfl : i = k := by omega
            rw [List.drop_of_length_le (by omega)] at Q3
            clear hS hL
            go_wp2_with (first
              | (go_at_call 16; refine (lenH _ gq 0 [] _ _ Q3.1 rfl).mono ?_; rintro e w2 ⟨rfl, rfl⟩)
              | (go_at_call 17; refine (works06_any _).mono ?_; rintro e w3 ⟨rfl, B3⟩))
            go_ret
            exact ⟨rfl, new_then Q3.2.2.2 B3⟩

set_option maxRecDepth 100000 in
theorem lifted (os : Os) (started : os.Started) (H : Type) (enc : TypeId × Value → H) :
    ReturnsInHanded {} Try.checked os 4 .any (Rows.heapRisesSpec.pre6 enc Try.prog Try.f4 Rows.heapRisesRow.domain false) (Rows.heapRisesSpec.post enc Try.prog Try.f4 false true false false) := by
  refine returnsInHanded_of_change (C := Try.checked) own started (by kernel_rfl) Try.func4
    (ChangeSpec.witness6 (enc := enc) (C := Try.checked) false ⟨#[], #[.slice none 0 0], []⟩ 8 (by kernel_rfl) (by kernel_rfl) (by kernel_rfl) (by kernel_rfl)) ?_
  intro W base args ds gs before hval0 hW hcnd _
  have hval : ∀ (j : Nat) t v, Try.f4.params[j]? = some t → args[j]? = some v → Value.okWide Try.prog W .any base t v := hval0
  have hW' := hW
  obtain ⟨p, q, hA0, hV, rfl, hfz, hnd⟩ := hW
  have hA : DataW.TrodAll enc Try.prog W 0 (fun _ => true) true Try.f4.params.toList args.toList ds p := hA0
  rw [Try.params4] at hA hval
  obtain ⟨v0, vs0, d0, ds0, p0, q0, hargs, rfl, rfl, h0, r0⟩ := trodAll_cons hA
  obtain ⟨rfl, rfl, rfl⟩ := trodAll_nil r0
  obtain rfl : args = #[v0] := by cases args; simp_all
  obtain ⟨rfl, rfl⟩ := trodVars_none hV
  have k0 := h0
  have lt0 : ∀ x ∈ p0, x.block < W.heap.size := by obtain ⟨m, hm⟩ := k0; exact DataW.trod_lt m _ _ _ hm
  obtain ⟨a0, len0, cap0, rfl⟩ := okWide_slice Try.underlying42 (hval 0 42 v0 rfl rfl)
  obtain ⟨z0, w0⟩ := isRow_of Try.underlying42 Try.underlying2 (by kernel_rfl) h0
  clear hA0 hval0
  refine (walk a0 len0 cap0 z0 W w0).mono fun e W' ⟨he, bel⟩ => ?_
  subst he
  exact ⟨_, rfl, _, _, _, [], _, [], hW', trodAll_mk1 (shut_bool Try.underlying4 _), (trodAll_cons_mk (Below.trod laidOut (by kernel_rfl) (of_decide_eq_true (by kernel_rfl)) k0 bel lt0) trodAll_mk0), rfl, bel.frame _, fun h => by cases h⟩

theorem over : Rows.heapRisesRow.holds Try.pinned (OpenSpec.ofChange Rows.heapRisesSpec) :=
  OpenClaim.holds_of_wide 4 Try.f4 rfl rfl rfl rfl rfl rfl rfl ⟨rfl, rfl, rfl, rfl, rfl⟩ rfl rfl rfl rfl rfl (by kernel_rfl) Try.func4 (by kernel_rfl)
    (of_decide_eq_true (by kernel_rfl)) (by unfold Func.isWrapper; first | (rw [if_pos (by decide +kernel)]; kernel_rfl) | (rw [if_neg (by decide +kernel)]; exact ⟨rfl, rfl⟩))
    (fun os started H enc _ => lifted os started H enc)
end heapRises
theorem heapRises_holds : Rows.HeapRisesSaid := heapRises.over
end Go.Proofs.Ytmdlbjeiokadaaa
