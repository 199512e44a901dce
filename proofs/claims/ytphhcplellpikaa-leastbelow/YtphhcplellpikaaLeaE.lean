/- The document's own answers of layer 21: Least, Len. -/
import Derived.Test.YtphhcplellpikaaLeaD
import Derived.Test.YtphhcplellpikaaQuiB
namespace Go.Proofs.Ytphhcplellpikaa
open Go.RowKit
set_option linter.unusedVariables false

theorem bsL_take (l : List Lc) (f b : Int) {k : Nat} (h : k < l.length) : bsL (l.take (k + 1)) f b = if f < (nthC l k).a ∧ (nthC l k).x < bsL (l.take k) f b then (nthC l k).x else bsL (l.take k) f b := by
  rw [List.take_succ_eq_append_getElem h, bsL_snoc, nthC_eq h]
theorem refLeast21_none (c : Nat) (A : Option Addr) (W now : Int) (w : World) :
    Calls Try.prog 9 #[.slice A 0 c, .int .i64 W, .int .i64 now] w fun e w' => e = .returned (.tuple #[.int .i64 0, .bool false]) ∧ w = w' := by
  go_enter Try.func9, Try.ntmps9
  go_wp2_with fail
  exact bodyPost_ret (v := .tuple #[.int .i64 0, .bool false]) (by simp [results, Try.results9, go_sem]) rfl ⟨rfl, rfl⟩
def LsI (w : World) (l : List Lc) (f b : Int) (n gh : Nat) (vb vi : Value) (wr : World) : Prop :=
  ∃ k : Nat, vi = .int .i64 (k : Int) ∧ vb = .int .i64 (bsL (l.take k) f b) ∧ k ≤ n ∧ n - k = gh ∧ Below w.heap.size w wr
set_option maxHeartbeats 2000000 in
theorem refLeast21_any {base n : Nat} {v : Value} {l : List Lc} {w : World} (h : OwnC21 w base v l) (hn : l.length = n + 1) (hl : n ≤ 1000000) (W now : Int) :
    Calls Try.prog 9 #[v, .int .i64 W, .int .i64 now] w fun e w' => e = .returned (.tuple #[.int .i64 (lsL l (nrL now - wnL W)), .bool true]) ∧ Below w.heap.size w w' := by
  obtain ⟨g, c, rfl⟩ : ∃ g c, v = .slice (some ⟨g, 0, none⟩) (n + 1) c := by
    rcases h.form with ⟨_, rfl⟩ | ⟨g, c, rfl⟩
    · simp at hn
    · exact ⟨g, c, by rw [hn]⟩
  have NR := Lib.hid (fun w => near21_any now w)
  have hq := nrL_bd now
  have hw := wnL_bd W
  rw [lsL_some hn]
  have HO := Lib.hid h
  have HN := Lib.hid hn
  obtain ⟨_, y1⟩ := own_two h (i := n) (by omega)
  generalize (nthC l n).x = lx at *
  have WN := Lib.hid (show ∀ a : Int, a = min (max W 0) 1125899906842624 → a = wnL W from fun a e => e)
  generalize wnL W = d at *
  generalize nrL now = q at *
  obtain ⟨f, ef⟩ : ∃ f, q - d = f := ⟨_, rfl⟩
  have k0 : (0 : Int) ≤ (n : Int) := by omega
  have k1 : (n : Int) < (n : Int) + 1 := by omega
  have k2 : ((n + 1 : Nat) : Int) = (n : Int) + 1 := by omega
  have k3 : (n : Int) ≤ 1000000 := by omega
  have k4 : ¬ (n : Int) + 1 = 0 := by omega
  have hb : -9223372036854775808 ≤ q - d ∧ q - d ≤ 9223372036854775807 := by omega
  clear h hn hq hw
  rw [ef]
  go_enter Try.func9, Try.ntmps9
  go_upto_region 3 with fail
  go_cut [1] (fun v wx => v = .int .i64 d ∧ w = wx)
  case first =>
    go_wp2_with fail
    all_goals go_meet
    all_goals exact ⟨congrArg (Value.int .i64) (WN.out _ (by omega)), rfl⟩
  case rest =>
    obtain ⟨rfl, rfl⟩ := hcut
    clear WN
    go_wp2_with fail
    go_loopg [8, 9] (n + 1) (fun gh vb vi wr => LsI w l f lx (n + 1) gh vb vi wr)
    case atStart => exact ⟨0, rfl, rfl, by omega, by omega, new_refl w⟩
    case round =>
      obtain ⟨k, rfl, rfl, hk, hgh, B⟩ := hrel
      by_cases hlt : k < n + 1
      · obtain ⟨t0, t1⟩ := own_two (HO.out.kept B) (i := k) (by rw [HN.out]; exact hlt)
        have HT := Lib.hid (bsL_take l f lx (k := k) (by rw [HN.out]; exact hlt))
        generalize nthC l k = z at *
        generalize bsL (l.take k) f lx = be at *
        have j0 : (0 : Int) ≤ (k : Int) := by omega
        have j1 : (k : Int) < (n : Int) + 1 := by omega
        have j3 : (k : Int) ≤ 1000000 := by omega
        have HB := Lib.hid B
        clear B y1 k0 k1 k4
        go_upto_region 8 with fail
        have q0 := cell_by t0
        have q1 := cell_by t1
        by_cases h1 : f < z.a
        · have d1 : decide (f < z.a) = true := decide_eq_true h1
          by_cases h2 : z.x < be
          · have d2 : decide (z.x < be) = true := decide_eq_true h2
            refine wp_region_quiet_below (by kernel_rfl) (by kernel_rfl) ?_
            repeat (go_big_quiet_step (first | (go_at_call 16; refine calls_by_same (NR.out _))))
            refine wpQuiet_nil ?_
            intro _ hw'
            obtain ⟨⟨wq, Bq⟩, hw''⟩ := hw'
            subst hw''
            have y1 := cell_kept Bq t1
            clear q0 q1 t0 t1
            go_wp2_with fail
            go_roundg (n + 1 - (k + 1))
            case measure => omega
            case rel => exact ⟨k + 1, by go_num, by rw [HT.out, if_pos ⟨h1, h2⟩], by omega, rfl, new_then HB.out Bq⟩
          · have d2 : decide (z.x < be) = false := decide_eq_false h2
            refine wp_region_quiet_below (by kernel_rfl) (by kernel_rfl) ?_
            repeat (go_big_quiet_step (first | (go_at_call 16; refine calls_by_same (NR.out _))))
            refine wpQuiet_nil ?_
            intro _ hw'
            obtain ⟨⟨wq, Bq⟩, hw''⟩ := hw'
            subst hw''
            have y1 := cell_kept Bq t1
            clear q0 q1 t0 t1
            go_wp2_with fail
            go_roundg (n + 1 - (k + 1))
            case measure => omega
            case rel => exact ⟨k + 1, by go_num, by rw [HT.out, if_neg (by omega)], by omega, rfl, new_then HB.out Bq⟩
        · have d1 : decide (f < z.a) = false := decide_eq_false h1
          refine wp_region_quiet_below (by kernel_rfl) (by kernel_rfl) ?_
          repeat (go_big_quiet_step (first | (go_at_call 16; refine calls_by_same (NR.out _))))
          refine wpQuiet_nil ?_
          intro _ hw'
          obtain ⟨⟨wq, Bq⟩, hw''⟩ := hw'
          subst hw''
          have y1 := cell_kept Bq t1
          clear q0 q1 t0 t1
          go_wp2_with fail
          go_roundg (n + 1 - (k + 1))
          case measure => omega
          case rel => exact ⟨k + 1, by go_num, by rw [HT.out, if_neg (by omega)], by omega, rfl, new_then HB.out Bq⟩
      · obtain rfl : k = n + 1 := by omega
        have e : l.take (n + 1) = l := List.take_of_length_le (by rw [HN.out]; omega)
        rw [e]
        have HB := Lib.hid B
        clear y1 k0 k1 k4 B e
        go_wp2_with fail
        exact bodyPost_ret (v := .tuple #[.int .i64 (bsL l f lx), .bool true]) (by simp [results, Try.results9, go_sem]) rfl ⟨rfl, HB.out⟩

def LnI (w : World) (l : List Lc) (n gh : Nat) (vn vi : Value) (wr : World) : Prop :=
  ∃ (i m q : Nat), vn = .int .i64 (m : Int) ∧ vi = .int .i64 (i : Int) ∧ i ≤ n ∧ n - i = gh ∧ m + (kpL (l.drop i)).length = (kpL l).length ∧ m ≤ i ∧ wr = w.drewN q
def LmI (w : World) (l : List Lc) (n i gh : Nat) (vb vk : Value) (wr : World) : Prop :=
  ∃ (b : Bool) (k q : Nat), vb = .bool b ∧ vk = .int .i64 (k : Int) ∧ i < k ∧ k ≤ n ∧ n - k = gh ∧ (b = true ↔ ∀ j, i < j → j < k → (nthC l i).x < (nthC l j).x) ∧ wr = w.drewN q
theorem refLen21_none (c : Nat) (A : Option Addr) (w : World) :
    Calls Try.prog 11 #[.slice A 0 c] w fun e w' => e = .returned (.int .i64 0) ∧ Below w.heap.size w w' := by
  go_enter Try.func11, Try.ntmps11
  go_wp2_with fail
  go_loopg [3, 4] 0 (fun gh vn vi wr => vn = .int .i64 0 ∧ vi = .int .i64 0 ∧ w = wr)
  case atStart => exact ⟨rfl, rfl, rfl⟩
  case round =>
    obtain ⟨rfl, rfl, rfl⟩ := hrel
    go_wp2_with fail
    go_ret
    exact ⟨rfl, new_refl w⟩
set_option maxHeartbeats 2000000 in
theorem refLen21_some {base n g c : Nat} {l : List Lc} {w : World} (h : OwnC21 w base (.slice (some ⟨g, 0, none⟩) n c) l) (hn : l.length = n) (hl : n ≤ 1000000) :
    Calls Try.prog 11 #[.slice (some ⟨g, 0, none⟩) n c] w fun e w' => e = .returned (.int .i64 ((kpL l).length : Int)) ∧ Below w.heap.size w w' := by
  have HO := Lib.hid h
  have HN := Lib.hid hn
  obtain ⟨K, hK⟩ : ∃ K, (kpL l).length = K := ⟨_, rfl⟩
  have HK := Lib.hid hK
  rw [hK]
  clear h hn hK
  go_enter Try.func11, Try.ntmps11
  go_wp2_with fail
  go_loopg [3, 4] n (fun gh vn vi wr => LnI w l n gh vn vi wr)
  case atStart => exact ⟨0, 0, 0, rfl, rfl, Nat.zero_le _, rfl, by simp, Nat.le_refl _, rfl⟩
  case round =>
    obtain ⟨i, m, q, rfl, rfl, hi, hgh, hc, hm, rfl⟩ := hrel
    have j0 : (0 : Int) ≤ (i : Int) := by omega
    have j3 : (i : Int) ≤ 1000000 := by omega
    by_cases hlt : i < n
    · have HC := Lib.hid hc
      have j1 : (i : Int) < (n : Int) := by omega
      obtain ⟨_, x1⟩ := own_two HO.out (i := i) (by rw [HN.out]; exact hlt)
      generalize hxi : (nthC l i).x = xi at x1
      have HX := Lib.hid hxi
      clear hc hxi
      go_wp2_with fail
      go_loopg [5, 6] (n - (i + 1)) (fun gh vb vk wr => LmI w l n i gh vb vk wr)
      case atStart => exact ⟨true, i + 1, q, rfl, by go_num, by omega, by omega, rfl, ⟨fun _ j h1 h2 => by omega, fun _ => rfl⟩, rfl⟩
      case round =>
        obtain ⟨b, k, q', rfl, rfl, hik, hkn, hgk, hb, rfl⟩ := hrel
        have i0 : (0 : Int) ≤ (k : Int) := by omega
        have i3 : (k : Int) ≤ 1000000 := by omega
        by_cases hlt2 : k < n
        · have i1 : (k : Int) < (n : Int) := by omega
          obtain ⟨_, z1⟩ := own_two HO.out (i := k) (by rw [HN.out]; exact hlt2)
          generalize hxk : (nthC l k).x = xk at z1
          have HY := Lib.hid hxk
          have HB := Lib.hid hb
          clear hxk hb
          have HS : Hid (∀ b' : Bool, (b' = true ↔ (b = true ∧ xi < xk)) → (b' = true ↔ ∀ j, i < j → j < k + 1 → (nthC l i).x < (nthC l j).x)) := Lib.hid (fun b' e => by
            rw [e, HB.out]
            constructor
            · rintro ⟨h1, h2⟩ j h3 h4
              by_cases e : j = k
              · subst e; rw [HX.out, HY.out]; exact h2
              · exact h1 j h3 (by omega)
            · intro h1
              refine ⟨fun j h3 h4 => h1 j h3 (by omega), ?_⟩
              have := h1 k hik (by omega)
              rwa [HX.out, HY.out] at this)
          clear HB
          cases b
          · go_wp2_with fail
            go_quiet (fail)
            go_wp2_with fail
            go_roundg (n - (k + 1))
            case measure => omega
            case rel => exact ⟨false, k + 1, _, rfl, by go_num, by omega, by omega, rfl, HS.out _ (by simp), rfl⟩
          · by_cases h2 : xi < xk
            · have d2 : decide (xi < xk) = true := decide_eq_true h2
              go_wp2_with fail
              go_quiet (fail)
              go_wp2_with fail
              go_roundg (n - (k + 1))
              case measure => omega
              case rel => exact ⟨true, k + 1, _, rfl, by go_num, by omega, by omega, rfl, HS.out _ (by simp [h2]), rfl⟩
            · have d2 : decide (xi < xk) = false := decide_eq_false h2
              go_wp2_with fail
              go_quiet (fail)
              go_wp2_with fail
              go_roundg (n - (k + 1))
              case measure => omega
              case rel => exact ⟨false, k + 1, _, rfl, by go_num, by omega, by omega, rfl, HS.out _ (by simp [h2]), rfl⟩
        · obtain rfl : k = n := by omega
          have E := kpL_step (l := l) (i := i) (by rw [HN.out]; exact hlt) b (by rw [HN.out]; exact hb)
          have hc := HC.out
          have HE : Hid (m + (if b = true then 1 else 0) + (kpL (l.drop (i + 1))).length = (kpL l).length) := Lib.hid (by omega)
          have m1 : (m : Int) ≤ 1000000 := by omega
          have m0 : (0 : Int) ≤ (m : Int) := by omega
          clear E hb hc HC x1
          cases b
          · go_wp2_with fail
            go_roundg (k - (i + 1))
            case measure => omega
            case rel => exact ⟨i + 1, m, _, rfl, by go_num, by omega, rfl, by have := HE.out; simpa using this, by omega, rfl⟩
          · go_wp2_with fail
            go_roundg (k - (i + 1))
            case measure => omega
            case rel => exact ⟨i + 1, m + 1, _, by go_num, by go_num, by omega, rfl, by have := HE.out; simpa using this, by omega, rfl⟩
    · obtain rfl : i = n := by omega
      have e : m = K := by
        have := HK.out
        rw [List.drop_of_length_le (by rw [HN.out]; exact Nat.le_refl _)] at hc
        simp [kpL] at hc
        omega
      subst e
      clear hc
      go_wp2_with fail
      go_ret
      exact ⟨rfl, new_draw (new_refl w) _⟩
theorem refLen21_any {base : Nat} {v : Value} {l : List Lc} {w : World} (h : OwnC21 w base v l) (hl : l.length ≤ 1000000) :
    Calls Try.prog 11 #[v] w fun e w' => e = .returned (.int .i64 ((kpL l).length : Int)) ∧ Below w.heap.size w w' := by
  rcases h.form with ⟨rfl, rfl⟩ | ⟨g, c, rfl⟩
  · exact refLen21_none _ _ _
  · exact refLen21_some h rfl hl
end Go.Proofs.Ytphhcplellpikaa
