/- For every uint32 and every int, a seed spreads to the document's draws (of which the first three hundred are looked at where there are more, and their number at 65536 and above), and the chapter's example holds: DiceSpreads returns true and changes nothing. No conditions. -/
import Derived.Test.YtdicpocoolmoeaaKit
import Derived.Test.YtdicpocoolmoeaaDicC
namespace Go.Proofs.Ytdicpocoolmoeaa
namespace diceSpreads
open Go.ChangeShapes Go.WideShapes Go.ChangeAt Go.RowKit
open Go.ChangeMaps (open_string shut_string)
set_option linter.unusedVariables false

def SpInv (w : World) (s : Int) (n g1 g2 gh : Nat) (vi : Value) (wr : World) : Prop :=
  ∃ k : Nat, vi = .int .i64 (k : Int) ∧ n - k = gh ∧ k ≤ n ∧ At wr g1 ((spr s n).map (Value.int .u32)) ∧ At wr g2 ((spr s n).map (Value.int .u32)) ∧ Below w.heap.size w wr
theorem spr_cell {w : World} {g n k : Nat} {s : Int} (h : At w g ((spr s n).map (Value.int .u32))) (hk : k < n) : w.cell? ⟨g, k, none⟩ = some (.int .u32 (itr s (k + 1))) :=
  h.cell k (by simp [spr, hk])
def SpZ (w : World) (gh : Nat) (vi : Value) (wr : World) : Prop := vi = .int .i64 0 ∧ gh = 0 ∧ Below w.heap.size w wr
theorem own : ownKnob Try.prog.godebug = none := by kernel_rfl
theorem laidOut : laidOutB Try.prog = true := by kernel_rfl

set_option maxHeartbeats 4000000 in
set_option maxRecDepth 100000 in
theorem walk (a0 : Int) (a1 : Int) (w : World) (w0 : (Lit.int .u32 a0).wf = true) (w1 : (Lit.int .i64 a1).wf = true) :
    Calls Try.prog 4 #[.int .u32 a0, .int .i64 a1] w fun e w' => e = .returned (.bool true) ∧ Below w.heap.size w w' := by
  have b0 : isU32 a0 := by have := bounds_u32 w0; unfold isU32; omega
  have b1 := bounds_i64 w1
  clear w0 w1
  have HU := Lib.hid b0
  clear b0
  by_cases hbig : 65536 ≤ a1
  · have HM : Hid (MnyB a1 65536) := Lib.hid (by unfold MnyB; omega)
    go_enter Try.func4, Try.ntmps4
    go_wp2_with (first
      | (go_at_call 14; refine (spread_at a0 a1 65536 _ HM.out HU.out).mono ?_; rintro e w1 ⟨g1, c1, rfl, O1, B1⟩)
      | (go_at_call 13; refine (works08_any _).mono ?_; rintro e w3 ⟨rfl, B3⟩))
    go_ret
    exact ⟨rfl, new_then B1 B3⟩
  · by_cases hneg : a1 ≤ 0
    · have HM : Hid (MnyB a1 0) := Lib.hid (by unfold MnyB; omega)
      have HR : Hid (MnyR a1 0) := Lib.hid (.inl ⟨hneg, rfl⟩)
      go_enter Try.func4, Try.ntmps4
      go_wp2_with (first
        | (go_at_call 14; refine (spread_at a0 a1 0 _ HM.out HU.out).mono ?_; rintro e w1 ⟨g1, c1, rfl, O1, B1⟩)
        | (go_at_call 15; refine (refSpread8_any a0 a1 0 _ HR.out HU.out).mono ?_; rintro e w2 ⟨v2, rfl, O2, B2⟩; rcases OwnK.form O2 with ⟨rfl, h0⟩ | ⟨g2, c2, rfl⟩; clear h0))
      all_goals
        have L := new_then B1 B2
        clear O1 O2 B1 B2
        go_wp2_with fail
        go_loopg [37] 0 (fun gh vi wr => SpZ w gh vi wr)
        case atStart => exact ⟨rfl, rfl, L⟩
        case round =>
          obtain ⟨rfl, rfl, hB⟩ := hrel
          go_wp2_with (first
            | (go_at_call 13; refine (works08_any _).mono ?_; rintro e w3 ⟨rfl, B3⟩))
          go_ret
          exact ⟨rfl, new_then hB B3⟩
    · have hw : ∃ n : Nat, 0 < n ∧ n ≤ 300 ∧ ((a1 = (n : Int)) ∨ (300 < a1 ∧ n = 300)) := by
        by_cases h : a1 ≤ 300
        · exact ⟨a1.toNat, by omega, by omega, .inl (by omega)⟩
        · exact ⟨300, by omega, by omega, .inr ⟨by omega, rfl⟩⟩
      obtain ⟨n, hn0, hn, hw⟩ := hw
      have HM : Hid (MnyB (n : Int) n) := Lib.hid (by unfold MnyB; omega)
      have HR : Hid (MnyR (n : Int) n) := Lib.hid (.inr ⟨rfl, hn⟩)
      have HL := Lib.hid (spr_len a0 n)
      have HM3 : Hid (n = 300 → MnyB 300 n) := Lib.hid (fun e => by unfold MnyB; omega)
      have HR3 : Hid (n = 300 → MnyR 300 n) := Lib.hid (fun e => .inr ⟨by omega, hn⟩)
      have n0 : (0 : Int) < (n : Int) := by omega
      have n1 : (n : Int) ≤ 300 := by omega
      rcases hw with rfl | ⟨h3, e3⟩
      · go_enter Try.func4, Try.ntmps4
        go_wp2_with (first
          | (go_at_call 14; refine (spread_at a0 (n : Int) n _ HM.out HU.out).mono ?_; rintro e w1 ⟨g1, c1, rfl, O1, B1⟩)
          | (go_at_call 15; refine (refSpread8_any a0 (n : Int) n _ HR.out HU.out).mono ?_; rintro e w2 ⟨v2, rfl, O2, B2⟩; obtain ⟨g2, c2, rfl, _, _⟩ := OwnK.some O2 HL.out hn0))
        have L := new_then B1 B2
        have P1 := (O1.kept B2).at_
        have P2 := O2.at_
        clear O1 O2 B1 B2
        go_loopg [37] n (fun gh vi wr => SpInv w a0 n g1 g2 gh vi wr)
        case atStart => exact ⟨0, rfl, rfl, by omega, P1, P2, L⟩
        case round =>
          clear P1 P2 L
          obtain ⟨k, rfl, rfl, hk, P1, P2, hB⟩ := hrel
          by_cases hlt : k < n
          · have k0 : (0 : Int) ≤ (k : Int) := by omega
            have k1 : (k : Int) < (n : Int) := by omega
            have c1' := spr_cell P1 hlt
            have c2' := spr_cell P2 hlt
            have Q1 := Lib.hid P1
            have Q2 := Lib.hid P2
            clear P1 P2
            generalize itr a0 (k + 1) = x at c1' c2'
            go_wp2_with fail
            go_quiet (fail)
            go_wp2_with fail
            go_roundg (n - (k + 1))
            case measure => omega
            case rel => exact ⟨k + 1, by go_num, rfl, by omega, Q1.out.draw _, Q2.out.draw _, new_draw hB _⟩
          · obtain rfl : k = n := by omega
            clear P1 P2
            go_wp2_with (first
              | (go_at_call 13; refine (works08_any _).mono ?_; rintro e w3 ⟨rfl, B3⟩))
            go_ret
            exact ⟨rfl, new_then hB B3⟩
      · have E3 := Lib.hid e3
        clear e3
        go_enter Try.func4, Try.ntmps4
        go_wp2_with (first
          | (go_at_call 14; refine (spread_at a0 300 n _ (HM3.out E3.out) HU.out).mono ?_; rintro e w1 ⟨g1, c1, rfl, O1, B1⟩)
          | (go_at_call 15; refine (refSpread8_any a0 300 n _ (HR3.out E3.out) HU.out).mono ?_; rintro e w2 ⟨v2, rfl, O2, B2⟩; obtain ⟨g2, c2, rfl, _, _⟩ := OwnK.some O2 HL.out hn0))
        have L := new_then B1 B2
        have P1 := (O1.kept B2).at_
        have P2 := O2.at_
        clear O1 O2 B1 B2
        go_loopg [37] n (fun gh vi wr => SpInv w a0 n g1 g2 gh vi wr)
        case atStart => exact ⟨0, rfl, rfl, by omega, P1, P2, L⟩
        case round =>
          clear P1 P2 L
          obtain ⟨k, rfl, rfl, hk, P1, P2, hB⟩ := hrel
          by_cases hlt : k < n
          · have k0 : (0 : Int) ≤ (k : Int) := by omega
            have k1 : (k : Int) < (n : Int) := by omega
            have c1' := spr_cell P1 hlt
            have c2' := spr_cell P2 hlt
            have Q1 := Lib.hid P1
            have Q2 := Lib.hid P2
            clear P1 P2
            generalize itr a0 (k + 1) = x at c1' c2'
            go_wp2_with fail
            go_quiet (fail)
            go_wp2_with fail
            go_roundg (n - (k + 1))
            case measure => omega
            case rel => exact ⟨k + 1, by go_num, rfl, by omega, Q1.out.draw _, Q2.out.draw _, new_draw hB _⟩
          · obtain rfl : k = n := by omega
            clear P1 P2
            go_wp2_with (first
              | (go_at_call 13; refine (works08_any _).mono ?_; rintro e w3 ⟨rfl, B3⟩))
            go_ret
            exact ⟨rfl, new_then hB B3⟩

set_option maxRecDepth 100000 in
theorem lifted (os : Os) (started : os.Started) (H : Type) (enc : TypeId × Value → H) :
    ReturnsInHanded {} Try.checked os 4 .any (Rows.diceSpreadsSpec.pre6 enc Try.prog Try.f4 Rows.diceSpreadsRow.domain false) (Rows.diceSpreadsSpec.post enc Try.prog Try.f4 false true false false) := by
  refine returnsInHanded_of_change (C := Try.checked) own started (by kernel_rfl) Try.func4
    (ChangeSpec.witness6 (enc := enc) (C := Try.checked) false ⟨#[], #[.int .u32 0, .int .i64 0], []⟩ 8 (by kernel_rfl) (by kernel_rfl) (by kernel_rfl) (by kernel_rfl)) ?_
  intro W base args ds gs before hval0 hW hcnd _
  have hval : ∀ (j : Nat) t v, Try.f4.params[j]? = some t → args[j]? = some v → Value.okWide Try.prog W .any base t v := hval0
  have hW' := hW
  obtain ⟨p, q, hA0, hV, rfl, hfz, hnd⟩ := hW
  have hA : DataW.TrodAll enc Try.prog W 0 (fun _ => true) true Try.f4.params.toList args.toList ds p := hA0
  rw [Try.params4] at hA hval
  obtain ⟨v0, vs0, d0, ds0, p0, q0, hargs, rfl, rfl, h0, r0⟩ := trodAll_cons hA
  obtain ⟨v1, vs1, d1, ds1, p1, q1, rfl, rfl, rfl, h1, r1⟩ := trodAll_cons r0
  obtain ⟨rfl, rfl, rfl⟩ := trodAll_nil r1
  obtain rfl : args = #[v0, v1] := by cases args; simp_all
  obtain ⟨rfl, rfl⟩ := trodVars_none hV
  have k0 := h0
  have lt0 : ∀ x ∈ p0, x.block < W.heap.size := by obtain ⟨m, hm⟩ := k0; exact DataW.trod_lt m _ _ _ hm
  obtain ⟨a0, rfl, _, _, w0⟩ := open_int Try.underlying26 (hval 0 26 v0 rfl rfl) h0
  have k1 := h1
  have lt1 : ∀ x ∈ p1, x.block < W.heap.size := by obtain ⟨m, hm⟩ := k1; exact DataW.trod_lt m _ _ _ hm
  obtain ⟨a1, rfl, _, _, w1⟩ := open_int Try.underlying3 (hval 1 3 v1 rfl rfl) h1
  clear hA0 hval0
  refine (walk a0 a1 W w0 w1).mono fun e W' ⟨he, bel⟩ => ?_
  subst he
  exact ⟨_, rfl, _, _, _, [], _, [], hW', trodAll_mk1 (shut_bool Try.underlying4 _), (trodAll_cons_mk (Below.trod laidOut (by kernel_rfl) (of_decide_eq_true (by kernel_rfl)) k0 bel lt0) (trodAll_cons_mk (Below.trod laidOut (by kernel_rfl) (of_decide_eq_true (by kernel_rfl)) k1 bel lt1) trodAll_mk0)), rfl, bel.frame _, fun h => by cases h⟩

theorem over : Rows.diceSpreadsRow.holds Try.pinned (OpenSpec.ofChange Rows.diceSpreadsSpec) :=
  OpenClaim.holds_of_wide 4 Try.f4 rfl rfl rfl rfl rfl rfl rfl ⟨rfl, rfl, rfl, rfl, rfl⟩ rfl rfl rfl rfl rfl (by kernel_rfl) Try.func4 (by kernel_rfl)
    (of_decide_eq_true (by kernel_rfl)) (by unfold Func.isWrapper; first | (rw [if_pos (by decide +kernel)]; kernel_rfl) | (rw [if_neg (by decide +kernel)]; exact ⟨rfl, rfl⟩))
    (fun os started H enc _ => lifted os started H enc)
end diceSpreads
theorem diceSpreads_holds : Rows.DiceSpreadsSaid := diceSpreads.over
end Go.Proofs.Ytdicpocoolmoeaa
