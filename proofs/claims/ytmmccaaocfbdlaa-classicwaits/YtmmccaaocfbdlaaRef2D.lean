/- The document's own answers of layer 2, by bits: differences, a number out of bits. -/
import Derived.Test.YtmmccaaocfbdlaaRef2C
namespace Go.Proofs.Ytmmccaaocfbdlaa
open Go.RowKit
set_option linter.unusedVariables false

def SubInv (a b : List Int) (w : World) (g : Nat) (vo vc vi : Value) (wr : World) : Prop :=
  ∃ (k : Nat) (zs : List Int) (c : Int), k ≤ a.length ∧ g = a.length - k ∧ vi = .int .i64 k ∧ vc = .int .i64 c ∧ (0 ≤ c ∧ c ≤ 1) ∧ zs.length = k ∧ Own wr w.heap.size vo zs ∧ IsBits zs ∧
    val zs - P2 k * c = val (a.take k) - val (b.take k) ∧ Below w.heap.size w wr ∧ (0 < k → ∃ g c, vo = .slice (some ⟨g, 0, none⟩) k c)

theorem SubInv.step {a b zs : List Int} {k g1 c1 : Nat} {c d c' : Int} {w wr w1 : World} (hk : k < a.length) (hs : d - 2 * c' = bitAt a k - c - bitAt b k) (hd : 0 ≤ d ∧ d ≤ 1) (hc : 0 ≤ c' ∧ c' ≤ 1) (hl : zs.length = k) (hz : IsBits zs) (e : val zs - P2 k * c = val (a.take k) - val (b.take k))
    (ho : Own w1 w.heap.size (.slice (some ⟨g1, 0, none⟩) (k + 1) c1) (zs ++ [d])) (hb : Below w.heap.size w wr) (hb1 : Below w.heap.size wr w1) :
    SubInv a b w (a.length - (k + 1)) (.slice (some ⟨g1, 0, none⟩) (k + 1) c1) (.int .i64 c') (.int .i64 ((k : Int) + 1)) w1 := by
  refine ⟨k + 1, zs ++ [d], c', by omega, rfl, by go_num, rfl, hc, by rw [List.length_append, hl]; rfl, ho, bits_append hz (bits_one (by omega)), ?_, hb.trans hb1, fun _ => ⟨g1, c1, rfl⟩⟩
  rw [val_snoc, hl, P2_succ, val_take_succ, val_take_succ]
  exact sub_step e hs

theorem refSub2_any (ga na ca gb nb cb : Nat) (a b : List Int) (w : World) (ra : Rd w ga na ca a) (rb : Rd w gb nb cb b) (ha : IsBits a) (hb : IsBits b) (h0 : 0 < na) (hl : na ≤ 1000000) (hl' : nb ≤ 1000000) (hle : val b ≤ val a) :
    Calls Try.prog 42 #[.slice (some ⟨ga, 0, none⟩) na ca, .slice (some ⟨gb, 0, none⟩) nb cb] w (GivesBits w na (val a - val b)) := by
  have HN := Lib.hid ra.1
  go_enter Try.func42, Try.ntmps42
  go_wp2
  go_loopg [5, 6, 7] a.length (fun g vo vc vi wr => SubInv a b w g vo vc vi wr)
  case atStart => exact ⟨0, [], 0, by omega, rfl, rfl, rfl, by omega, rfl, Own.nil _ _, by intro z hz; simp at hz, by simp [val], Below.refl _ _, by omega⟩
  case round =>
    obtain ⟨k, zs, c, hk, rfl, rfl, rfl, hc, hzl, hown, hz, he, hbel, hform⟩ := hrel
    have HE := Lib.hid he
    have HL := Lib.hid hzl
    have RA := (ra.kept hbel)
    have RB := (rb.kept hbel)
    have HA := Lib.hid ha
    have HB := Lib.hid hb
    have hx := bit01 ha k
    have hy := bit01 hb k
    have OY := Lib.hid (fun h : nb ≤ k => bitAt_off (l := b) (i := k) (by rw [← rb.1]; exact h))
    clear he hzl ha hb
    rw [← HN.out] at hk
    by_cases h1 : k < na
    · have cx := RA.bit h1
      by_cases h2 : k < nb
      · have cy := RB.bit h2
        by_cases hd : bitAt a k - c - bitAt b k < 0
        · go_wp2_with (at_builtin; refine wp_push (by rfl) _ _ (by rfl) w.heap.size _ zs (bitAt a k - c - bitAt b k + 2) (by rfl) (by rfl) hown (k + 1) (by rw [HL.out]) (by omega) hbel.size ?_; intro g1 c1 w1 ho1 hb1)
          go_roundg (a.length - (k + 1))
          case measure => rw [← HN.out]; omega
          case rel => exact SubInv.step (by rw [← HN.out]; omega) (by omega) (by omega) (by omega) HL.out hz HE.out ho1 hbel hb1
        · go_wp2_with (at_builtin; refine wp_push (by rfl) _ _ (by rfl) w.heap.size _ zs (bitAt a k - c - bitAt b k) (by rfl) (by rfl) hown (k + 1) (by rw [HL.out]) (by omega) hbel.size ?_; intro g1 c1 w1 ho1 hb1)
          go_roundg (a.length - (k + 1))
          case measure => rw [← HN.out]; omega
          case rel => exact SubInv.step (by rw [← HN.out]; omega) (by omega) (by omega) (by omega) HL.out hz HE.out ho1 hbel hb1
      · have e0 := Lib.hid (OY.out (by omega))
        by_cases hd : bitAt a k - c < 0
        · go_wp2_with (at_builtin; refine wp_push (by rfl) _ _ (by rfl) w.heap.size _ zs (bitAt a k - c + 2) (by rfl) (by rfl) hown (k + 1) (by rw [HL.out]) (by omega) hbel.size ?_; intro g1 c1 w1 ho1 hb1)
          go_roundg (a.length - (k + 1))
          case measure => rw [← HN.out]; omega
          case rel => exact SubInv.step (by rw [← HN.out]; omega) (by rw [e0.out]; omega) (by omega) (by omega) HL.out hz HE.out ho1 hbel hb1
        · go_wp2_with (at_builtin; refine wp_push (by rfl) _ _ (by rfl) w.heap.size _ zs (bitAt a k - c) (by rfl) (by rfl) hown (k + 1) (by rw [HL.out]) (by omega) hbel.size ?_; intro g1 c1 w1 ho1 hb1)
          go_roundg (a.length - (k + 1))
          case measure => rw [← HN.out]; omega
          case rel => exact SubInv.step (by rw [← HN.out]; omega) (by rw [e0.out]; omega) (by omega) (by omega) HL.out hz HE.out ho1 hbel hb1
    · obtain rfl : k = na := by omega
      obtain ⟨g1, c1, rfl⟩ := hform h0
      go_wp2
      go_ret
      exact ⟨g1, c1, zs, rfl, hown, hz, sub_end (c := c) hz HA.out HB.out (by rw [HL.out, ← HN.out]) (by omega) hle (by rw [← HN.out]; exact HE.out), hbel⟩

def NumInv (b : List Int) (f g : Nat) (vn vi : Value) : Prop := ∃ (k : Nat) (n : Int), k ≤ 64 ∧ g = k ∧ vi = .int .i64 ((k : Int) - 1) ∧ vn = .int .u64 n ∧ n = val (b.drop (f + k)) % P2 (64 - k)

theorem num_bd (b : List Int) (f j : Nat) (h : j < 64) : 0 ≤ val (b.drop (f + (j + 1))) % P2 (64 - (j + 1)) ∧ val (b.drop (f + (j + 1))) % P2 (64 - (j + 1)) ≤ 9223372036854775807 := by
  have p := P2_pos (64 - (j + 1))
  refine ⟨Int.emod_nonneg _ (by omega), ?_⟩
  have l := Int.emod_lt_of_pos (val (b.drop (f + (j + 1)))) p
  have q : P2 (64 - (j + 1)) ≤ 9223372036854775808 := by
    have e : (9223372036854775808 : Int) = P2 63 := by decide
    rw [e]
    unfold P2
    exact_mod_cast Nat.pow_le_pow_right (by decide) (by omega)
  omega
theorem num_next (b : List Int) (f j : Nat) (h : j < 64) (hb : IsBits b) : val (b.drop (f + (j + 1))) % P2 (64 - (j + 1)) * 2 + bitAt b (f + j) = val (b.drop (f + j)) % P2 (64 - j) := by
  have e : 64 - j = 64 - (j + 1) + 1 := by omega
  rw [e, P2_succ, val_drop b (f + j), mod_step _ _ _ (P2_pos _) (bitAt_01 hb _)]
  rfl

theorem refNum_any (g n c f : Nat) (fI : Int) (b : List Int) (w : World) (rb : Rd w g n c b) (hb : IsBits b) (hf : (f : Int) = fI) (hf' : f ≤ 1000) (hn : n ≤ 1000000) :
    Calls Try.prog 38 #[.slice (some ⟨g, 0, none⟩) n c, .int .i64 fI] w fun e w' => e = .returned (.int .u64 (val (b.drop f) % 18446744073709551616)) ∧ w = w' := by
  subst hf
  go_enter Try.func38, Try.ntmps38
  go_wp2
  go_loopg [5, 6] 64 (fun g vn vi wr => w = wr ∧ NumInv b f g vn vi)
  case atStart => exact ⟨rfl, 64, 0, by omega, rfl, rfl, rfl, by show 0 = _ % P2 0; rw [P2_zero]; omega⟩
  case round =>
    obtain ⟨rfl, k, m, hk, hg, rfl, rfl, hm⟩ := hrel
    obtain rfl : k = gk := hg.symm
    clear hg
    cases k with
    | zero =>
      have HM := Lib.hid hm
      clear hm
      go_wp2
      go_ret
      refine ⟨ret_int ?_, rfl⟩
      rw [HM.out]
      rfl
    | succ j =>
      have ej : ((j + 1 : Nat) : Int) - 1 = j := by omega
      rw [ej]
      clear ej
      have bd := num_bd b f j (by omega)
      rw [← hm] at bd
      have NX := Lib.hid (num_next b f j (by omega) hb)
      have HM := Lib.hid hm
      clear hm
      rcases bitAt_01 hb (f + j) with hx | hx
      · by_cases h1 : f + j < n
        · have cx := rb.bit h1
          rw [hx] at cx
          have HX := Lib.hid hx
          clear hx
          go_wp2
          go_roundg j
          case measure => omega
          case rel => exact ⟨rfl, j, _, by omega, rfl, rfl, rfl, by rw [← NX.out, HX.out, ← HM.out]; omega⟩
        · have HX := Lib.hid hx
          clear hx
          have q1 : ¬ ((f : Int) + j < n) := by omega
          go_wp2
          go_roundg j
          case measure => omega
          case rel => exact ⟨rfl, j, _, by omega, rfl, rfl, rfl, by rw [← NX.out, HX.out, ← HM.out]; omega⟩
      · have h1 : f + j < n := by
          rcases Nat.lt_or_ge (f + j) n with h | h
          · exact h
          · rw [bitAt_off (by rw [← rb.1]; exact h)] at hx; omega
        have cx := rb.bit h1
        rw [hx] at cx
        have HX := Lib.hid hx
        clear hx
        go_wp2
        go_roundg j
        case measure => omega
        case rel => exact ⟨rfl, j, _, by omega, rfl, rfl, rfl, by rw [← NX.out, HX.out, ← HM.out]⟩
end Go.Proofs.Ytmmccaaocfbdlaa
