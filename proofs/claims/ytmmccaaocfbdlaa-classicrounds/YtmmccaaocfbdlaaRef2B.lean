/- The document's own answers of layer 2, by bits: sums, differences, the order, a number out of bits. -/
import Derived.Test.YtmmccaaocfbdlaaRef2A
namespace Go.Proofs.Ytmmccaaocfbdlaa
open Go.RowKit
set_option linter.unusedVariables false

theorem Rd.bit {w : World} {g n c : Nat} {zs : List Int} (h : Rd w g n c zs) {i : Nat} (hi : i < n) : w.cell? ⟨g, i, none⟩ = some (.int .i64 (bitAt zs i)) := h.cell hi

def AddInv (a b : List Int) (M : Nat) (w : World) (g : Nat) (vo vc vi : Value) (wr : World) : Prop :=
  ∃ (k : Nat) (zs : List Int) (c : Int), k ≤ M ∧ g = M - k ∧ vi = .int .i64 k ∧ vc = .int .i64 c ∧ (0 ≤ c ∧ c ≤ 1) ∧ zs.length = k ∧ Own wr w.heap.size vo zs ∧ IsBits zs ∧
    val zs + P2 k * c = val (a.take k) + val (b.take k) ∧ Below w.heap.size w wr

theorem AddInv.step {a b zs : List Int} {M k g1 c1 : Nat} {c s : Int} {w wr w1 : World} (hk : k < M) (hs : s = c + bitAt a k + bitAt b k) (hc : 0 ≤ c ∧ c ≤ 1) (hx : 0 ≤ bitAt a k ∧ bitAt a k ≤ 1) (hy : 0 ≤ bitAt b k ∧ bitAt b k ≤ 1) (hl : zs.length = k) (hz : IsBits zs) (e : val zs + P2 k * c = val (a.take k) + val (b.take k))
    (ho : Own w1 w.heap.size (.slice (some ⟨g1, 0, none⟩) (k + 1) c1) (zs ++ [s % 2])) (hb : Below w.heap.size w wr) (hb1 : Below w.heap.size wr w1) :
    AddInv a b M w (M - (k + 1)) (.slice (some ⟨g1, 0, none⟩) (k + 1) c1) (.int .i64 (s / 2)) (.int .i64 ((k : Int) + 1)) w1 := by
  refine ⟨k + 1, zs ++ [s % 2], s / 2, by omega, rfl, by go_num, rfl, by omega, by rw [List.length_append, hl]; rfl, ho, bits_append hz (bits_one (by omega)), ?_, hb.trans hb1⟩
  rw [val_snoc, hl, P2_succ, val_take_succ, val_take_succ]
  exact add_step e hs

theorem bit01 {l : List Int} (h : IsBits l) (i : Nat) : 0 ≤ bitAt l i ∧ bitAt l i ≤ 1 := by rcases bitAt_01 h i with h | h <;> omega

theorem refAdd2_any (ga na ca gb nb cb M : Nat) (a b : List Int) (w : World) (ra : Rd w ga na ca a) (rb : Rd w gb nb cb b) (ha : IsBits a) (hb : IsBits b) (hM : na ≤ M ∧ nb ≤ M ∧ (M = na ∨ M = nb)) (hl : M ≤ 1000000) :
    Calls Try.prog 37 #[.slice (some ⟨ga, 0, none⟩) na ca, .slice (some ⟨gb, 0, none⟩) nb cb] w (GivesBits w (M + 1) (val a + val b)) := by
  go_enter Try.func37, Try.ntmps37
  go_wp2
  go_loopg [5, 6, 7] M (fun g vo vc vi wr => AddInv a b M w g vo vc vi wr)
  case atStart => exact ⟨0, [], 0, by omega, rfl, rfl, rfl, by omega, rfl, Own.nil _ _, by intro z hz; simp at hz, by simp [val], Below.refl _ _⟩
  case round =>
    obtain ⟨k, zs, c, hk, rfl, rfl, rfl, hc, hzl, hown, hz, he, hbel⟩ := hrel
    have HE := Lib.hid he
    have HL := Lib.hid hzl
    have RA := (ra.kept hbel)
    have RB := (rb.kept hbel)
    have HA := Lib.hid ha
    have HB := Lib.hid hb
    have hx := bit01 ha k
    have hy := bit01 hb k
    have OX := Lib.hid (fun h : na ≤ k => bitAt_off (l := a) (i := k) (by rw [← ra.1]; exact h))
    have OY := Lib.hid (fun h : nb ≤ k => bitAt_off (l := b) (i := k) (by rw [← rb.1]; exact h))
    clear he hzl ha hb
    by_cases h1 : k < na
    · have cx := RA.bit h1
      by_cases h2 : k < nb
      · have cy := RB.bit h2
        go_wp2_with (at_builtin; refine wp_push (by rfl) _ _ (by rfl) w.heap.size _ zs ((c + bitAt a k + bitAt b k) % 2) (by rfl) (by rfl) hown (k + 1) (by rw [HL.out]) (by omega) hbel.size ?_; intro g1 c1 w1 ho1 hb1)
        go_roundg (M - (k + 1))
        case measure => omega
        case rel => exact AddInv.step (by omega) rfl hc hx hy HL.out hz HE.out ho1 hbel hb1
      · have e0 := OY.out (by omega)
        go_wp2_with (at_builtin; refine wp_push (by rfl) _ _ (by rfl) w.heap.size _ zs ((c + bitAt a k) % 2) (by rfl) (by rfl) hown (k + 1) (by rw [HL.out]) (by omega) hbel.size ?_; intro g1 c1 w1 ho1 hb1)
        go_roundg (M - (k + 1))
        case measure => omega
        case rel => exact AddInv.step (by omega) (by rw [e0]; omega) hc hx hy HL.out hz HE.out ho1 hbel hb1
    · by_cases h2 : k < nb
      · have cy := RB.bit h2
        have e0 := OX.out (by omega)
        go_wp2_with (at_builtin; refine wp_push (by rfl) _ _ (by rfl) w.heap.size _ zs ((c + bitAt b k) % 2) (by rfl) (by rfl) hown (k + 1) (by rw [HL.out]) (by omega) hbel.size ?_; intro g1 c1 w1 ho1 hb1)
        go_roundg (M - (k + 1))
        case measure => omega
        case rel => exact AddInv.step (by omega) (by rw [e0]; omega) hc hx hy HL.out hz HE.out ho1 hbel hb1
      · obtain rfl : k = M := by omega
        go_wp2_with (at_builtin; refine wp_push (by rfl) _ _ (by rfl) w.heap.size _ zs c (by rfl) (by rfl) hown (k + 1) (by rw [HL.out]) (by omega) hbel.size ?_; intro g1 c1 w1 ho1 hb1)
        go_ret
        refine ⟨g1, c1, zs ++ [c], rfl, ho1, bits_append hz (bits_one (by omega)), ?_, hbel.trans hb1⟩
        rw [val_snoc, HL.out, HE.out, List.take_of_length_le (by rw [← ra.1]; omega), List.take_of_length_le (by rw [← rb.1]; omega)]
end Go.Proofs.Ytmmccaaocfbdlaa
