/- The document's own answers of layer 2, by bits: products and quotients. -/
import Derived.Test.YtmmccaaocfbdlaaRef2E
namespace Go.Proofs.Ytmmccaaocfbdlaa
open Go.RowKit
set_option linter.unusedVariables false

theorem GivesBits.then {w w1 w2 : World} {n : Nat} {x : Int} {e : Ending} (hb : Below w.heap.size w w1) (h : GivesBits w1 n x e w2) : GivesBits w n x e w2 := by
  obtain ⟨g, c, zs, rfl, o, b, v, bl⟩ := h
  exact ⟨g, c, zs, rfl, o.mono hb.size, b, v, new_then hb bl⟩

/-- Some bits, at most so many, at least one. -/
def GivesUpto (w : World) (m : Nat) (x : Int) (e : Ending) (w' : World) : Prop :=
  ∃ n g c zs, 0 < n ∧ n ≤ m ∧ e = .returned (.slice (some ⟨g, 0, none⟩) n c) ∧ Own w' w.heap.size (.slice (some ⟨g, 0, none⟩) n c) zs ∧ IsBits zs ∧ val zs = x ∧ Below w.heap.size w w'

def MulInv2 (a b : List Int) (na nb : Nat) (w : World) (gk : Nat) (vo vi : Value) (wr : World) : Prop :=
  ∃ (k n g c : Nat) (zs : List Int), k ≤ nb ∧ gk = nb - k ∧ vi = .int .i64 k ∧ vo = .slice (some ⟨g, 0, none⟩) n c ∧ 0 < n ∧ n ≤ na + k + 1 ∧ Own wr w.heap.size (.slice (some ⟨g, 0, none⟩) n c) zs ∧ IsBits zs ∧
    val zs = val a * val (b.take k) ∧ Below w.heap.size w wr

theorem mul_next {a b : List Int} {k : Nat} {o : Int} (e : o = val a * val (b.take k)) (h : bitAt b k = 1) : o + val (List.replicate k 0 ++ a) = val a * val (b.take (k + 1)) := by
  rw [val_append, val_zeros, List.length_replicate, val_take_succ, h, Int.mul_add, e, Int.mul_one, Int.mul_comm (P2 k)]; omega
theorem mul_stay {a b : List Int} {k : Nat} {o : Int} (e : o = val a * val (b.take k)) (h : bitAt b k = 0) : o = val a * val (b.take (k + 1)) := by
  rw [val_take_succ, h, e, Int.mul_zero, Int.add_zero]

set_option maxHeartbeats 1000000 in
theorem refMul2_any (ga na ca gb nb cb : Nat) (a b : List Int) (w : World) (ra : Rd w ga na ca a) (rb : Rd w gb nb cb b) (ha : IsBits a) (hb : IsBits b) (h0 : 0 < na) (hl : na ≤ 100000) (hl' : nb ≤ 100000) :
    Calls Try.prog 34 #[.slice (some ⟨ga, 0, none⟩) na ca, .slice (some ⟨gb, 0, none⟩) nb cb] w (GivesUpto w (na + nb + 1) (val a * val b)) := by
  go_enter Try.func34, Try.ntmps34
  go_wp2
  go_loopg [5, 6] nb (fun g vo vi wr => MulInv2 a b na nb w g vo vi wr)
  case atStart => exact ⟨0, 1, w.heap.size, 1, [0], by omega, rfl, rfl, rfl, by omega, by omega, Own.one w 0, bits_one (.inl rfl), by simp [val], (Below.refl _ _).alloc (Nat.le_refl _) _⟩
  case round =>
    obtain ⟨k, n, g, c, zs, hk, rfl, rfl, rfl, hn0, hn1, hown, hz, he, hbel⟩ := hrel
    have HE := Lib.hid he
    have RA := (ra.kept hbel)
    have RB := (rb.kept hbel)
    clear he
    by_cases h1 : k < nb
    · have cy := RB.bit h1
      rcases bitAt_01 hb k with hx | hx
      · rw [hx] at cy
        have HX := Lib.hid hx
        clear hx
        go_wp2
        go_roundg (nb - (k + 1))
        case measure => omega
        case rel => exact ⟨k + 1, n, g, c, zs, by omega, rfl, by go_num, rfl, hn0, by omega, hown, hz, mul_stay HE.out HX.out, hbel⟩
      · rw [hx] at cy
        have HX := Lib.hid hx
        clear hx
        have mk := make_ints k (by omega)
        go_wp2_with (first
          | (at_builtin; refine wp_concat (by rfl) _ _ (by rfl) wr.heap.size _ (List.replicate k 0) ga na ca a (by rfl) (by rfl) (Own.made wr k (by omega)) (RA.alloc _) h0 (k + na) (by rw [List.length_replicate]) (by omega) (by simp) ?_; intro g1 c1 w1 O1 B0; have B1 : Below wr.heap.size wr w1 := (new_alloc (new_refl wr) _).trans B0)
          | (go_at_call 37; refine (refAdd2_any g n c g1 (k + na) c1 (max n (k + na)) zs (List.replicate k 0 ++ a) _ (hown.kept B1).rd O1.rd hz (bits_append (bits_zeros k) ha) (by omega) (by omega)).mono ?_; rintro e w2 ⟨g2, c2, ys, rfl, O2, b2, v2, B2⟩; have V2 := Lib.hid v2; clear v2))
        go_roundg (nb - (k + 1))
        case measure => omega
        case rel => exact ⟨k + 1, max n (k + na) + 1, g2, c2, ys, by omega, rfl, by go_num, rfl, by omega, by omega, O2.mono (Nat.le_trans hbel.size B1.size), b2, by rw [V2.out]; exact mul_next HE.out HX.out, new_then hbel (new_then B1 B2)⟩
    · obtain rfl : k = nb := by omega
      go_wp2
      go_ret
      exact ⟨n, g, c, zs, hn0, hn1, rfl, hown, hz, by rw [HE.out, List.take_of_length_le (by rw [← rb.1]; omega)], hbel⟩
end Go.Proofs.Ytmmccaaocfbdlaa
