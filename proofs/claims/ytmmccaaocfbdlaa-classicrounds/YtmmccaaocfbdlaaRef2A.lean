/- The document's own answers of layer 2, by bits: the bits of a number. -/
import Derived.Test.YtmmccaaocfbdlaaRowI
namespace Go.Proofs.Ytmmccaaocfbdlaa
open Go.RowKit
set_option linter.unusedVariables false

/-- Of n so many bits are told, the rest is still to be told. -/
def BitsInv (n : Int) (w : World) (g : Nat) (vn vo vi : Value) (wr : World) : Prop :=
  ∃ (k : Nat) (zs : List Int) (r : Int), k ≤ 64 ∧ g = 64 - k ∧ vi = .int .i64 k ∧ vn = .int .u64 r ∧ (0 ≤ r ∧ r ≤ 18446744073709551615) ∧ zs.length = k ∧ Own wr w.heap.size vo zs ∧ IsBits zs ∧ val zs + P2 k * r = n ∧ Below w.heap.size w wr ∧
    (0 < k → ∃ g c, vo = .slice (some ⟨g, 0, none⟩) k c)

theorem bits_end (n r : Int) (zs : List Int) (h : IsBits zs) (hl : zs.length = 64) (e : val zs + P2 64 * r = n) (hr : 0 ≤ r) (hn : n ≤ 18446744073709551615) : val zs = n := by
  have b := val_bd h
  rw [hl] at b
  have p : P2 64 = 18446744073709551616 := by decide
  rw [p] at b e
  omega

theorem refBits_any (n : Int) (w : World) (hn : 0 ≤ n ∧ n ≤ 18446744073709551615) :
    Calls Try.prog 35 #[.int .u64 n, .int .i64 64] w (GivesBits w 64 n) := by
  go_enter Try.func35, Try.ntmps35
  go_wp2
  go_loopg [0, 5, 6] 64 (fun g vn vo vi wr => BitsInv n w g vn vo vi wr)
  case atStart => exact ⟨0, [], n, by omega, rfl, rfl, rfl, hn, rfl, Own.nil _ _, by intro z hz; simp at hz, by simp [val, P2_zero], Below.refl _ _, by omega⟩
  case round =>
    obtain ⟨k, zs, r, hk, rfl, rfl, rfl, hr, hl, hown, hb, he, hbel, hform⟩ := hrel
    have HE := Lib.hid he
    have HL := Lib.hid hl
    clear he hl
    by_cases hlt : k < 64
    · go_wp2_with (at_builtin; refine wp_push (by rfl) _ _ (by rfl) w.heap.size _ zs (r % 2) (by rfl) (by rfl) hown (k + 1) (by rw [HL.out]) (by omega) hbel.size ?_; intro g1 c1 w1 ho1 hb1)
      go_roundg (64 - (k + 1))
      case measure => omega
      case rel =>
        have hl' : (zs ++ [r % 2]).length = k + 1 := by rw [List.length_append, HL.out]; rfl
        refine ⟨k + 1, zs ++ [r % 2], r / 2, by omega, rfl, by go_num, rfl, by omega, hl', ho1, bits_append hb (bits_one (by omega)), ?_, hbel.trans hb1, fun _ => ⟨g1, c1, rfl⟩⟩
        rw [val_snoc, HL.out, P2_succ, ← HE.out, Int.mul_comm 2, Int.mul_assoc, Int.add_assoc, ← Int.mul_add]
        congr 2
        omega
    · obtain rfl : k = 64 := by omega
      obtain ⟨g1, c1, rfl⟩ := hform (by omega)
      go_wp2
      go_ret
      exact ⟨g1, c1, zs, rfl, hown, hb, bits_end n r zs hb HL.out HE.out hr.1 hn.2, hbel⟩
end Go.Proofs.Ytmmccaaocfbdlaa
