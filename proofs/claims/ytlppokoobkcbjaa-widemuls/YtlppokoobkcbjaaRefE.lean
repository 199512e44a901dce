/- The document's own answers of layer 2, by bits: wide numbers, products. -/
import Derived.Test.YtlppokoobkcbjaaRefD
import Derived.Test.YtlppokoobkcbjaaRowJ
import Derived.Deep.RegionHeld3
namespace Go.Proofs.Ytlppokoobkcbjaa
open Go.RowKit
set_option linter.unusedVariables false

theorem wide_val {x y : List Int} {h l : Int} (hx : x.length = 64) (ex : val x = l) (ey : val y = h) : val (x ++ y) = wn h l := by
  have p : P2 64 = 18446744073709551616 := by decide
  rw [val_append, hx, ex, ey, p]; unfold wn; omega

theorem refWide_any (h l : Int) (w : World) (hh : 0 ≤ h ∧ h ≤ 18446744073709551615) (hl : 0 ≤ l ∧ l ≤ 18446744073709551615) :
    Calls Try.prog 24 #[.int .u64 h, .int .u64 l] w (GivesBits w 128 (wn h l)) := by
  go_enter Try.func24, Try.ntmps24
  go_wp2_with (first
    | (go_at_call_of 8 (Value.int .u64 l); refine (refBits_any _ _ hl).mono ?_; rintro e w1 ⟨g1, c1, x, rfl, O1, b1, v1, B1⟩; have V1 := Lib.hid v1; clear v1)
    | (go_at_call_of 8 (Value.int .u64 h); refine (refBits_any _ _ hh).mono ?_; rintro e w2 ⟨g2, c2, y, rfl, O2, b2, v2, B2⟩; have V2 := Lib.hid v2; clear v2)
    | (at_builtin; refine wp_concat (by rfl) _ _ (by rfl) w.heap.size _ x g2 64 c2 y (by rfl) (by rfl) (O1.kept B2) O2.rd (by omega) 128 (by rw [← O1.at_.1]) (by omega) (Nat.le_trans B1.size B2.size) ?_; intro g3 c3 w3 O3 B3))
  go_ret
  exact ⟨g3, c3, x ++ y, rfl, O3, bits_append b1 b2, wide_val O1.at_.1.symm V1.out V2.out, (new_then B1 B2).trans B3⟩
end Go.Proofs.Ytlppokoobkcbjaa
