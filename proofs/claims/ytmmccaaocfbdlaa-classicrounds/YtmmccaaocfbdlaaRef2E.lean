/- The document's own answers of layer 2, by bits: wide numbers, products. -/
import Derived.Test.YtmmccaaocfbdlaaRef2D
import Derived.Test.YtmmccaaocfbdlaaRowJ
import Derived.Deep.RegionHeld3
namespace Go.Proofs.Ytmmccaaocfbdlaa
open Go.RowKit
set_option linter.unusedVariables false

theorem wide_val {x y : List Int} {h l : Int} (hx : x.length = 64) (ex : val x = l) (ey : val y = h) : val (x ++ y) = wn h l := by
  have p : P2 64 = 18446744073709551616 := by decide
  rw [val_append, hx, ex, ey, p]; unfold wn; omega
end Go.Proofs.Ytmmccaaocfbdlaa
