/- What the listed variable of package ecn holds when the call begins, as cells (NamesAt), and that there is such a start. -/
import Derived.Test.YtfibjimahkpabaaDoorEcnB
import Derived.LaidMore
import Derived.Stop.Joined
namespace Go.Proofs.YtfibjimahkpabaaDoor
open Go.ChangeShapes Go.WideShapes Go.ChangeAt Go.RowKit Go.WideMaps Go.WideElems

abbrev laidN {H : Type} : List (String × DataW H) := [("leat/ecn.names", Rows.laid_leat_ecn_names)]
theorem gNames : Tryd.prog.globalNamed "leat/ecn.names" = some 0 := by kernel_rfl
theorem tNames : (Tryd.prog.globals[0]?).map (·.type) = some 34 := by kernel_rfl

theorem door_met (os : Os) (args : Array Value) : laidMetH Tryd.prog laidN ((World.doorLaid Tryd.prog 400 os).forCall (fun _ _ => 0) ⟨#[], args, []⟩).memory :=
  laidMetH_of_parts3 (fuel := 8) (laidMet_of_run' 8 (by kernel_rfl) (by kernel_rfl)) (by kernel_rfl) (by kernel_rfl)

theorem str_of {W : World} {H : Type} {enc : TypeId × Value → H} {b : Nat} {sp : Nat → Bool} {hd : Bool} {m : Nat} {cs : List Value} {x : DataW H × List MemPlace} {s : ByteArray}
    (h : DataW.trod enc Tryd.prog W b sp hd m 9 cs = some x) (e : x.1 = .lit (.string s.data.toList)) : cs = [.string s] := by
  obtain ⟨u, e1, e2, _⟩ := DataW.trod_string Tryd.underlying9 h
  rw [e2] at e
  have : u.data.toList = s.data.toList := by simpa using e
  rw [e1, bytes_inj this]

/-- WHAT THE CONDITION GIVES THE WALKS: the four names' cells. -/
theorem of_laid {W : World} (h : laidMetH Tryd.prog laidN W) : NamesAt W := by
  rw [MakeChecks.laidMetH_plain _ _ _ (by kernel_rfl)] at h
  obtain ⟨ps, ⟨g0, t0, cs0, f0, p0, q0, hg0, ht0, hv0, hd0, _, _⟩, _, _⟩ := h
  obtain rfl := Option.some.inj (gNames.symm.trans hg0)
  obtain rfl := Option.some.inj (tNames.symm.trans ht0)
  obtain ⟨xs, m1, rfl, hx1, hlen, hn3, hel⟩ := DataW.trod_array Tryd.underlying34 hd0
  have c9 : Tryd.prog.cellsOf 9 = 1 := by kernel_rfl
  have hl : [DataW.lit (.string [110, 111, 116]), .lit (.string [101, 99, 116, 49]), .lit (.string [101, 99, 116, 48]), .lit (.string [99, 101])] = xs.map (fun x => x.1) := by
    have := congrArg Prod.fst hx1
    simpa [Rows.laid_leat_ecn_names] using this
  have key : ∀ i (u : ByteArray), i < 4 → (xs.map (fun x => x.1))[i]? = some (.lit (.string u.data.toList)) → W.cell? ⟨0, i, none⟩ = some (.string u) := by
    intro i u hi hu
    have hix : i < xs.length := by omega
    have h1 := hel i hi
    rw [List.getElem?_eq_getElem hix, c9] at h1
    rw [List.getElem?_map, List.getElem?_eq_getElem hix] at hu
    have h2 := str_of h1 (by simpa using hu)
    have h3 : cs0.toList[i]? = some (.string u) := by
      have := congrArg (fun l => l[0]?) h2
      simpa [List.getElem?_drop, List.getElem?_take] using this
    have := World.var?_cell hg0 hv0 i
    rw [this]
    simpa using h3
  rw [← hl] at key
  exact ⟨key 0 (nameC 0) (by omega) rfl, key 1 (nameC 1) (by omega) rfl, key 2 (nameC 2) (by omega) rfl, key 3 (nameC 3) (by omega) rfl⟩
end Go.Proofs.YtfibjimahkpabaaDoor
