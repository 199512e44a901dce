/- Two heaps and two lists, side by side. -/
import Derived.Test.YtmdlbjeiokadaaaHeapU
import Derived.Test.YtmdlbjeiokadaaaHeapL
namespace Go.Proofs.Ytmdlbjeiokadaaa
open Go.RowKit
set_option linter.unusedVariables false

/-- Two heaps, each with its list; none of them shares memory with another one. -/
structure MS (w : World) (bx by' gX gY : Nat) (LX LY : List Wt) (pX pY : Int) (vl vm : Value) (A : Option Addr) (N c gl : Nat) (B : Option Addr) (M d gm : Nat) (wr : World) : Prop where
  hx : HAt w bx gX LX pX wr
  hy : HAt w by' gY LY pY wr
  lx : VAt bx gX LX vl A N c gl wr
  ly : VAt by' gY LY vm B M d gm wr
  nx : LX ≠ [] → gl ≠ by' ∧ gl ≠ gY
  ny : LY ≠ [] → gm ≠ bx ∧ gm ≠ gX
  d1 : bx ≠ by'
  d2 : gX ≠ by'
  d3 : gY ≠ bx
  d4 : gX ≠ gY
theorem MS.swap {w : World} {bx by' gX gY : Nat} {LX LY : List Wt} {pX pY : Int} {vl vm : Value} {A : Option Addr} {N c gl : Nat} {B : Option Addr} {M d gm : Nat} {wr : World} (h : MS w bx by' gX gY LX LY pX pY vl vm A N c gl B M d gm wr) :
    MS w by' bx gY gX LY LX pY pX vm vl B M d gm A N c gl wr := ⟨h.hy, h.hx, h.ly, h.lx, h.ny, h.nx, fun e => h.d1 e.symm, h.d3, h.d2, fun e => h.d4 e.symm⟩
theorem MS.kept {w : World} {bx by' gX gY : Nat} {LX LY : List Wt} {pX pY : Int} {vl vm : Value} {A : Option Addr} {N c gl : Nat} {B : Option Addr} {M d gm : Nat} {wr w' : World} (h : MS w bx by' gX gY LX LY pX pY vl vm A N c gl B M d gm wr) (b : Below wr.heap.size wr w') :
    MS w bx by' gX gY LX LY pX pY vl vm A N c gl B M d gm w' := ⟨h.hx.kept b, h.hy.kept b, h.lx.kept b, h.ly.kept b, h.nx, h.ny, h.d1, h.d2, h.d3, h.d4⟩
theorem HAt.out {F : Nat → Prop} {w wr w' : World} {b g : Nat} {L : List Wt} {p : Int} (h : HAt w b g L p wr) (o : Out F wr w') (hb : ¬ F b) (hg : ¬ F g) (hB : Below w.heap.size w w') : HAt w b g L p w' := ⟨h.1.out o hb hg, h.2.1, h.2.2.1, hB⟩
/-- An event is pushed to both, heap and list. -/
theorem MS.push {w : World} {bx by' gX gY : Nat} {LX LY : List Wt} {pX pY : Int} {vl vm : Value} {A : Option Addr} {N c gl : Nat} {B : Option Addr} {M d gm : Nat} {wr w1 w2 w3 : World} {g1 g3 c3 : Nat} {x : Ev} (h : MS w bx by' gX gY LX LY pX pY vl vm A N c gl B M d gm wr)
    (Q1 : HAt w bx g1 (ins LX (x.wt pX)) (pX + 1) w1) (hg1 : g1 = gX ∨ wr.heap.size ≤ g1) (o1 : Out (footH bx gX) wr w1) (B2 : Below w1.heap.size w1 w2) (h31 : w2.heap.size ≤ g3) (h32 : g3 < w3.heap.size) (l3 : LstE w3 g3 (some ⟨g3, 0, none⟩) (insE (LX.map Wt.ev) x)) (hc3 : N + 1 ≤ c3) (B3 : Below w2.heap.size w2 w3) :
    MS w bx by' g1 gY (ins LX (x.wt pX)) LY (pX + 1) pY (.slice (some ⟨g3, 0, none⟩) (N + 1) c3) vm (some ⟨g3, 0, none⟩) (N + 1) c3 g3 B M d gm w3 := by
  obtain ⟨hx, hy, lx, ly, nx, ny, d1, d2, d3, d4⟩ := h
  have s1 := Q1.1.lt
  have s2 := B2.size
  have sy := hy.1.lt
  have so := o1.size
  have BB : Below w1.heap.size w1 w3 := new_then B2 B3
  have ny' : LY.map Wt.ev ≠ [] → gm ≠ bx ∧ gm ≠ gX := fun h => ny (ev_nil.1 h)
  refine ⟨(Q1.kept B2).kept B3, (hy.out o1 (not_footH (fun e => d1 e.symm) (fun e => d2 e.symm)) (not_footH d3 (fun e => d4 e.symm)) Q1.2.2.2).kept BB, ⟨rfl, by rw [ins_len, lx.2.1], ?_, hc3, fun h => (by cases h), fun _ => ⟨by omega, by omega⟩⟩, ?_, fun _ => ⟨by omega, by omega⟩, fun h => ⟨(ny h).1, new_far hg1 (ny h).2 (ly.2.2.1.lt (ev_nil.2 h))⟩, d1, by omega, d3, by omega⟩
  · rw [ins_ev]; exact l3
  · exact ⟨ly.1, ly.2.1, (lst_foot ly.2.2.1 ny' o1).kept BB, ly.2.2.2⟩
end Go.Proofs.Ytmdlbjeiokadaaa
