/- Package flags: fitted, put2, put4; the document's put. -/
import Derived.Test.YtdibhpiafipibaaFlgM
import Derived.Test.YtdibhpiafipibaaRowM
namespace Go.Proofs.Ytdibhpiafipibaa
open Go.RowKit
set_option linter.unusedVariables false

theorem grown_out {w w' : World} {b : Option Nat} (G : w.grownBy w' b) : Out (fun k => b = some k) w w' := ⟨G.os, G.tape, G.output, G.size, fun k hk hf => G.block k hk fun h => hf h.symm⟩
theorem at_outF {F : Nat → Prop} {w w' : World} {g : Nat} {vs : List Value} (h : At w g vs) (o : Out F w w') (hF : ¬ F g) : At w' g vs :=
  ⟨Nat.lt_of_lt_of_le h.1 o.size, fun i v hv => (World.cell?_of_block (a := ⟨g, i, none⟩) (o.block g h.1 hF)).trans (h.cell i hv)⟩
/-- A list that grows beside others. -/
def MoreI (w : World) (base : Nat) (v : Value) (zs : List Int) (v' : Value) (w' : World) : Prop :=
  OwnB w' base v' zs ∧ Out (fun k => v.ownBlock = some k) w w' ∧ (v'.ownBlock = v.ownBlock ∨ ∃ g, v'.ownBlock = some g ∧ w.heap.size ≤ g)
theorem more_refl {w : World} {base : Nat} {v : Value} {zs : List Int} (h : OwnB w base v zs) : MoreI w base v zs v w := ⟨h, Out.refl _ _, .inl rfl⟩
theorem more_alloc {w w' : World} {base : Nat} {v v' : Value} {zs : List Int} (h : MoreI w base v zs v' w') (o : Obj) : MoreI w base v zs v' (w'.alloc o) := ⟨h.1.alloc o, h.2.1.alloc o, h.2.2⟩
theorem more_then {w w' w2 : World} {base : Nat} {v v' v2 : Value} {zs zs' : List Int} (h : MoreI w base v zs v' w') (k : MoreI w' base v' zs' v2 w2) : MoreI w base v zs' v2 w2 := by
  obtain ⟨_, o, e⟩ := h
  obtain ⟨h2, o2, e2⟩ := k
  refine ⟨h2, o.trans o2 ?_, ?_⟩
  · intro i hi hv
    rcases e with e | ⟨g, e, hg⟩
    · exact e ▸ hv
    · rw [e] at hv; cases hv; omega
  · rcases e2 with e2 | ⟨g, e2, hg⟩
    · rcases e with e | ⟨g, e, hg⟩
      · exact .inl (e2.trans e)
      · exact .inr ⟨g, e2.trans e, hg⟩
    · exact .inr ⟨g, e2, by have := o.size; omega⟩
theorem more_grown {w w2 : World} {base : Nat} {v v2 : Value} {zs : List Int} (O : OwnB w2 base v2 zs) (G : w.grownBy w2 v.ownBlock) (hat : v2.ownBlock = v.ownBlock ∨ v2.ownBlock = some w.heap.size) : MoreI w base v zs v2 w2 :=
  ⟨O, grown_out G, hat.imp id fun h => ⟨_, h, Nat.le_refl _⟩⟩
/-- A block that is another one than the list's stays another one. -/
theorem more_far {w w' : World} {base g : Nat} {v v' : Value} {zs : List Int} (h : MoreI w base v zs v' w') (hg : g < w.heap.size) (hv : v.ownBlock ≠ some g) : v'.ownBlock ≠ some g := by
  rcases h.2.2 with e | ⟨g', e, hg'⟩
  · rw [e]; exact hv
  · rw [e]; intro h; cases h; omega
theorem two_src {w : World} {g : Nat} {a b : Int} (h : At w g [.int .u8 a, .int .u8 b]) : Src .u8 w (some ⟨g, 0, none⟩) 2 2 [a, b] :=
  ⟨rfl, .inr ⟨_, rfl, fun j hj => by
    have : j < 2 := hj
    match j, this with
    | 0, _ => exact h.cell 0 rfl
    | 1, _ => exact h.cell 1 rfl⟩⟩

def P2I (w : World) (base : Nat) (v : Value) (zs xs : List Int) (L gh : Nat) (vo vi : Value) (wr : World) : Prop :=
  ∃ k : Nat, vi = .int .i64 (k : Int) ∧ L - k = gh ∧ k ≤ L ∧ MoreI w base v (zs ++ twosF (xs.take k)) vo wr

def P4I (w : World) (base : Nat) (v : Value) (zs xs : List Int) (L gh : Nat) (vo vi : Value) (wr : World) : Prop :=
  ∃ k : Nat, vi = .int .i64 (k : Int) ∧ L - k = gh ∧ k ≤ L ∧ MoreI w base v (zs ++ foursF (xs.take k)) vo wr
end Go.Proofs.Ytdibhpiafipibaa
