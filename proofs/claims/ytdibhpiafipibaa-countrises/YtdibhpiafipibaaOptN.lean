/- Package option: Find. -/
import Derived.Test.YtdibhpiafipibaaOptL
namespace Go.Proofs.Ytdibhpiafipibaa
open Go.RowKit
set_option linter.unusedVariables false
theorem new_set3 {a w : World} (h : Below a.heap.size a w) {g : Nat} (hg : a.heap.size ≤ g) (u v x : Value) : Below a.heap.size a (((w.setCell ⟨g, 0, none⟩ u).setCell ⟨g, 1, none⟩ v).setCell ⟨g, 2, none⟩ x) :=
  new_set (new_set (new_set h (p := ⟨g, 0, none⟩) hg u) (p := ⟨g, 1, none⟩) hg v) (p := ⟨g, 2, none⟩) hg x
/-- Numbers lie in no block that holds something else. -/
theorem LsK.apart {k : IntKind} {w : World} {g p : Nat} {A : Option Addr} {zs : List Int} {vs : List Value} {t : TypeId} (h : LsK k w g A zs) (hb : Blk w p vs t) (hv : ∀ v ∈ vs, ∀ z, v ≠ .int k z) (j : Nat) (u : Value) : LsK k (w.setCell ⟨p, j, none⟩ u) g A zs := by
  rcases h with h | ⟨off, e, h⟩
  · exact .inl h
  · refine .inr ⟨off, e, fun i hi => ?_⟩
    have h1 := h i hi
    rw [World.cell?_setCell_other _ _ _ _ ?_]
    · exact h1
    · intro he
      cases he
      rw [cell_of_row w _ _ _ t _ hb] at h1
      have h2 : vs[off + i]? = some (.int k (zs[i]?.getD 0)) := by simpa using h1
      exact hv _ (List.mem_of_getElem? h2) _ rfl
theorem HasO.apart {w : World} {p : Nat} {x : OC} {vs : List Value} {t : TypeId} (h : HasO w x) (hb : Blk w p vs t) (hv : ∀ v ∈ vs, ∀ z, v ≠ .int .u32 z) (j : Nat) (u : Value) : HasO (w.setCell ⟨p, j, none⟩ u) x :=
  ⟨h.len, h.ls.imp fun g l => l.apart hb hv j u, h.u32, h.few, h.txt, h.room⟩
theorem noU3 (a : Int) (A : Option Addr) (n c : Nat) (s : ByteArray) : ∀ v ∈ [Value.int .i64 a, .slice A n c, .string s], ∀ z, v ≠ .int .u32 z := by
  intro v hv z
  simp at hv
  rcases hv with rfl | rfl | rfl <;> simp
theorem HasO.apart3 {w : World} {p : Nat} {x : OC} {a b : Int} {A B : Option Addr} {n c m d : Nat} {s s' : ByteArray} {t : TypeId} (h : HasO w x) (hb : Blk w p [.int .i64 a, .slice A n c, .string s] t) : HasO (((w.setCell ⟨p, 0, none⟩ (.int .i64 b)).setCell ⟨p, 1, none⟩ (.slice B m d)).setCell ⟨p, 2, none⟩ (.string s')) x :=
  ((h.apart hb (noU3 _ _ _ _ _) 0 _).apart (hb.set 0 (.int .i64 b)) (noU3 _ _ _ _ _) 1 _).apart ((hb.set 0 (.int .i64 b)).set 1 (.slice B m d)) (noU3 _ _ _ _ _) 2 _
/-- An option that was found: its numbers lie in a list of their own. -/
def FindTo (w : World) (x : OC) (e : Ending) (w' : World) : Prop :=
  ∃ A c, e = .returned (.tuple #[.agg #[.int .i64 x.o.k, .slice A x.n c, .string x.o.s], .bool true]) ∧ HasO w' ⟨x.o, A, x.n, c⟩ ∧ Below w.heap.size w w'
end Go.Proofs.Ytdibhpiafipibaa
