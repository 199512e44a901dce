/- Bytes in memory; slices.Clone of bytes. -/
import Derived.Test.YtimipikabedjnaaRowK
import Derived.Test.YtimipikabedjnaaCodM
import Derived.Lib.SliceRun
namespace Go.Proofs.Ytimipikabedjnaa
open Go.RowKit
set_option linter.unusedVariables false
abbrev OwnB (w : World) (base : Nat) (v : Value) (zs : List Int) : Prop := OwnK .u8 5 w base v zs

section
variable {k : IntKind} {t e : TypeId} {bytes : Nat}
/-- 'append(out, more...)' in a plain region. -/
theorem wp_catK (E : IsElem k t e bytes) {ops : Array Oper} {rest : List Oper} {o : Oper} {a : Act} {Q : Exit → Act → World → Prop} {W : World} (hgd : o.guard = none) (s x : Operand)
    (ho : o.op = .call { callee := .builtin .append, args := #[s, x], argTypes := #[t, t] })
    (base : Nat) (v : Value) (zs : List Int) (A : Option Addr) (m c : Nat) (ys : List Int) (hs : a.eval s = v) (hx : a.eval x = .slice A m c) (hsrc : Src k W A m c ys) (hown : OwnK k e W base v zs) (hlen : zs.length + ys.length ≤ 1000000000) (hbase : base ≤ W.heap.size)
    (h : ∀ v' w', OwnK k e w' base v' (zs ++ ys) → W.grownBy w' v.ownBlock → (v'.ownBlock = v.ownBlock ∨ v'.ownBlock = some W.heap.size) → wpList Try.prog ops Q rest (a.put o.dst v') w') : wpList Try.prog ops Q (o :: rest) a W := by
  refine wpList_plain hgd fun K hK => ?_
  obtain ⟨v', w', hr, h2, h3, h4⟩ := run_catK E o.type W base v zs A m c ys hown hsrc hlen hbase
  unfold Oper.wp execOp
  simp only [ho, resolve, invoke, builtin, Sem.run_bind, Sem.run_pure, Result.andThen_ok, List.map_toArray, List.map_cons, List.map_nil, hs, hx, hr]
  exact hK _ _ (h v' w' h2 h3 h4)
/-- An empty list, made. -/
theorem OwnK.made0 {w : World} {base : Nat} (hb : base ≤ w.heap.size) : OwnK k e (w.alloc (.cells #[] e)) base (.slice (some ⟨w.heap.size, 0, none⟩) 0 0) [] :=
  World.ownsRow_made w _ 0 hb (by unfold maxLen; omega) rfl
theorem OwnK.form {w : World} {base : Nat} {v : Value} {zs : List Int} (h : OwnK k e w base v zs) : (v = .slice none 0 0 ∧ zs = []) ∨ ∃ g c, v = .slice (some ⟨g, 0, none⟩) zs.length c := by
  rcases h.2 with ⟨h1, h2⟩ | ⟨g, cap, cur, h1, _⟩
  · exact .inl ⟨h1, List.eq_nil_of_length_eq_zero h2⟩
  · exact .inr ⟨g, cap, h1⟩
theorem OwnK.some {w : World} {base : Nat} {v : Value} {zs : List Int} {n : Nat} (h : OwnK k e w base v zs) (hn : zs.length = n) (h0 : 0 < n) : ∃ g c, v = .slice (some ⟨g, 0, none⟩) n c ∧ base ≤ g ∧ g < w.heap.size := by
  rcases h.form with ⟨_, rfl⟩ | ⟨g, c, rfl⟩
  · simp at hn; omega
  · obtain ⟨_, _, _, hb, cur, _, hB, _⟩ := h.blk
    subst hn
    exact ⟨g, c, rfl, hb, hB.lt⟩
/-- What a call made may be read. -/
theorem OwnK.src {w : World} {base : Nat} {A : Option Addr} {n c : Nat} {zs : List Int} (h : OwnK k e w base (.slice A n c) zs) : Src k w A n c zs := by
  rcases h.form with ⟨h1, rfl⟩ | ⟨g, c', h1⟩
  · simp at h1
    obtain ⟨rfl, rfl, rfl⟩ := h1
    exact ⟨rfl, .inl ⟨rfl, rfl, rfl⟩⟩
  · simp at h1
    obtain ⟨rfl, rfl, rfl⟩ := h1
    refine ⟨rfl, .inr ⟨_, rfl, fun j hj => ?_⟩⟩
    have := h.cell hj
    unfold Addr.add
    split
    · simp_all
    · simpa using this
end
/-- A list of its own. -/
def ListOf (w : World) (zs : List Int) (e : Ending) (w' : World) : Prop := ∃ v, e = .returned v ∧ OwnB w' w.heap.size v zs ∧ Below w.heap.size w w'
end Go.Proofs.Ytimipikabedjnaa
