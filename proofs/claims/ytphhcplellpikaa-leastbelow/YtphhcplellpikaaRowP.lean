/- Slices of structs: append of a slice in a plain region; what a call owns is read; a slice without elements that was made. -/
import Derived.Test.YtphhcplellpikaaRowE
namespace Go.Proofs.Ytphhcplellpikaa
open Go.RowKit
set_option linter.unusedVariables false

section
variable {α : Type} {enc : α → List Value} {k : Nat} {t e : TypeId} {z : Value} {bytes : Nat}
/-- 'append(out, more...)' in a plain region. -/
theorem wp_catP (E : IsEnc enc k) (S : IsStr t e z k bytes) {ops : Array Oper} {rest : List Oper} {o : Oper} {a : Act} {Q : Exit → Act → World → Prop} {W : World} (hgd : o.guard = none) (s x : Operand)
    (ho : o.op = .call { callee := .builtin .append, args := #[s, x], argTypes := #[t, t] })
    (base : Nat) (v : Value) (zs : List α) (A : Option Addr) (m c : Nat) (ys : List α) (hs : a.eval s = v) (hx : a.eval x = .slice A m c) (hsrc : SrcE enc W A m c ys) (hown : OwnE enc k e W base v zs) (hlen : zs.length + ys.length ≤ 1000000000) (hbase : base ≤ W.heap.size)
    (h : ∀ v' w', OwnE enc k e w' base v' (zs ++ ys) → W.grownBy w' v.ownBlock → (v'.ownBlock = v.ownBlock ∨ v'.ownBlock = some W.heap.size) → wpList Try.prog ops Q rest (a.put o.dst v') w') : wpList Try.prog ops Q (o :: rest) a W := by
  refine wpList_plain hgd fun K hK => ?_
  obtain ⟨v', w', hr, h2, h3, h4⟩ := run_catE E S o.type W base v zs A m c ys hown hsrc hlen hbase
  unfold Oper.wp execOp
  simp only [ho, resolve, invoke, builtin, Sem.run_bind, Sem.run_pure, Result.andThen_ok, List.map_toArray, List.map_cons, List.map_nil, hs, hx, hr]
  exact hK _ _ (h v' w' h2 h3 h4)
/-- A slice without elements that was made just now. -/
theorem own_emptyP (w : World) (base : Nat) (hb : base ≤ w.heap.size) : OwnE enc k e (w.alloc (.cells #[] e)) base (.slice (some ⟨w.heap.size, 0, none⟩) 0 0) [] :=
  World.ownsRow_made w _ 0 hb (by unfold maxLen; omega) (by simp)
/-- A row of the call's own, as what is read. -/
theorem OwnE.src (E : IsEnc enc k) {w : World} {base n c : Nat} {A : Option Addr} {zs : List α} (h : OwnE enc k e w base (.slice A n c) zs) : SrcE enc w A n c zs := by
  rcases h.form with ⟨h1, rfl⟩ | ⟨g, cap, h1⟩
  · simp only [Value.slice.injEq] at h1
    obtain ⟨rfl, rfl, rfl⟩ := h1
    exact ⟨rfl, .inl ⟨rfl, rfl, rfl⟩⟩
  · simp only [Value.slice.injEq] at h1
    obtain ⟨rfl, rfl, rfl⟩ := h1
    obtain ⟨_, _, _, _, rest, hb, _⟩ := h.blk E
    have ha : At w g (flat enc zs) := ⟨hb.lt, fun j u hj => hb.cell j (by rw [List.getElem?_append_left (List.getElem?_eq_some_iff.1 hj).1]; exact hj)⟩
    exact ⟨rfl, .inr ⟨_, rfl, at_add ha⟩⟩
theorem OwnE.isSlice {w : World} {base : Nat} {v : Value} {zs : List α} (h : OwnE enc k e w base v zs) : ∃ A c, v = .slice A zs.length c := by
  rcases h.form with ⟨rfl, rfl⟩ | ⟨g, cap, rfl⟩
  · exact ⟨_, _, rfl⟩
  · exact ⟨_, _, rfl⟩
end
end Go.Proofs.Ytphhcplellpikaa
