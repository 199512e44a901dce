/- The document's own answers of layer 6: lists of events; Push. -/
import Derived.Test.YtmdlbjeiokadaaaHeapD
import Derived.Test.YtmdlbjeiokadaaaRowE
import Derived.Deep.CutBlock
import Derived.Deep.DeepCutAuto
namespace Go.Proofs.Ytmdlbjeiokadaaa
open Go.RowKit
set_option linter.unusedVariables false

theorem encE_is : IsEnc encE 4 := ⟨by decide, fun _ => rfl, fun x v hv => by simp [encE] at hv; rcases hv with rfl | rfl | rfl | rfl <;> rfl⟩
theorem strE : IsStr 25 37 (.agg #[.int .i64 0, .int .i64 0, .int .i64 0, .int .i64 0]) 4 32 := ⟨by kernel_rfl, by kernel_rfl, rfl, by decide⟩
abbrev OwnV (w : World) (base : Nat) (v : Value) (zs : List Ev) : Prop := OwnE encE 4 37 w base v zs

def nthE (L : List Ev) (i : Nat) : Ev := L[i]?.getD default
theorem nthE_eq {L : List Ev} {i : Nat} (h : i < L.length) : nthE L i = L[i] := by simp [nthE, List.getElem?_eq_getElem h]
/-- The four cells of an event. -/
def Four (w : World) (g o : Nat) (x : Ev) : Prop := w.cell? ⟨g, o, none⟩ = some (.int .i64 x.a) ∧ w.cell? ⟨g, o + 1, none⟩ = some (.int .i64 x.k) ∧ w.cell? ⟨g, o + 2, none⟩ = some (.int .i64 x.f) ∧ w.cell? ⟨g, o + 3, none⟩ = some (.int .i64 x.n)
/-- A list that is only read: nil, or its events lie in block g from some place on. -/
def LstE (w : World) (g : Nat) (A : Option Addr) (L : List Ev) : Prop := (A = none ∧ L = []) ∨ ∃ off, A = some ⟨g, off, none⟩ ∧ ∀ i, i < L.length → Four w g (off + i * 4) (nthE L i)
theorem Four.out {F : Nat → Prop} {w w' : World} {g o : Nat} {x : Ev} (h : Four w g o x) (u : Out F w w') (hg : ¬ F g) : Four w' g o x := by
  have hlt : g < w.heap.size := World.block_lt_of_cell? w _ h.1
  have e : ∀ k, w'.cell? ⟨g, k, none⟩ = w.cell? ⟨g, k, none⟩ := fun k => World.cell?_of_block (a := ⟨g, k, none⟩) (u.block g hlt hg)
  unfold Four
  rw [e, e, e, e]
  exact h
theorem LstE.outs {F : Nat → Prop} {w w' : World} {g : Nat} {A : Option Addr} {L : List Ev} (h : LstE w g A L) (o : Out F w w') (hg : L ≠ [] → ¬ F g) : LstE w' g A L := by
  rcases h with h | ⟨off, rfl, h⟩
  · exact .inl h
  · refine .inr ⟨off, rfl, fun i hi => (h i hi).out o (hg ?_)⟩
    rintro rfl
    simp at hi
theorem LstE.kept {w w' : World} {g : Nat} {A : Option Addr} {L : List Ev} (h : LstE w g A L) (o : Below w.heap.size w w') : LstE w' g A L := h.outs (F := fun _ => False) (Out.of o _) (fun _ x => x)
theorem LstE.lt {w : World} {g : Nat} {A : Option Addr} {L : List Ev} (h : LstE w g A L) (hL : L ≠ []) : g < w.heap.size := by
  rcases h with ⟨_, h⟩ | ⟨off, rfl, h⟩
  · exact absurd h hL
  · exact World.block_lt_of_cell? w _ (h 0 (List.length_pos_iff.2 hL)).1
theorem own_four {w : World} {base g n c : Nat} {L : List Ev} (h : OwnV w base (.slice (some ⟨g, 0, none⟩) n c) L) {i : Nat} (hi : i < L.length) : Four w g (0 + i * 4) (nthE L i) := by
  rw [nthE_eq hi, Nat.zero_add]
  exact ⟨h.cells encE_is hi (j := 0) rfl, h.cells encE_is hi (j := 1) rfl, h.cells encE_is hi (j := 2) rfl, h.cells encE_is hi (j := 3) rfl⟩
theorem LstE.own {w : World} {base g n c : Nat} {L : List Ev} (h : OwnV w base (.slice (some ⟨g, 0, none⟩) n c) L) : LstE w g (some ⟨g, 0, none⟩) L := .inr ⟨0, rfl, fun i hi => own_four h hi⟩

theorem nthE_take {L : List Ev} {k i : Nat} (h : i < k) : nthE (L.take k) i = nthE L i := by simp [nthE, h]
theorem nthE_drop {L : List Ev} {k i : Nat} : nthE (L.drop k) i = nthE L (k + i) := by simp [nthE]
/-- As the source of an append. -/
theorem four_cell {w : World} {g o j : Nat} {x : Ev} {u : Value} (h : Four w g o x) (hj : (encE x)[j]? = some u) : w.cell? ⟨g, o + j, none⟩ = some u := by
  match j, hj with
  | 0, hj => simp [encE] at hj; subst hj; exact h.1
  | 1, hj => simp [encE] at hj; subst hj; exact h.2.1
  | 2, hj => simp [encE] at hj; subst hj; exact h.2.2.1
  | 3, hj => simp [encE] at hj; subst hj; exact h.2.2.2
  | n + 4, hj => simp [encE] at hj
theorem src_at {w : World} {g off m c : Nat} {L : List Ev} (hm : m = L.length) (h : ∀ i, i < L.length → Four w g (off + i * 4) (nthE L i)) : SrcE encE w (some ⟨g, off, none⟩) m c L := by
  refine ⟨hm, .inr ⟨_, rfl, fun j u hj => ?_⟩⟩
  have hlt : j < L.length * 4 := by
    have := (List.getElem?_eq_some_iff.1 hj).1
    rwa [flat_len encE_is] at this
  have hi : j / 4 < L.length := by omega
  have hg := flat_get encE_is L (j / 4) (j % 4) hi (by omega)
  rw [show j / 4 * 4 + j % 4 = j by omega, hj] at hg
  have := four_cell (h (j / 4) hi) (j := j % 4) (u := u) (by rw [nthE_eq hi]; exact hg.symm)
  have e : (⟨g, off, none⟩ : Addr).add j = ⟨g, off + j / 4 * 4 + j % 4, none⟩ := by
    unfold Addr.add
    split
    · simp_all
    · simp; omega
  rw [e]
  exact this
theorem src_take {w : World} {g off k c : Nat} {L : List Ev} (hk : k ≤ L.length) (h : ∀ i, i < L.length → Four w g (off + i * 4) (nthE L i)) : SrcE encE w (some ⟨g, off, none⟩) k c (L.take k) :=
  src_at (by rw [List.length_take]; omega) (fun i hi => by rw [List.length_take] at hi; rw [nthE_take (by omega)]; exact h i (by omega))
theorem src_drop {w : World} {g off k m c : Nat} {L : List Ev} (hm : m = L.length - k) (h : ∀ i, i < L.length → Four w g (off + i * 4) (nthE L i)) : SrcE encE w (some ⟨g, off + k * 4, none⟩) m c (L.drop k) :=
  src_at (by rw [List.length_drop]; exact hm) (fun i hi => by
    rw [List.length_drop] at hi
    rw [nthE_drop, show off + k * 4 + i * 4 = off + (k + i) * 4 by omega]
    exact h (k + i) (by omega))
theorem src_nil {w : World} {A : Option Addr} {c : Nat} (hA : A = none → c = 0) : SrcE encE w A 0 c [] := by
  refine ⟨rfl, ?_⟩
  cases A with
  | none => exact .inl ⟨rfl, rfl, hA rfl⟩
  | some a => exact .inr ⟨a, rfl, fun j u hj => by simp [flat] at hj⟩
theorem own_noneE (w : World) (base : Nat) (hb : base ≤ w.heap.size) : OwnV (w.alloc (.cells #[] 37)) base (.slice (some ⟨w.heap.size, 0, none⟩) 0 0) [] :=
  World.ownsRow_made w _ 0 hb (by unfold maxLen; omega) (by simp)
theorem own_noneE2 (w : World) (o : Obj) (base : Nat) (hb : base ≤ w.heap.size) : OwnV ((w.alloc o).alloc (.cells #[] 37)) base (.slice (some ⟨w.heap.size + 1, 0, none⟩) 0 0) [] := by
  have h := own_noneE (w.alloc o) base (alloc_le hb o)
  rw [alloc_size] at h
  exact h
theorem far_nextE {n m : Nat} (h : m < n) : ∀ k, (Value.slice (some ⟨m, 0, none⟩) 0 0).ownBlock = some k → k ≠ n := by intro k e; simp [Value.ownBlock] at e; omega
theorem far_prevE {n m : Nat} (h : n < m) : ∀ k, (Value.slice (some ⟨m, 0, none⟩) 0 0).ownBlock = some k → k ≠ n := by intro k e; simp [Value.ownBlock] at e; omega
theorem At.grown {W w' : World} {g : Nat} {vs : List Value} {v : Value} (hg : W.grownBy w' v.ownBlock) (h : At W g vs) (hf : ∀ k, v.ownBlock = some k → k ≠ g) : At w' g vs := by
  refine ⟨Nat.lt_of_lt_of_le h.1 hg.size, fun i u hu => ?_⟩
  rw [World.cell?_of_block (a := ⟨g, i, none⟩) (hg.block g h.1 (fun e => hf g e.symm rfl))]
  exact h.2 i u hu

/-- The cells of an event that was built beside an empty list: behind it, or ahead. -/
theorem at_behind (V : World) (o : Obj) (x0 x1 x2 x3 : Int) (t : TypeId) : At ((V.alloc o).alloc (.cells #[.int .i64 x0, .int .i64 x1, .int .i64 x2, .int .i64 x3] t)).drew (V.heap.size + 1) (encE ⟨x0, x1, x2, x3⟩) :=
  At.newAt (alloc_size V o) (encE ⟨x0, x1, x2, x3⟩) t
theorem at_ahead (V : World) (o : Obj) (x0 x1 x2 x3 : Int) (t : TypeId) : At ((V.alloc (.cells #[.int .i64 x0, .int .i64 x1, .int .i64 x2, .int .i64 x3] t)).alloc o).drew V.heap.size (encE ⟨x0, x1, x2, x3⟩) :=
  At.alloc (At.new V (encE ⟨x0, x1, x2, x3⟩) t) o
/-- What Push leaves. -/
def PushedE (w : World) (L : List Ev) (M : Nat) (e : Ending) (w' : World) : Prop :=
  ∃ g c, e = .returned (.slice (some ⟨g, 0, none⟩) M c) ∧ w.heap.size ≤ g ∧ g < w'.heap.size ∧ LstE w' g (some ⟨g, 0, none⟩) L ∧ M ≤ c ∧ Below w.heap.size w w'
def CutInv (W : World) (L : List Ev) (a : Int) (N gh : Nat) (vi : Value) (wr : World) : Prop :=
  ∃ k m : Nat, vi = .int .i64 (k : Int) ∧ N - k = gh ∧ k ≤ N ∧ (∀ j, j < k → (nthE L j).a ≤ a) ∧ wr = W.drewN m
theorem nth_map (L : List Ev) (i : Nat) (h : i < L.length) : (L.map Ev.a)[i]?.getD 0 = (nthE L i).a := by
  rw [List.getElem?_map, List.getElem?_eq_getElem h, nthE_eq h]; rfl
theorem cut_at {L : List Ev} {a : Int} {k : Nat} (hk : k ≤ L.length) (h1 : ∀ j, j < k → (nthE L j).a ≤ a) (h2 : k < L.length → a < (nthE L k).a) : cutl (L.map Ev.a) a = k :=
  cutl_is (by simpa using hk) (fun j hj => by rw [nth_map L j (by omega)]; exact h1 j hj) (fun h => by rw [nth_map L k (by simpa using h)]; exact h2 (by simpa using h))
theorem pushed_fin {w W wf : World} {M k : Nat} {L : List Ev} {x : Ev} {v : Value} (BW : Below w.heap.size w W) (B : Below W.heap.size W wf) (O : OwnV wf W.heap.size v ([] ++ L.take k ++ [x] ++ L.drop k)) (hk : cutl (L.map Ev.a) x.a = k) (hM : L.length + 1 = M) :
    PushedE w (insE L x) M (.returned v) wf := by
  have e : [] ++ L.take k ++ [x] ++ L.drop k = insE L x := by unfold insE; rw [hk]; simp
  rw [e] at O
  have hl := insE_len L x
  rcases O.form with ⟨_, h⟩ | ⟨g, cap, rfl⟩
  · rw [h] at hl; simp at hl
  · have h1 := O.lt encE_is
    have h2 := O.len
    refine ⟨g, cap, by rw [hl, hM], Nat.le_trans BW.size h1.1, h1.2, LstE.own O, by omega, new_then BW B⟩
end Go.Proofs.Ytmdlbjeiokadaaa
