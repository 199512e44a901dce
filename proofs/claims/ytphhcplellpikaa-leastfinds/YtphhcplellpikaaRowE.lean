/- Slices of anything of several cells (structs) that a call made itself: read, stored into, cut, appended to; also within a region that draws its order. -/
import Derived.Test.YtphhcplellpikaaMem
import Derived.OwnWalk
import Derived.Deep.AppendLies
import Derived.Deep.LoopGhost
import Derived.Laws.OwnMore
import Derived.Laws.IdiomCopy
import Derived.Deep.Onto
import Derived.Deep.OwnRows
import Derived.Deep.RegionHeld3
namespace Go.Proofs.Ytphhcplellpikaa
open Go.RowKit
set_option linter.unusedVariables false

/-- An element's cells: k of them, each a plain one. -/
structure IsEnc {α : Type} (enc : α → List Value) (k : Nat) : Prop where
  pos : 0 < k
  len : ∀ x, (enc x).length = k
  one : ∀ x, ∀ v ∈ enc x, v.oneCell' = true
/-- t is a slice of e, and e a type of k cells, of so many bytes. -/
structure IsStr (t e : TypeId) (z : Value) (k bytes : Nat) : Prop where
  und : Try.prog.underlying t = some (.slice e)
  info : (Try.prog.info? e).map (fun i => (i.zero, i.size, i.bytes)) = some (some z, k, bytes)
  cells : z.cells.size = k
  le : bytes ≤ 100

section
variable {α : Type} {enc : α → List Value} {k : Nat} {t e : TypeId} {z : Value} {bytes : Nat}
def flat (enc : α → List Value) (zs : List α) : List Value := zs.flatMap enc
theorem flat_nil : flat enc [] = [] := rfl
theorem flat_cons (x : α) (zs : List α) : flat enc (x :: zs) = enc x ++ flat enc zs := rfl
theorem flat_append (zs ys : List α) : flat enc (zs ++ ys) = flat enc zs ++ flat enc ys := by simp [flat]
theorem flat_len (E : IsEnc enc k) : ∀ zs : List α, (flat enc zs).length = zs.length * k
  | [] => by simp [flat]
  | x :: zs => by rw [flat_cons, List.length_append, flat_len E zs, E.len, List.length_cons, Nat.add_mul, Nat.one_mul, Nat.add_comm]
theorem flat_one (E : IsEnc enc k) (zs : List α) : ∀ v ∈ flat enc zs, v.oneCell' = true := by
  intro v hv
  simp only [flat, List.mem_flatMap] at hv
  obtain ⟨x, _, hv⟩ := hv
  exact E.one x v hv
theorem flat_get (E : IsEnc enc k) : ∀ (zs : List α) (i j : Nat) (hi : i < zs.length) (hj : j < k), (flat enc zs)[i * k + j]? = (enc zs[i])[j]?
  | [], i, j, hi, _ => by simp at hi
  | x :: zs, 0, j, hi, hj => by
    rw [flat_cons, Nat.zero_mul, Nat.zero_add, List.getElem?_append_left (by rw [E.len]; exact hj)]
    rfl
  | x :: zs, i + 1, j, hi, hj => by
    have e : (i + 1) * k + j = k + (i * k + j) := by rw [Nat.add_mul, Nat.one_mul]; omega
    rw [flat_cons, e, List.getElem?_append_right (by rw [E.len]; omega), E.len, Nat.add_sub_cancel_left, flat_get E zs i j (by simpa using hi) hj]
    rfl
theorem flat_take (E : IsEnc enc k) (zs : List α) (n : Nat) : (flat enc zs).take (n * k) = flat enc (zs.take n) := by
  by_cases h : n ≤ zs.length
  · have e : flat enc zs = flat enc (zs.take n) ++ flat enc (zs.drop n) := by rw [← flat_append, List.take_append_drop]
    have hl : (flat enc (zs.take n)).length = n * k := by rw [flat_len E, List.length_take, Nat.min_eq_left h]
    rw [e, ← hl, List.take_left]
  · rw [List.take_of_length_le (by omega : zs.length ≤ n), List.take_of_length_le]
    rw [flat_len E]
    exact Nat.mul_le_mul_right k (by omega)

/-- So many cells, laid one behind the other. -/
def putL : List Value → Nat → List Value → List Value
  | cur, _, [] => cur
  | cur, o, v :: vs => putL (cur.set o v) (o + 1) vs
theorem putL_mid : ∀ (vs B A C : List Value), B.length = vs.length → putL (A ++ (B ++ C)) A.length vs = A ++ (vs ++ C)
  | [], B, A, C, h => by
    obtain rfl : B = [] := List.eq_nil_of_length_eq_zero h
    rfl
  | v :: vs, [], A, C, h => by simp at h
  | v :: vs, b :: B, A, C, h => by
    have e : (A ++ (b :: B ++ C)).set A.length v = (A ++ [v]) ++ (B ++ C) := by simp
    have e2 : A.length + 1 = (A ++ [v]).length := by simp
    rw [putL, e, e2, putL_mid vs B (A ++ [v]) C (by simpa using h)]
    simp
theorem putL_len : ∀ (vs cur : List Value) (o : Nat), (putL cur o vs).length = cur.length
  | [], _, _ => rfl
  | v :: vs, cur, o => by rw [putL, putL_len vs]; simp
theorem flat_set (E : IsEnc enc k) (zs : List α) (rest : List Value) (i : Nat) (hi : i < zs.length) (x : α) : putL (flat enc zs ++ rest) (i * k) (enc x) = flat enc (zs.set i x) ++ rest := by
  have e1 : zs = zs.take i ++ zs[i] :: zs.drop (i + 1) := by rw [← List.drop_eq_getElem_cons hi, List.take_append_drop]
  have e2 : zs.set i x = zs.take i ++ x :: zs.drop (i + 1) := by rw [List.set_eq_take_append_cons_drop, if_pos hi]
  have hl : (flat enc (zs.take i)).length = i * k := by rw [flat_len E, List.length_take, Nat.min_eq_left (by omega)]
  rw [e2]
  conv => lhs; rw [e1]
  rw [flat_append, flat_append, flat_cons, flat_cons, ← hl, List.append_assoc, List.append_assoc, putL_mid (enc x) (enc zs[i]) _ _ (by rw [E.len, E.len])]
  simp
theorem Blk.setCells {g : Nat} {t : TypeId} : ∀ (vs : List Value) (o : Nat) {w : World} {cur : List Value}, Blk w g cur t → Blk (w.setCells g o vs) g (putL cur o vs) t
  | [], _, _, _, h => h
  | v :: vs, o, _, _, h => Blk.setCells vs (o + 1) (h.set o v)
theorem Out.setCells {F : Nat → Prop} {a : World} {g : Nat} (hp : F g ∨ a.heap.size ≤ g) : ∀ (vs : List Value) (o : Nat) {w : World}, Out F a w → Out F a (w.setCells g o vs)
  | [], _, _, h => h
  | v :: vs, o, _, h => Out.setCells hp vs (o + 1) (h.set (p := ⟨g, o, none⟩) hp v)

/-- The slice v holds the elements zs, in a row of its own among the blocks from 'base' on. -/
def OwnE (enc : α → List Value) (k : Nat) (e : TypeId) (w : World) (base : Nat) (v : Value) (zs : List α) : Prop := w.ownsRow base e k v zs.length (flat enc zs)
theorem OwnE.nil (enc : α → List Value) (k : Nat) (e : TypeId) (w : World) (base : Nat) : OwnE enc k e w base (.slice none 0 0) [] := World.ownsRow_nil _ _ _ _
theorem OwnE.mono {w : World} {base base' : Nat} {v : Value} {zs : List α} (h : OwnE enc k e w base v zs) (hb : base' ≤ base) : OwnE enc k e w base' v zs := World.ownsRow.mono h hb
theorem OwnE.alloc {w : World} {base : Nat} {v : Value} {zs : List α} (h : OwnE enc k e w base v zs) (o : Obj) : OwnE enc k e (w.alloc o) base v zs := World.ownsRow.alloc h o
theorem OwnE.draw {w : World} {base : Nat} {v : Value} {zs : List α} (h : OwnE enc k e w base v zs) (n : Nat) : OwnE enc k e (w.drewN n) base v zs := h
theorem OwnE.drew {w : World} {base : Nat} {v : Value} {zs : List α} (h : OwnE enc k e w base v zs) : OwnE enc k e w.drew base v zs := h
theorem OwnE.out {F : Nat → Prop} {w w' : World} {base : Nat} {v : Value} {zs : List α} (h : OwnE enc k e w base v zs) (o : Out F w w') (hF : ∀ g, v.ownBlock = some g → ¬ F g) : OwnE enc k e w' base v zs := by
  refine ⟨h.1, ?_⟩
  rcases h.2 with h' | ⟨g, cap, cur, h1, h2, h3, h4⟩
  · exact .inl h'
  · have hg : g < w.heap.size := Blk.lt (vs := cur.toList) (t := e) (by simpa [Blk] using h3)
    exact .inr ⟨g, cap, cur, h1, h2, (o.block g hg (hF g (by rw [h1]; rfl))).trans h3, h4⟩
theorem OwnE.kept {w w' : World} {base : Nat} {v : Value} {zs : List α} (h : OwnE enc k e w base v zs) (hb : Below w.heap.size w w') : OwnE enc k e w' base v zs := h.out (F := fun _ => False) (Out.of hb _) (fun _ _ h => h)
/-- What a row of its own is: nil, or a block. -/
theorem OwnE.form {w : World} {base : Nat} {v : Value} {zs : List α} (h : OwnE enc k e w base v zs) : (v = .slice none 0 0 ∧ zs = []) ∨ ∃ g cap, v = .slice (some ⟨g, 0, none⟩) zs.length cap := by
  rcases h.2 with ⟨h', h0⟩ | ⟨g, cap, cur, h1, _⟩
  · exact .inl ⟨h', List.eq_nil_of_length_eq_zero h0⟩
  · exact .inr ⟨g, cap, h1⟩
/-- Its block, whole. -/
theorem OwnE.blk (E : IsEnc enc k) {w : World} {base g n cap : Nat} {zs : List α} (h : OwnE enc k e w base (.slice (some ⟨g, 0, none⟩) n cap) zs) : n = zs.length ∧ n ≤ cap ∧ cap ≤ maxLen ∧ base ≤ g ∧ ∃ rest, Blk w g (flat enc zs ++ rest) e ∧ (flat enc zs ++ rest).length = cap * k := by
  rcases h.2 with ⟨h', _⟩ | ⟨g', cap', cur, h1, h2, h3, h4, h5, h6, h7⟩
  · cases h'
  · simp only [Value.slice.injEq, Option.some.injEq, Addr.mk.injEq, and_true] at h1
    obtain ⟨rfl, rfl, rfl⟩ := h1
    have ec : cur.toList = flat enc zs ++ cur.toList.drop (zs.length * k) := by rw [← h7, List.take_append_drop]
    refine ⟨rfl, h4, h5, h2, cur.toList.drop (zs.length * k), ?_, ?_⟩
    · rw [← ec]; simpa [Blk] using h3
    · rw [← ec]; simpa using h6
theorem OwnE.of (E : IsEnc enc k) {w : World} {base g n cap : Nat} {zs : List α} {rest : List Value} (hn : n = zs.length) (h1 : n ≤ cap) (h2 : cap ≤ maxLen) (h3 : base ≤ g) (h4 : Blk w g (flat enc zs ++ rest) e) (h5 : (flat enc zs ++ rest).length = cap * k) : OwnE enc k e w base (.slice (some ⟨g, 0, none⟩) n cap) zs := by
  subst hn
  refine ⟨flat_len E zs, .inr ⟨g, cap, (flat enc zs ++ rest).toArray, rfl, h3, h4, h1, h2, by simpa using h5, ?_⟩⟩
  rw [List.toList_toArray, ← flat_len E zs, List.take_left]
theorem OwnE.cells (E : IsEnc enc k) {w : World} {base g n cap : Nat} {zs : List α} (h : OwnE enc k e w base (.slice (some ⟨g, 0, none⟩) n cap) zs) {i : Nat} (hi : i < zs.length) {j : Nat} {v : Value} (hv : (enc zs[i])[j]? = some v) : w.cell? ⟨g, i * k + j, none⟩ = some v := by
  obtain ⟨_, _, _, _, rest, hb, _⟩ := h.blk E
  refine hb.cell _ ?_
  have hj : j < k := by
    have := (List.getElem?_eq_some_iff.1 hv).1
    rwa [E.len] at this
  have hlt : i * k + j < (flat enc zs).length := by
    rw [flat_len E]
    have := Nat.mul_le_mul_right k (show i + 1 ≤ zs.length by omega)
    rw [Nat.add_mul, Nat.one_mul] at this
    omega
  rw [List.getElem?_append_left hlt, flat_get E zs i j hi hj]
  exact hv
/-- An element is stored. -/
theorem OwnE.put (E : IsEnc enc k) {w : World} {base g n cap : Nat} {zs : List α} (h : OwnE enc k e w base (.slice (some ⟨g, 0, none⟩) n cap) zs) {i : Nat} (hi : i < zs.length) (x : α) : OwnE enc k e (w.setCells g (i * k) (enc x)) base (.slice (some ⟨g, 0, none⟩) n cap) (zs.set i x) := by
  obtain ⟨h1, h2, h3, h4, rest, hb, hl⟩ := h.blk E
  have hb' := Blk.setCells (enc x) (i * k) hb
  rw [flat_set E zs rest i hi x] at hb'
  refine OwnE.of E (by simpa using h1) h2 h3 h4 hb' ?_
  rw [← flat_set E zs rest i hi x, putL_len]
  exact hl
/-- The first m of them. -/
theorem OwnE.cut (E : IsEnc enc k) {w : World} {base g n cap : Nat} {zs : List α} (h : OwnE enc k e w base (.slice (some ⟨g, 0, none⟩) n cap) zs) {m : Nat} (hm : m ≤ zs.length) : OwnE enc k e w base (.slice (some ⟨g, 0, none⟩) m cap) (zs.take m) := by
  obtain ⟨h1, h2, h3, h4, rest, hb, hl⟩ := h.blk E
  have e0 : flat enc zs ++ rest = flat enc (zs.take m) ++ (flat enc (zs.drop m) ++ rest) := by
    rw [← List.append_assoc, ← flat_append, List.take_append_drop]
  rw [e0] at hb hl
  exact OwnE.of E (by rw [List.length_take]; omega) (by omega) h3 h4 hb hl
theorem OwnE.lt (E : IsEnc enc k) {w : World} {base g n cap : Nat} {zs : List α} (h : OwnE enc k e w base (.slice (some ⟨g, 0, none⟩) n cap) zs) : base ≤ g ∧ g < w.heap.size := by
  obtain ⟨_, _, _, h4, rest, hb, _⟩ := h.blk E
  exact ⟨h4, hb.lt⟩
theorem OwnE.frozen (E : IsEnc enc k) {w : World} {base g n cap : Nat} {zs : List α} (h : OwnE enc k e w base (.slice (some ⟨g, 0, none⟩) n cap) zs) (o : Nat) : w.frozen? ⟨g, o, none⟩ = false := by
  obtain ⟨_, _, _, _, rest, hb, _⟩ := h.blk E
  exact hb.frozen o
theorem OwnE.len {w : World} {base g n cap : Nat} {zs : List α} (h : OwnE enc k e w base (.slice (some ⟨g, 0, none⟩) n cap) zs) : zs.length = n ∧ n ≤ cap := by
  rcases h.2 with ⟨h', _⟩ | ⟨g', cap', cur, h1, h2, h3, h4, h5, h6, h7⟩
  · cases h'
  · simp only [Value.slice.injEq, Option.some.injEq, Addr.mk.injEq, and_true] at h1
    obtain ⟨rfl, rfl, rfl⟩ := h1
    exact ⟨rfl, h4⟩

/-- A store of a whole element, in a plain region. -/
theorem run_putE (E : IsEnc enc k) {W : World} {base g n cap : Nat} {zs : List α} (h : OwnE enc k e W base (.slice (some ⟨g, 0, none⟩) n cap) zs) {i : Nat} (hi : i < zs.length) (x : α) :
    (storeCells ⟨g, i * k, none⟩ (enc x) 0).run Try.prog W = .ok () (W.setCells g (i * k) (enc x)) := by
  have hr := run_storeCells_cells (P := Try.prog) g (i * k) (enc x) 0 W ?_ ?_ (E.one x)
  · exact hr
  · intro j hj
    rw [E.len] at hj
    have hv : (enc zs[i])[j]? = some ((enc zs[i])[j]'(by rw [E.len]; exact hj)) := List.getElem?_eq_getElem _
    rw [Nat.add_zero, h.cells E hi hv]
    rfl
  · intro j _
    exact h.frozen E _
theorem wp_putE (E : IsEnc enc k) (S : IsStr t e z k bytes) {ops : Array Oper} {rest : List Oper} {o : Oper} {a : Act} {Q : Exit → Act → World → Prop} {W : World} (hgd : o.guard = none) (p x : Operand) (ho : o.op = .store e p x)
    {base g n cap : Nat} {zs : List α} {i : Nat} (y : α) (hp : a.eval p = .pointer (some ⟨g, i * k, none⟩)) (hx : a.eval x = .agg (enc y).toArray) (h : OwnE enc k e W base (.slice (some ⟨g, 0, none⟩) n cap) zs) (hi : i < zs.length)
    (hn : wpList Try.prog ops Q rest (a.put o.dst undef) (W.setCells g (i * k) (enc y))) : wpList Try.prog ops Q (o :: rest) a W := by
  refine wpList_plain hgd fun K hK => ?_
  obtain ⟨i0, hi0, hz0, hz1, hz2⟩ := info_parts S.info
  have hr := run_putE (e := e) E h hi y
  have hs : (Instr.storeAt e (.pointer (some ⟨g, i * k, none⟩)) (.agg (enc y).toArray)).run Try.prog W = .ok () (W.setCells g (i * k) (enc y)) := by
    have h1 : (Go.sizeOf e).run Try.prog W = .ok k W := by simp [Go.sizeOf, typeInfo, hi0, hz1]
    simp [Instr.storeAt, storeVar, h1, Value.cells, E.len, hr, Instr.sureAddr]
  unfold Oper.wp execOp
  simp only [ho, hp, hx, hs, Sem.run_bind, Sem.run_pure, Result.andThen_ok]
  exact hK _ _ hn

/-- Cells that lie one behind the other. -/
theorem at_add {w : World} {g : Nat} {vs : List Value} (h : At w g vs) : ∀ j u, vs[j]? = some u → w.cell? ((⟨g, 0, none⟩ : Addr).add j) = some u := by
  intro j u hj
  have := h.2 j u hj
  unfold Addr.add
  split
  · simp_all
  · simpa using this
theorem wp_pushE (E : IsEnc enc k) (S : IsStr t e z k bytes) {ops : Array Oper} {rest : List Oper} {o : Oper} {a : Act} {Q : Exit → Act → World → Prop} {W : World} (hgd : o.guard = none) (s x : Operand)
    (ho : o.op = .call { callee := .builtin .append, args := #[s, x], argTypes := #[t, t] })
    (base : Nat) (v : Value) (zs : List α) (y : α) (nb cb : Nat) (hs : a.eval s = v) (hx : a.eval x = .slice (some ⟨nb, 0, none⟩) 1 cb) (hz : At W nb (enc y)) (hown : OwnE enc k e W base v zs) (n1 : Nat) (hn1 : zs.length + 1 = n1) (hlen : n1 ≤ 1000000000) (hbase : base ≤ W.heap.size) (H : Nat) (hH : W.heap.size = H)
    (h : ∀ g cap w', OwnE enc k e w' base (.slice (some ⟨g, 0, none⟩) n1 cap) (zs ++ [y]) → W.grownBy w' v.ownBlock → (v.ownBlock = some g ∨ g = H) → g < w'.heap.size → wpList Try.prog ops Q rest (a.put o.dst (.slice (some ⟨g, 0, none⟩) n1 cap)) w') :
    wpList Try.prog ops Q (o :: rest) a W := by
  obtain ⟨i0, hi, hz0, hz1, hz2⟩ := info_parts S.info
  refine wpList_append_lies _ hgd s x t ho base e i0 z k bytes S.und hi hz0 hz1 hz2 S.cells E.pos v zs.length (flat enc zs) hs hown ⟨nb, 0, none⟩ 1 cb (enc y) hx (by rw [E.len, Nat.one_mul]) (at_add hz) (E.one y) (by decide) ?_ ?_ hbase H hH ?_
  · unfold maxLen; omega
  · have := Nat.mul_le_mul (show zs.length + 1 ≤ 1000000000 by omega) S.le; omega
  · intro g cap w' h1 h2 h3 h4
    rw [hn1] at h1 ⊢
    refine h g cap w' ?_ h2 h3 h4
    unfold OwnE
    rw [flat_append, List.length_append, show zs.length + [y].length = n1 from hn1, show flat enc [y] = enc y by simp [flat]]
    exact h1
/-- The same as a step of a region that draws its order. -/
theorem step_pushE (E : IsEnc enc k) (S : IsStr t e z k bytes) {ops : Array Oper} {o : Oper} {a : Act} {K : Act → World → Prop} {Q : Exit → Act → World → Prop} {X : Prop} {W : World} (hgd : o.guard = none) (s x : Operand)
    (ho : o.op = .call { callee := .builtin .append, args := #[s, x], argTypes := #[t, t] })
    (base : Nat) (v : Value) (zs : List α) (y : α) (nb cb : Nat) (hs : a.eval s = v) (hx : a.eval x = .slice (some ⟨nb, 0, none⟩) 1 cb) (hz : At W nb (enc y)) (hown : OwnE enc k e W base v zs) (n1 : Nat) (hn1 : zs.length + 1 = n1) (hlen : n1 ≤ 1000000000) (hbase : base ≤ W.heap.size) (H : Nat) (hH : W.heap.size = H)
    (h : ∀ g cap w', OwnE enc k e w' base (.slice (some ⟨g, 0, none⟩) n1 cap) (zs ++ [y]) → W.grownBy w' v.ownBlock → (v.ownBlock = some g ∨ g = H) → g < w'.heap.size → K (a.put o.dst (.slice (some ⟨g, 0, none⟩) n1 cap)) w') :
    if Region.wanted o (yielded ops a.tmps) = true then Oper.wp Try.prog o a W K Q else X := by
  obtain ⟨i0, hi, hz0, hz1, hz2⟩ := info_parts S.info
  refine step_append_lies _ hgd s x t ho base e i0 z k bytes S.und hi hz0 hz1 hz2 S.cells E.pos v zs.length (flat enc zs) hs hown ⟨nb, 0, none⟩ 1 cb (enc y) hx (by rw [E.len, Nat.one_mul]) (at_add hz) (E.one y) (by decide) ?_ ?_ hbase H hH ?_
  · unfold maxLen; omega
  · have := Nat.mul_le_mul (show zs.length + 1 ≤ 1000000000 by omega) S.le; omega
  · intro g cap w' h1 h2 h3 h4
    rw [hn1] at h1 ⊢
    refine h g cap w' ?_ h2 h3 h4
    unfold OwnE
    rw [flat_append, List.length_append, show zs.length + [y].length = n1 from hn1, show flat enc [y] = enc y by simp [flat]]
    exact h1
/-- Elements that are read: none, or they lie from an address on. -/
def SrcE (enc : α → List Value) (w : World) (A : Option Addr) (m c : Nat) (ys : List α) : Prop :=
  m = ys.length ∧ ((A = none ∧ m = 0 ∧ c = 0) ∨ ∃ a, A = some a ∧ ∀ j u, (flat enc ys)[j]? = some u → w.cell? (a.add j) = some u)
theorem SrcE.kept {w w' : World} {A : Option Addr} {m c : Nat} {ys : List α} (h : SrcE enc w A m c ys) (o : Below w.heap.size w w') : SrcE enc w' A m c ys := by
  obtain ⟨rfl, h⟩ := h
  refine ⟨rfl, ?_⟩
  rcases h with h | ⟨a, rfl, h⟩
  · exact .inl h
  · exact .inr ⟨a, rfl, fun j u hj => cell_kept o (h j u hj)⟩
theorem run_catE (E : IsEnc enc k) (S : IsStr t e z k bytes) (ty : TypeId) (W : World) (base : Nat) (v : Value) (zs : List α) (A : Option Addr) (m c : Nat) (ys : List α) (hown : OwnE enc k e W base v zs) (hs : SrcE enc W A m c ys) (hlen : zs.length + ys.length ≤ 1000000000) (hbase : base ≤ W.heap.size) :
    ∃ v' w', (Builtin.append_ #[t, t] ty #[v, .slice A m c]).run Try.prog W = .ok v' w' ∧ OwnE enc k e w' base v' (zs ++ ys) ∧ W.grownBy w' v.ownBlock ∧ (v'.ownBlock = v.ownBlock ∨ v'.ownBlock = some W.heap.size) := by
  obtain ⟨i0, hi, hz0, hz1, hz2⟩ := info_parts S.info
  obtain ⟨rfl, hs⟩ := hs
  rcases hs with ⟨rfl, h0, rfl⟩ | ⟨a, rfl, hc⟩
  · obtain rfl : ys = [] := List.eq_nil_of_length_eq_zero h0
    exact ⟨v, W, run_append_owned_none (P := Try.prog) (w := W) base t ty e i0 k S.und hi v _ _ hown, by simpa using hown, ⟨rfl, rfl, rfl, Nat.le_refl _, fun _ _ _ => rfl⟩, .inl rfl⟩
  · obtain ⟨v', w', h1, h2, h3, _, h5⟩ := run_append_own_at (P := Try.prog) W base t ty e i0 z k bytes S.und hi hz0 hz1 hz2 S.cells E.pos v zs.length (flat enc zs) hown a ys.length c (flat enc ys) (flat_len E ys)
      hc (flat_one E ys) (by unfold maxLen; omega) (by have := Nat.mul_le_mul hlen S.le; omega) hbase
    refine ⟨v', w', h1, ?_, h3, h5⟩
    unfold OwnE
    rw [List.length_append, flat_append]
    exact h2
/-- 'append(out, more...)' as a step of a region that draws its order. -/
theorem step_catE (E : IsEnc enc k) (S : IsStr t e z k bytes) {ops : Array Oper} {o : Oper} {a : Act} {K : Act → World → Prop} {Q : Exit → Act → World → Prop} {X : Prop} {W : World} (hgd : o.guard = none) (s x : Operand)
    (ho : o.op = .call { callee := .builtin .append, args := #[s, x], argTypes := #[t, t] })
    (base : Nat) (v : Value) (zs : List α) (A : Option Addr) (m c : Nat) (ys : List α) (hs : a.eval s = v) (hx : a.eval x = .slice A m c) (hsrc : SrcE enc W A m c ys) (hown : OwnE enc k e W base v zs) (hlen : zs.length + ys.length ≤ 1000000000) (hbase : base ≤ W.heap.size) (H : Nat) (hH : W.heap.size = H)
    (h : ∀ v' w', OwnE enc k e w' base v' (zs ++ ys) → W.grownBy w' v.ownBlock → (v'.ownBlock = v.ownBlock ∨ v'.ownBlock = some H) → K (a.put o.dst v') w') :
    if Region.wanted o (yielded ops a.tmps) = true then Oper.wp Try.prog o a W K Q else X := by
  have hw : Region.wanted o (yielded ops a.tmps) = true := by simp [Region.wanted, hgd]
  rw [if_pos hw]
  obtain ⟨v', w', hr, h2, h3, h4⟩ := run_catE E S o.type W base v zs A m c ys hown hsrc hlen hbase
  unfold Oper.wp execOp
  simp only [ho, resolve, invoke, builtin, Sem.run_bind, Sem.run_pure, Result.andThen_ok, List.map_toArray, List.map_cons, List.map_nil, hs, hx, hr]
  exact h v' w' h2 h3 (by rw [← hH]; exact h4)
/-- Behind an append: nothing below 'base' has turned. -/
theorem below_pushE {W w' : World} {base : Nat} {v : Value} {zs : List α} (hown : OwnE enc k e W base v zs) (hg : W.grownBy w' v.ownBlock) (hbase : base ≤ W.heap.size) : Below base W w' :=
  (Below.refl _ _).grown hg hbase (fun j hj => (World.ownsRow.lt hown j hj).1)
/-- .. and but for the row's own block nothing has. -/
theorem out_pushE {W w' : World} {v : Value} (hg : W.grownBy w' v.ownBlock) : Out (fun k => v.ownBlock = some k) W w' :=
  ⟨hg.os, hg.tape, hg.output, hg.size, fun k hk hf => hg.block k hk (fun e => hf e.symm)⟩
end
end Go.Proofs.Ytphhcplellpikaa
