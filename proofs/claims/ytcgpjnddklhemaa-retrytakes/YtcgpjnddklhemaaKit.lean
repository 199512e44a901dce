/- How arguments of a law come in: a slice of integers, an array of integers by value. -/
import Derived.Test.YtcgpjnddklhemaaBase
namespace Go.Proofs.Ytcgpjnddklhemaa
open Go.ChangeShapes Go.WideShapes Go.ChangeAt Go.RowKit

/-- A slice of integers that came in: nil, or it leads to a row of 'cap' numbers, of which the first 'len' are its elements. -/
def IsRow (k : IntKind) (w : World) (a : Option Addr) (len cap : Nat) (zs : List Int) : Prop :=
  (a = none ∧ len = 0 ∧ cap = 0 ∧ zs = []) ∨
  ∃ x, a = some x ∧ len ≤ cap ∧ cap ≤ maxLen ∧ zs.length = cap ∧ (∀ i, i < zs.length → w.cell? (x.add i) = some (.int k (zs.getD i 0))) ∧ ∀ n ∈ zs, (Lit.int k n).wf = true

theorem isRow_of {H : Type} {enc : TypeId × Value → H} {P : Program} {w : World} {t e : TypeId} {k : IntKind} {a : Option Addr} {len cap : Nat} {d : DataW H} {ps : List MemPlace}
    (ht : P.underlying t = some (.slice e)) (he : P.underlying e = some (.int k)) (hc : P.cellsOf e = 1) (h : DataW.Trod enc P w 0 (fun _ => true) true t (.slice a len cap) d ps) :
    ∃ zs, IsRow k w a len cap zs := by
  obtain ⟨fuel, hf⟩ := h
  rcases open_ints ht he hc hf with ⟨hcs, _⟩ | ⟨x, l, c, zs, hcs, _, hl, hm, hz, _, hcell, hwz⟩
  · simp [Value.cells] at hcs
    obtain ⟨rfl, rfl, rfl⟩ := hcs
    exact ⟨[], .inl ⟨rfl, rfl, rfl, rfl⟩⟩
  · simp [Value.cells] at hcs
    obtain ⟨rfl, rfl, rfl⟩ := hcs
    exact ⟨zs, .inr ⟨_, rfl, hl, hm, by simpa using hz, hcell, hwz⟩⟩

theorem row_at {k : IntKind} {w : World} {a : Option Addr} {len cap : Nat} {zs : List Int} (h : IsRow k w a len cap zs) {i : Nat} (hi : i < len) :
    ∃ b off, a = some ⟨b, off, none⟩ ∧ w.cell? ⟨b, off + i, none⟩ = some (.int k (zs[i]?.getD 0)) ∧ b < w.heap.size ∧ (Lit.int k (zs[i]?.getD 0)).wf = true := by
  rcases h with ⟨_, rfl, _⟩ | ⟨x, rfl, hl, hm, hz, hc, hw⟩
  · omega
  · obtain ⟨b, off, rfl, hc'⟩ := ints_at hc (by omega)
    have h1 := hc' i (by omega)
    rw [List.getD_eq_getElem?_getD] at h1
    refine ⟨b, off, rfl, h1, World.block_lt_of_cell? w _ h1, ?_⟩
    rw [List.getElem?_eq_getElem (by omega)]
    exact hw _ (List.getElem_mem _)
theorem row_len {k : IntKind} {w : World} {a : Option Addr} {len cap : Nat} {zs : List Int} (h : IsRow k w a len cap zs) : len ≤ cap ∧ zs.length = cap := by
  rcases h with ⟨_, rfl, rfl, rfl⟩ | ⟨x, rfl, hl, hm, hz, hc, hw⟩
  · exact ⟨Nat.le_refl _, rfl⟩
  · exact ⟨hl, hz⟩

/-- What a cell of an aggregate by value may hold: a number of a kind, a bool ('.inr false'), a string ('.inr true'). -/
def leafOk : IntKind ⊕ Bool → Value → Prop
  | .inl k, v => ∃ z : Int, v = .int k z ∧ (Lit.int k z).wf = true
  | .inr false, v => ∃ b : Bool, v = .bool b
  | .inr true, v => ∃ s : ByteArray, v = .string s ∧ s.size ≤ maxLen

/-- The cells of a type that are numbers, bools or strings, with their places, whatever structs and arrays lie between. -/
def leavesAt (P : Program) : Nat → Nat → TypeId → List (Nat × (IntKind ⊕ Bool))
  | 0, _, _ => []
  | f + 1, o, t => match P.underlying t with
    | some (.int k) => [(o, .inl k)]
    | some .bool => [(o, .inr false)]
    | some .string => [(o, .inr true)]
    | some (.array n e) => (List.range n).flatMap fun i => leavesAt P f (o + i * P.cellsOf e) e
    | some (.struct fs) => fs.toList.flatMap fun fl => leavesAt P f (o + fl.offset) fl.type
    | _ => []

theorem part_get {cs : List Value} {a n k : Nat} {v : Value} (h : ((cs.drop a).take n)[k]? = some v) : cs[a + k]? = some v := by
  rw [List.getElem?_take] at h
  split at h
  · rwa [List.getElem?_drop] at h
  · cases h

theorem leaves_ok {H : Type} {enc : TypeId × Value → H} {P : Program} {w : World} {base : Nat} {spare : Nat → Bool} {held : Bool} :
    ∀ (f o : Nat) (t : TypeId) (fuel : Nat) (cs : List Value) (x : DataW H × List MemPlace), DataW.trod enc P w base spare held fuel t cs = some x →
      ∀ q ∈ leavesAt P f o t, ∃ k v, q.1 = o + k ∧ cs[k]? = some v ∧ leafOk q.2 v
  | 0, _, _, _, _, _, _, _, hq => by simp [leavesAt] at hq
  | f + 1, o, t, fuel, cs, x, h, q, hq => by
    unfold leavesAt at hq
    split at hq
    · obtain ⟨n, rfl, _, hw⟩ := DataW.trod_int ‹_› h
      simp at hq; subst hq
      exact ⟨0, _, rfl, rfl, n, rfl, hw⟩
    · obtain ⟨b, rfl, _⟩ := DataW.trod_bool ‹_› h
      simp at hq; subst hq
      exact ⟨0, _, rfl, rfl, b, rfl⟩
    · obtain ⟨s, rfl, _, hs⟩ := DataW.trod_string ‹_› h
      simp at hq; subst hq
      exact ⟨0, _, rfl, rfl, s, rfl, hs⟩
    · obtain ⟨xs, m, _, _, _, hl, hel⟩ := DataW.trod_array ‹_› h
      simp only [List.mem_flatMap, List.mem_range] at hq
      obtain ⟨i, hi, hq⟩ := hq
      have h1 := hel i hi
      rw [List.getElem?_eq_getElem (by omega)] at h1
      obtain ⟨k, v, hk, hv, hok⟩ := leaves_ok f _ _ _ _ _ h1 q hq
      exact ⟨_, v, by rw [hk, Nat.add_assoc], part_get hv, hok⟩
    · obtain ⟨xs, m, _, _, _, hl, hel⟩ := DataW.trod_struct ‹_› h
      simp only [List.mem_flatMap] at hq
      obtain ⟨fl, hfl, hq⟩ := hq
      obtain ⟨i, hi, hfi⟩ := List.getElem_of_mem hfl
      have h1 := hel i fl (by simp at hi; simp [Array.getElem?_eq_getElem hi]; simpa using hfi)
      have hi' : i < xs.length := by rw [hl]; simpa using hi
      rw [List.getElem?_eq_getElem hi'] at h1
      obtain ⟨k, v, hk, hv, hok⟩ := leaves_ok f _ _ _ _ _ h1 q hq
      exact ⟨_, v, by rw [hk, Nat.add_assoc], part_get hv, hok⟩
    · cases hq

/-- An aggregate by value: its cells, each as its type says. -/
theorem flat_of {H : Type} {enc : TypeId × Value → H} {P : Program} {w : World} {t : TypeId} {n : Nat} {v : Value} {d : DataW H} {ps : List MemPlace} {ls : List (Nat × (IntKind ⊕ Bool))}
    (hn : P.cellsOf t = n) (hL : leavesAt P 8 0 t = ls) (ha : ∃ cs : Array Value, v = .agg cs ∧ cs.size = P.cellsOf t) (h : DataW.Trod enc P w 0 (fun _ => true) true t v d ps) :
    ∃ cs : List Value, v = .agg cs.toArray ∧ cs.length = n ∧ ∀ q ∈ ls, ∃ u, cs[q.1]? = some u ∧ leafOk q.2 u := by
  obtain ⟨cs, rfl, hsz⟩ := ha
  obtain ⟨fuel, hf⟩ := h
  refine ⟨cs.toList, by simp, by simp; omega, fun q hq => ?_⟩
  obtain ⟨k, u, hk, hu, hok⟩ := leaves_ok 8 0 t _ _ _ hf q (by rw [hL]; exact hq)
  refine ⟨u, ?_, hok⟩
  rw [hk, Nat.zero_add]
  exact hu
theorem agg_of_struct {P : Program} {w : World} {t : TypeId} {r : Reach} {b0 : Nat} {v : Value} {fs : Array Field} (ht : P.underlying t = some (.struct fs)) (hv : Value.okWide P w r b0 t v) : ∃ cs : Array Value, v = .agg cs ∧ cs.size = P.cellsOf t := by
  obtain ⟨cs, h, hs, _⟩ : ∃ cs, v = .agg cs ∧ cs.size = P.cellsOf t ∧ Row.okWide P w r b0 t cs := by simpa [Value.okWide, ht] using hv
  exact ⟨cs, h, hs⟩
theorem agg_of_array {P : Program} {w : World} {t e : TypeId} {n : Nat} {r : Reach} {b0 : Nat} {v : Value} (ht : P.underlying t = some (.array n e)) (hv : Value.okWide P w r b0 t v) : ∃ cs : Array Value, v = .agg cs ∧ cs.size = P.cellsOf t := by
  obtain ⟨cs, h, hs, _⟩ : ∃ cs, v = .agg cs ∧ cs.size = P.cellsOf t ∧ Row.okWide P w r b0 t cs := by simpa [Value.okWide, ht] using hv
  exact ⟨cs, h, hs⟩

theorem add_twice (a : Addr) (i j : Nat) : (a.add i).add j = a.add (i + j) := by
  unfold Addr.add
  by_cases hi : i = 0 <;> by_cases hj : j = 0 <;> simp [hi, hj, Nat.add_assoc]
/-- A slice of anything flat that came in: nil, or its elements lie one behind the other, n cells each, each cell as its type says. -/
def IsRows (w : World) (a : Option Addr) (len cap n : Nat) (ls : List (Nat × (IntKind ⊕ Bool))) : Prop :=
  (a = none ∧ len = 0 ∧ cap = 0) ∨ ∃ x, a = some x ∧ len ≤ cap ∧ cap ≤ maxLen ∧ ∀ i, i < len → ∀ q ∈ ls, ∃ u, w.cell? (x.add (i * n + q.1)) = some u ∧ leafOk q.2 u
theorem isRows_of {H : Type} {enc : TypeId × Value → H} {P : Program} {w : World} {t e : TypeId} {n : Nat} {ls : List (Nat × (IntKind ⊕ Bool))} {a : Option Addr} {len cap : Nat} {d : DataW H} {ps : List MemPlace}
    (ht : P.underlying t = some (.slice e)) (hn : P.cellsOf e = n) (hL : leavesAt P 8 0 e = ls) (hlt : ∀ q ∈ ls, q.1 < n) (h : DataW.Trod enc P w 0 (fun _ => true) true t (.slice a len cap) d ps) : IsRows w a len cap n ls := by
  obtain ⟨fuel, hf⟩ := h
  rcases DataW.trod_slice ht hf with ⟨hcs, _⟩ | ⟨x, l, c, elems, rest, m, _, hcs, _, _, hl, hm, hlen, hel, _⟩
  · simp [Value.cells] at hcs
    exact .inl hcs
  · simp [Value.cells] at hcs
    obtain ⟨rfl, rfl, rfl⟩ := hcs
    refine .inr ⟨x, rfl, hl, hm, fun i hi q hq => ?_⟩
    have h1 := hel i hi
    rw [List.getElem?_eq_getElem (by omega)] at h1
    obtain ⟨cs, hc, ht'⟩ := Option.bind_eq_some_iff.1 h1
    obtain ⟨_, hcl, hat⟩ := World.cells?_some hc
    obtain ⟨k, u, hk, hu, hok⟩ := leaves_ok 8 0 e _ _ _ ht' q (by rw [hL]; exact hq)
    rw [Nat.zero_add] at hk
    refine ⟨u, ?_, hok⟩
    have hkn := hlt q hq
    have h2 := hat q.1 (by rw [hn]; exact hkn)
    rw [add_twice, hn] at h2
    rw [h2, hk, hu]

theorem rows_at {w : World} {a : Option Addr} {len cap n : Nat} {k0 : IntKind ⊕ Bool} {ls : List (Nat × (IntKind ⊕ Bool))} (h : IsRows w a len cap n ((0, k0) :: ls)) (hp : 0 < len) :
    ∃ b off, a = some ⟨b, off, none⟩ ∧ len ≤ cap ∧ cap ≤ maxLen ∧ ∀ i, i < len → ∀ q ∈ (0, k0) :: ls, ∃ u, w.cell? ⟨b, off + (i * n + q.1), none⟩ = some u ∧ leafOk q.2 u := by
  rcases h with ⟨_, rfl, _⟩ | ⟨⟨b, off, spot⟩, rfl, hl, hm, h⟩
  · omega
  · obtain ⟨u, hu, _⟩ := h 0 hp (0, k0) (by simp)
    have hspot : spot = none := by simpa [Addr.add] using World.cell?_spot hu
    subst hspot
    refine ⟨b, off, rfl, hl, hm, fun i hi q hq => ?_⟩
    rw [← Go.WideShapes.add_plain]
    exact h i hi q hq

theorem leaf_int {cs : List Value} {o : Nat} {k : IntKind} (h : ∃ u, cs[o]? = some u ∧ leafOk (.inl k) u) : ∃ z : Int, cs[o]? = some (.int k z) ∧ (Lit.int k z).wf = true := by
  obtain ⟨_, h, z, rfl, hw⟩ := h; exact ⟨z, h, hw⟩
theorem leaf_bool {cs : List Value} {o : Nat} (h : ∃ u, cs[o]? = some u ∧ leafOk (.inr false) u) : ∃ z : Bool, cs[o]? = some (.bool z) := by
  obtain ⟨_, h, z, rfl⟩ := h; exact ⟨z, h⟩
theorem leaf_str {cs : List Value} {o : Nat} (h : ∃ u, cs[o]? = some u ∧ leafOk (.inr true) u) : ∃ z : ByteArray, cs[o]? = some (.string z) ∧ z.size ≤ maxLen := by
  obtain ⟨_, h, z, rfl, hw⟩ := h; exact ⟨z, h, hw⟩
/-- A list of so many cells, each of which is known. -/
theorem list_is {cs vs : List Value} {n : Nat} (hl : cs.length = n) (hv : vs.length = n) (h : ∀ i, i < n → cs[i]? = vs[i]?) : cs = vs := by
  apply List.ext_getElem?
  intro i
  by_cases hi : i < n
  · exact h i hi
  · rw [List.getElem?_eq_none (by omega), List.getElem?_eq_none (by omega)]
end Go.Proofs.Ytcgpjnddklhemaa
