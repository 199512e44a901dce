/- How arguments of a law come in: a slice of integers, an array of integers by value. -/
import Derived.Test.YtnkcnfkonifmhaaZLow
namespace Go.Proofs.Ytnkcnfkonifmhaa
open Go.ChangeShapes Go.WideShapes Go.ChangeAt Go.RowKit

/-- A slice of integers that came in: nil, or it leads to a row of 'cap' numbers, of which the first 'len' are its elements. -/
def IsRow (k : IntKind) (w : World) (a : Option Addr) (len cap : Nat) (zs : List Int) : Prop :=
  (a = none ∧ len = 0 ∧ cap = 0 ∧ zs = []) ∨
  ∃ x, a = some x ∧ len ≤ cap ∧ cap ≤ maxLen ∧ zs.length = cap ∧ (∀ i, i < zs.length → w.cell? (x.add i) = some (.int k (zs.getD i 0))) ∧ ∀ n ∈ zs, (Lit.int k n).wf = true

theorem isRow_of {H : Type} {enc : TypeId × Value → H} {P : Program} {w : World} {t e : TypeId} {k : IntKind} {a : Option Addr} {len cap : Nat} {d : DataW H} {ps : List MemPlace}
    (ht : P.underlying t = some (.slice e)) (he : P.underlying e = some (.int k)) (hc : P.cellsOf e = 1) (h : DataW.Trod enc P w 0 (fun _ => true) true t (.slice a len cap) d ps) :
    ∃ zs, IsRow k w a len cap zs := by
  obtain ⟨fuel, hf⟩ := h
  rcases open_ints ht he hc hf with ⟨hcs, _⟩ | ⟨x, l, c, zs, hcs, _, hl, hm, hz, _, hcell, hwz⟩
  · simp [Value.cells] at hcs
    obtain ⟨rfl, rfl, rfl⟩ := hcs
    exact ⟨[], .inl ⟨rfl, rfl, rfl, rfl⟩⟩
  · simp [Value.cells] at hcs
    obtain ⟨rfl, rfl, rfl⟩ := hcs
    exact ⟨zs, .inr ⟨_, rfl, hl, hm, by simpa using hz, hcell, hwz⟩⟩

theorem row_at {k : IntKind} {w : World} {a : Option Addr} {len cap : Nat} {zs : List Int} (h : IsRow k w a len cap zs) {i : Nat} (hi : i < len) :
    ∃ b off, a = some ⟨b, off, none⟩ ∧ w.cell? ⟨b, off + i, none⟩ = some (.int k (zs[i]?.getD 0)) ∧ b < w.heap.size ∧ (Lit.int k (zs[i]?.getD 0)).wf = true := by
  rcases h with ⟨_, rfl, _⟩ | ⟨x, rfl, hl, hm, hz, hc, hw⟩
  · omega
  · obtain ⟨b, off, rfl, hc'⟩ := ints_at hc (by omega)
    have h1 := hc' i (by omega)
    rw [List.getD_eq_getElem?_getD] at h1
    refine ⟨b, off, rfl, h1, World.block_lt_of_cell? w _ h1, ?_⟩
    rw [List.getElem?_eq_getElem (by omega)]
    exact hw _ (List.getElem_mem _)
theorem row_len {k : IntKind} {w : World} {a : Option Addr} {len cap : Nat} {zs : List Int} (h : IsRow k w a len cap zs) : len ≤ cap ∧ zs.length = cap := by
  rcases h with ⟨_, rfl, rfl, rfl⟩ | ⟨x, rfl, hl, hm, hz, hc, hw⟩
  · exact ⟨Nat.le_refl _, rfl⟩
  · exact ⟨hl, hz⟩

/-- What a cell of an aggregate by value may hold: a number of a kind, a bool ('.inr false'), a string ('.inr true'). -/
def leafOk : IntKind ⊕ Bool → Value → Prop
  | .inl k, v => ∃ z : Int, v = .int k z ∧ (Lit.int k z).wf = true
  | .inr false, v => ∃ b : Bool, v = .bool b
  | .inr true, v => ∃ s : ByteArray, v = .string s ∧ s.size ≤ maxLen

/-- The cells of a type that are numbers, bools or strings, with their places, whatever structs and arrays lie between. -/
def leavesAt (P : Program) : Nat → Nat → TypeId → List (Nat × (IntKind ⊕ Bool))
  | 0, _, _ => []
  | f + 1, o, t => match P.underlying t with
    | some (.int k) => [(o, .inl k)]
    | some .bool => [(o, .inr false)]
    | some .string => [(o, .inr true)]
    | some (.array n e) => (List.range n).flatMap fun i => leavesAt P f (o + i * P.cellsOf e) e
    | some (.struct fs) => fs.toList.flatMap fun fl => leavesAt P f (o + fl.offset) fl.type
    | _ => []

theorem part_get {cs : List Value} {a n k : Nat} {v : Value} (h : ((cs.drop a).take n)[k]? = some v) : cs[a + k]? = some v := by
  rw [List.getElem?_take] at h
  split at h
  · rwa [List.getElem?_drop] at h
  · cases h

theorem leaves_ok {H : Type} {enc : TypeId × Value → H} {P : Program} {w : World} {base : Nat} {spare : Nat → Bool} {held : Bool} :
    ∀ (f o : Nat) (t : TypeId) (fuel : Nat) (cs : List Value) (x : DataW H × List MemPlace), DataW.trod enc P w base spare held fuel t cs = some x →
      ∀ q ∈ leavesAt P f o t, ∃ k v, q.1 = o + k ∧ cs[k]? = some v ∧ leafOk q.2 v
  | 0, _, _, _, _, _, _, _, hq => by simp [leavesAt] at hq
  | f + 1, o, t, fuel, cs, x, h, q, hq => by
    unfold leavesAt at hq
    split at hq
    · obtain ⟨n, rfl, _, hw⟩ := DataW.trod_int ‹_› h
      simp at hq; subst hq
      exact ⟨0, _, rfl, rfl, n, rfl, hw⟩
    · obtain ⟨b, rfl, _⟩ := DataW.trod_bool ‹_› h
      simp at hq; subst hq
      exact ⟨0, _, rfl, rfl, b, rfl⟩
    · obtain ⟨s, rfl, _, hs⟩ := DataW.trod_string ‹_› h
      simp at hq; subst hq
      exact ⟨0, _, rfl, rfl, s, rfl, hs⟩
    · obtain ⟨xs, m, _, _, _, hl, hel⟩ := DataW.trod_array ‹_› h
      simp only [List.mem_flatMap, List.mem_range] at hq
      obtain ⟨i, hi, hq⟩ := hq
      have h1 := hel i hi
      rw [List.getElem?_eq_getElem (by omega)] at h1
      obtain ⟨k, v, hk, hv, hok⟩ := leaves_ok f _ _ _ _ _ h1 q hq
      exact ⟨_, v, by rw [hk, Nat.add_assoc], part_get hv, hok⟩
    · obtain ⟨xs, m, _, _, _, hl, hel⟩ := DataW.trod_struct ‹_› h
      simp only [List.mem_flatMap] at hq
      obtain ⟨fl, hfl, hq⟩ := hq
      obtain ⟨i, hi, hfi⟩ := List.getElem_of_mem hfl
      have h1 := hel i fl (by simp at hi; simp [Array.getElem?_eq_getElem hi]; simpa using hfi)
      have hi' : i < xs.length := by rw [hl]; simpa using hi
      rw [List.getElem?_eq_getElem hi'] at h1
      obtain ⟨k, v, hk, hv, hok⟩ := leaves_ok f _ _ _ _ _ h1 q hq
      exact ⟨_, v, by rw [hk, Nat.add_assoc], part_get hv, hok⟩
    · cases hq

/-- An aggregate by value: its cells, each as its type says. -/
theorem flat_of {H : Type} {enc : TypeId × Value → H} {P : Program} {w : World} {t : TypeId} {n : Nat} {v : Value} {d : DataW H} {ps : List MemPlace} {ls : List (Nat × (IntKind ⊕ Bool))}
    (hn : P.cellsOf t = n) (hL : leavesAt P 8 0 t = ls) (ha : ∃ cs : Array Value, v = .agg cs ∧ cs.size = P.cellsOf t) (h : DataW.Trod enc P w 0 (fun _ => true) true t v d ps) :
    ∃ cs : List Value, v = .agg cs.toArray ∧ cs.length = n ∧ ∀ q ∈ ls, ∃ u, cs[q.1]? = some u ∧ leafOk q.2 u := by
  obtain ⟨cs, rfl, hsz⟩ := ha
  obtain ⟨fuel, hf⟩ := h
  refine ⟨cs.toList, by simp, by simp; omega, fun q hq => ?_⟩
  obtain ⟨k, u, hk, hu, hok⟩ := leaves_ok 8 0 t _ _ _ hf q (by rw [hL]; exact hq)
  refine ⟨u, ?_, hok⟩
  rw [hk, Nat.zero_add]
  exact hu
theorem agg_of_struct {P : Program} {w : World} {t : TypeId} {r : Reach} {b0 : Nat} {v : Value} {fs : Array Field} (ht : P.underlying t = some (.struct fs)) (hv : Value.okWide P w r b0 t v) : ∃ cs : Array Value, v = .agg cs ∧ cs.size = P.cellsOf t := by
  obtain ⟨cs, h, hs, _⟩ : ∃ cs, v = .agg cs ∧ cs.size = P.cellsOf t ∧ Row.okWide P w r b0 t cs := by simpa [Value.okWide, ht] using hv
  exact ⟨cs, h, hs⟩
theorem agg_of_array {P : Program} {w : World} {t e : TypeId} {n : Nat} {r : Reach} {b0 : Nat} {v : Value} (ht : P.underlying t = some (.array n e)) (hv : Value.okWide P w r b0 t v) : ∃ cs : Array Value, v = .agg cs ∧ cs.size = P.cellsOf t := by
  obtain ⟨cs, h, hs, _⟩ : ∃ cs, v = .agg cs ∧ cs.size = P.cellsOf t ∧ Row.okWide P w r b0 t cs := by simpa [Value.okWide, ht] using hv
  exact ⟨cs, h, hs⟩

theorem add_twice (a : Addr) (i j : Nat) : (a.add i).add j = a.add (i + j) := by
  unfold Addr.add
  by_cases hi : i = 0 <;> by_cases hj : j = 0 <;> simp [hi, hj, Nat.add_assoc]
/-- A slice of anything flat that came in: nil, or its elements lie one behind the other, n cells each, each cell as its type says. -/
def IsRows (w : World) (a : Option Addr) (len cap n : Nat) (ls : List (Nat × (IntKind ⊕ Bool))) : Prop :=
  (a = none ∧ len = 0 ∧ cap = 0) ∨ ∃ x, a = some x ∧ len ≤ cap ∧ cap ≤ maxLen ∧ ∀ i, i < len → ∀ q ∈ ls, ∃ u, w.cell? (x.add (i * n + q.1)) = some u ∧ leafOk q.2 u
theorem isRows_of {H : Type} {enc : TypeId × Value → H} {P : Program} {w : World} {t e : TypeId} {n : Nat} {ls : List (Nat × (IntKind ⊕ Bool))} {a : Option Addr} {len cap : Nat} {d : DataW H} {ps : List MemPlace}
    (ht : P.underlying t = some (.slice e)) (hn : P.cellsOf e = n) (hL : leavesAt P 8 0 e = ls) (hlt : ∀ q ∈ ls, q.1 < n) (h : DataW.Trod enc P w 0 (fun _ => true) true t (.slice a len cap) d ps) : IsRows w a len cap n ls := by
  obtain ⟨fuel, hf⟩ := h
  rcases DataW.trod_slice ht hf with ⟨hcs, _⟩ | ⟨x, l, c, elems, rest, m, _, hcs, _, _, hl, hm, hlen, hel, _⟩
  · simp [Value.cells] at hcs
    exact .inl hcs
  · simp [Value.cells] at hcs
    obtain ⟨rfl, rfl, rfl⟩ := hcs
    refine .inr ⟨x, rfl, hl, hm, fun i hi q hq => ?_⟩
    have h1 := hel i hi
    rw [List.getElem?_eq_getElem (by omega)] at h1
    obtain ⟨cs, hc, ht'⟩ := Option.bind_eq_some_iff.1 h1
    obtain ⟨_, hcl, hat⟩ := World.cells?_some hc
    obtain ⟨k, u, hk, hu, hok⟩ := leaves_ok 8 0 e _ _ _ ht' q (by rw [hL]; exact hq)
    rw [Nat.zero_add] at hk
    refine ⟨u, ?_, hok⟩
    have hkn := hlt q hq
    have h2 := hat q.1 (by rw [hn]; exact hkn)
    rw [add_twice, hn] at h2
    rw [h2, hk, hu]

theorem rows_at {w : World} {a : Option Addr} {len cap n : Nat} {k0 : IntKind ⊕ Bool} {ls : List (Nat × (IntKind ⊕ Bool))} (h : IsRows w a len cap n ((0, k0) :: ls)) (hp : 0 < len) :
    ∃ b off, a = some ⟨b, off, none⟩ ∧ len ≤ cap ∧ cap ≤ maxLen ∧ ∀ i, i < len → ∀ q ∈ (0, k0) :: ls, ∃ u, w.cell? ⟨b, off + (i * n + q.1), none⟩ = some u ∧ leafOk q.2 u := by
  rcases h with ⟨_, rfl, _⟩ | ⟨⟨b, off, spot⟩, rfl, hl, hm, h⟩
  · omega
  · obtain ⟨u, hu, _⟩ := h 0 hp (0, k0) (by simp)
    have hspot : spot = none := by simpa [Addr.add] using World.cell?_spot hu
    subst hspot
    refine ⟨b, off, rfl, hl, hm, fun i hi q hq => ?_⟩
    rw [← Go.WideShapes.add_plain]
    exact h i hi q hq

theorem leaf_int {cs : List Value} {o : Nat} {k : IntKind} (h : ∃ u, cs[o]? = some u ∧ leafOk (.inl k) u) : ∃ z : Int, cs[o]? = some (.int k z) ∧ (Lit.int k z).wf = true := by
  obtain ⟨_, h, z, rfl, hw⟩ := h; exact ⟨z, h, hw⟩
theorem leaf_bool {cs : List Value} {o : Nat} (h : ∃ u, cs[o]? = some u ∧ leafOk (.inr false) u) : ∃ z : Bool, cs[o]? = some (.bool z) := by
  obtain ⟨_, h, z, rfl⟩ := h; exact ⟨z, h⟩
theorem leaf_str {cs : List Value} {o : Nat} (h : ∃ u, cs[o]? = some u ∧ leafOk (.inr true) u) : ∃ z : ByteArray, cs[o]? = some (.string z) ∧ z.size ≤ maxLen := by
  obtain ⟨_, h, z, rfl, hw⟩ := h; exact ⟨z, h, hw⟩
/-- A list of so many cells, each of which is known. -/
theorem list_is {cs vs : List Value} {n : Nat} (hl : cs.length = n) (hv : vs.length = n) (h : ∀ i, i < n → cs[i]? = vs[i]?) : cs = vs := by
  apply List.ext_getElem?
  intro i
  by_cases hi : i < n
  · exact h i hi
  · rw [List.getElem?_eq_none (by omega), List.getElem?_eq_none (by omega)]
end Go.Proofs.Ytnkcnfkonifmhaa
namespace Go.Proofs.Ytnkcnfkonifmhaa
open Go.RowKit
set_option linter.unusedVariables false

theorem row_low {k : IntKind} {w : World} {a : Option Addr} {len cap : Nat} {zs : List Int} (h : IsRow k w a len cap zs) : len ≤ cap ∧ cap ≤ maxLen := by
  rcases h with ⟨_, rfl, rfl, rfl⟩ | ⟨x, rfl, hl, hm, hz, hc, hw⟩
  · exact ⟨Nat.le_refl _, Nat.zero_le _⟩
  · exact ⟨hl, hm⟩
theorem row_take {k : IntKind} {w : World} {a : Option Addr} {len cap : Nat} {zs : List Int} (h : IsRow k w a len cap zs) (n : Nat) (hn : n ≤ len) : (zs.take n).length = n := by
  have := row_len h
  rw [List.length_take]; omega
theorem row_src {k : IntKind} {w : World} {a : Option Addr} {len cap : Nat} {zs : List Int} (h : IsRow k w a len cap zs) (n : Nat) (hn : n ≤ len) : Src k w a n cap (zs.take n) := by
  refine ⟨(row_take h n hn).symm, ?_⟩
  rcases h with ⟨rfl, rfl, rfl, rfl⟩ | ⟨x, rfl, hl, hm, hz, hc, hw⟩
  · exact .inl ⟨rfl, by omega, rfl⟩
  · refine .inr ⟨x, rfl, fun j hj => ?_⟩
    rw [List.length_take] at hj
    rw [hc j (by omega), List.getElem?_take, if_pos (by omega), List.getD_eq_getElem?_getD]
theorem row_ls {k : IntKind} {w : World} {a : Option Addr} {len cap : Nat} {zs : List Int} (h : IsRow k w a len cap zs) (n : Nat) (hn : n ≤ len) : ∃ g, LsK k w g a (zs.take n) := by
  by_cases h0 : n = 0
  · subst h0; exact ⟨0, .inl (by simp)⟩
  · obtain ⟨b, off, rfl, _, _, _⟩ := row_at h (i := 0) (by omega)
    refine ⟨b, .inr ⟨off, rfl, fun i hi => ?_⟩⟩
    rw [row_take h n hn] at hi
    obtain ⟨b', off', e, h1, _, _⟩ := row_at h (i := i) (by omega)
    cases e
    rw [h1, List.getElem?_take, if_pos hi]
theorem row_wf {k : IntKind} {w : World} {a : Option Addr} {len cap : Nat} {zs : List Int} (h : IsRow k w a len cap zs) (n : Nat) : ∀ x ∈ zs.take n, (Lit.int k x).wf = true := by
  intro x hx
  rcases h with ⟨rfl, rfl, rfl, rfl⟩ | ⟨y, rfl, hl, hm, hz, hc, hw⟩
  · simp at hx
  · exact hw x (List.mem_of_mem_take hx)
end Go.Proofs.Ytnkcnfkonifmhaa
namespace Go.Proofs.Ytnkcnfkonifmhaa
open Go.RowKit
set_option linter.unusedVariables false

section
variable {k : IntKind} {t e : TypeId} {bytes : Nat}
theorem ownMade {w : World} (n : Nat) (h : n ≤ 1000000) : OwnK k e (w.alloc (.cells (madeCells #[.int k 0] n) e)) w.heap.size (.slice (some ⟨w.heap.size, 0, none⟩) n n) (List.replicate n 0) := by
  have h1 := World.ownsRow_lit (base := w.heap.size) (size := 1) (e := e) w (madeCells #[.int k 0] n) n (Nat.le_refl _) (by unfold maxLen; omega) (by rw [size_madeCells]; omega)
  rw [toList_madeCells_one] at h1
  unfold OwnK
  rw [List.length_replicate, List.map_replicate]
  exact h1
theorem ownOne (w : World) (z : Int) : OwnK k e (w.alloc (.cells #[.int k z] e)) w.heap.size (.slice (some ⟨w.heap.size, 0, none⟩) 1 1) [z] :=
  World.ownsRow_lit (base := w.heap.size) (size := 1) (e := e) w #[.int k z] 1 (Nat.le_refl _) (by unfold maxLen; omega) rfl
theorem ownSet {w : World} {base g n c : Nat} {zs : List Int} (h : OwnK k e w base (.slice (some ⟨g, 0, none⟩) n c) zs) (j : Nat) (z : Int) :
    OwnK k e (w.setCell ⟨g, j, none⟩ (.int k z)) base (.slice (some ⟨g, 0, none⟩) n c) (zs.set j z) := by
  have e1 := h.blk.1
  have h' : w.ownsRow base e 1 (.slice (some ⟨g, 0, none⟩) n c) n (zs.map (Value.int k)) := by rw [e1]; unfold OwnK at h; rw [e1] at h; exact h
  have := (World.ownsRow.stored h' j (.int k z)).1
  unfold OwnK
  rw [List.length_set, List.map_set, ← e1]
  exact this
theorem ownFroz {w : World} {base g n c : Nat} {zs : List Int} (h : OwnK k e w base (.slice (some ⟨g, 0, none⟩) n c) zs) (j : Nat) : w.frozen? ⟨g, j, none⟩ = false := by
  obtain ⟨_, _, _, _, cur, _, hB, _⟩ := h.blk
  exact hB.frozen j
theorem ownLow {w : World} {base g n c : Nat} {zs : List Int} (h : OwnK k e w base (.slice (some ⟨g, 0, none⟩) n c) zs) : base ≤ g ∧ g < w.heap.size := by
  obtain ⟨_, _, _, hb, cur, _, hB, _⟩ := h.blk
  exact ⟨hb, hB.lt⟩
end

theorem elI8 : IsElem .i64 111 3 8 := ⟨by kernel_rfl, by kernel_rfl, by decide⟩
end Go.Proofs.Ytnkcnfkonifmhaa
namespace Go.Proofs.Ytnkcnfkonifmhaa
open Go.RowKit
set_option linter.unusedVariables false

theorem at_ls {k : IntKind} {w : World} {g : Nat} {xs : List Int} {vs : List Value} (hv : xs.map (Value.int k) = vs) (h : At w g vs) : LsK k w g (some ⟨g, 0, none⟩) xs :=
  .inr ⟨0, rfl, fun i hi => by rw [Nat.zero_add]; exact h.cell i (by rw [← hv, List.getElem?_map, List.getElem?_eq_getElem hi]; rfl)⟩
theorem own_ls {k : IntKind} {e : TypeId} {w : World} {base g n c : Nat} {zs : List Int} (h : OwnK k e w base (.slice (some ⟨g, 0, none⟩) n c) zs) : LsK k w g (some ⟨g, 0, none⟩) zs := at_ls rfl h.at_
theorem src_some {k : IntKind} {w : World} {A : Option Addr} {n c : Nat} {ys : List Int} (h : Src k w A n c ys) (hn : 0 < n) : ∃ a, A = some a := by
  rcases h.2 with ⟨_, h0, _⟩ | ⟨a, h1, _⟩
  · omega
  · exact ⟨a, h1⟩
theorem made0At (w : World) (o : Obj) (base : Nat) (hb : base ≤ w.heap.size) (e : TypeId) : OwnK .u8 e ((w.alloc o).alloc (.cells #[] e)) base (.slice (some ⟨w.heap.size + 1, 0, none⟩) 0 0) [] := by
  have h := OwnK.made0 (k := .u8) (e := e) (w := w.alloc o) (alloc_le hb o)
  rw [alloc_size] at h
  exact h
theorem zz_src {w : World} {g : Nat} (h : At w g [.int .u8 0, .int .u8 0]) : Src .u8 w (some ⟨g, 0, none⟩) 2 2 [0, 0] :=
  ⟨rfl, .inr ⟨_, rfl, fun j hj => by
    have : j < 2 := hj
    match j, this with
    | 0, _ => exact h.cell 0 rfl
    | 1, _ => exact h.cell 1 rfl⟩⟩
theorem grown_at {w w' : World} {g : Nat} {vs : List Value} {b : Option Nat} (h : At w g vs) (G : w.grownBy w' b) (hb : some g ≠ b) : At w' g vs :=
  ⟨Nat.lt_of_lt_of_le h.1 G.size, fun i v hv => G.cell (h.cell i hv) hb⟩
theorem far_nx {n m : Nat} (h : m < n) : some n ≠ (Value.slice (some ⟨m, 0, none⟩) 0 0).ownBlock := by simp [Value.ownBlock]; omega
theorem far_pv {n m : Nat} (h : n < m) : some n ≠ (Value.slice (some ⟨m, 0, none⟩) 0 0).ownBlock := by simp [Value.ownBlock]; omega
theorem srcDrop {k : IntKind} {w : World} {a : Addr} {n c : Nat} {ys : List Int} (h : Src k w (some a) n c ys) (p : Nat) (hp : p ≤ n) (A : Option Addr) (hA : A = some (a.add p) ∨ p = n) (c' : Nat) (hc : A = none → c' = 0) : Src k w A (n - p) c' (ys.drop p) := by
  obtain ⟨hl, h⟩ := h
  refine ⟨by rw [List.length_drop]; omega, ?_⟩
  rcases h with ⟨h, _⟩ | ⟨b, h, hc0⟩
  · cases h
  · cases h
    rcases hA with rfl | rfl
    · refine .inr ⟨_, rfl, fun j hj => ?_⟩
      rw [List.length_drop] at hj
      rw [List.getElem?_drop, ← hc0 (p + j) (by omega)]
      congr 1
      unfold Addr.add
      by_cases h1 : p = 0
      · subst h1; simp
      · by_cases h2 : j = 0
        · subst h2; simp [h1]
        · simp [h1, h2, Nat.add_assoc]
    · cases A with
      | none => exact .inl ⟨rfl, by omega, hc rfl⟩
      | some b => exact .inr ⟨b, rfl, fun j hj => by rw [List.length_drop] at hj; omega⟩
theorem srcTake {k : IntKind} {w : World} {a : Addr} {n c : Nat} {ys : List Int} (h : Src k w (some a) n c ys) (p : Nat) (hp : p ≤ n) : Src k w (some a) p c (ys.take p) := by
  obtain ⟨hl, h⟩ := h
  refine ⟨by rw [List.length_take]; omega, ?_⟩
  rcases h with ⟨h, _⟩ | ⟨b, h, hc0⟩
  · cases h
  · cases h
    refine .inr ⟨_, rfl, fun j hj => ?_⟩
    rw [List.length_take] at hj
    rw [hc0 j (by omega), List.getElem?_take, if_pos (by omega)]
theorem byt_row {k : Nat} {w : World} {a : Option Addr} {len cap : Nat} {zs : List Int} (h : IsRow .u8 w a len cap zs) : bytS (zs.take k) := fun x hx => by have := bounds_u8 (row_wf h k x hx); omega
theorem textNil (w : World) : (convert 32 9 (.slice none 0 0)).run Try.prog w = .ok (.string ByteArray.empty) w := run_convert_bytes_nil w _ _ elB.und (by kernel_rfl) 0 0 _ (by kernel_rfl)
/-- The parts of a list that came in. -/
theorem ls_take {k : IntKind} {w : World} {g : Nat} {A : Option Addr} {zs : List Int} (h : LsK k w g A zs) (n : Nat) : LsK k w g A (zs.take n) := by
  rcases h with rfl | ⟨off, rfl, h⟩
  · exact .inl (by simp)
  · refine .inr ⟨off, rfl, fun i hi => ?_⟩
    rw [List.length_take] at hi
    rw [h i (by omega), List.getElem?_take, if_pos (by omega)]
theorem ls_drop {k : IntKind} {w : World} {g off : Nat} {zs : List Int} (h : LsK k w g (some ⟨g, off, none⟩) zs) (n : Nat) : LsK k w g (some ⟨g, off + n, none⟩) (zs.drop n) := by
  rcases h with rfl | ⟨off', e, h⟩
  · exact .inl (by simp)
  · cases e
    refine .inr ⟨off + n, rfl, fun i hi => ?_⟩
    rw [List.length_drop] at hi
    have := h (n + i) (by omega)
    rw [List.getElem?_drop, ← this, Nat.add_assoc]
/-- Where the rest of a list lies. -/
theorem ls_rest {w : World} {gl L cap k : Nat} {A : Option Addr} {ds : List Int} (h : LsK .u8 w gl A ds) (hl : ds.length = L) (hk : k ≤ L) (hc : L ≤ cap) {A1 : Option Addr} (hA : (if cap = k then A else Option.map (fun x => x.add k) A) = A1) : LsK .u8 w gl A1 (ds.drop k) := by
  by_cases h1 : cap = k
  · exact .inl (List.drop_eq_nil_of_le (by omega))
  · rw [if_neg h1] at hA
    subst hA
    rcases h with rfl | ⟨off, rfl, h⟩
    · exact .inl (by simp)
    · rw [Option.map_some, Go.WideShapes.add_plain]
      exact ls_drop (.inr ⟨off, rfl, h⟩) k
end Go.Proofs.Ytnkcnfkonifmhaa
