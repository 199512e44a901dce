/- How arguments of a law come in: structs and arrays by value, and slices of them, in which slices of integers stand beside integers, bools and strings. -/
import Derived.Test.YtfoonfmhamaclaaKit
namespace Go.Proofs.Ytfoonfmhamaclaa
open Go.ChangeShapes Go.WideShapes Go.ChangeAt Go.RowKit

/-- What a cell may be: a number of a kind ('.inl k'), a bool ('.inr (.inl false)'), a string ('.inr (.inl true)'), a slice of numbers of a kind ('.inr (.inr k)'). -/
abbrev Lf : Type := IntKind ⊕ Bool ⊕ IntKind
/-- What a cell may hold. -/
def lfOk (w : World) : Lf → Value → Prop
  | .inl k, v => ∃ z : Int, v = .int k z ∧ (Lit.int k z).wf = true
  | .inr (.inl false), v => ∃ b : Bool, v = .bool b
  | .inr (.inl true), v => ∃ s : ByteArray, v = .string s ∧ s.size ≤ maxLen
  | .inr (.inr k), v => ∃ (a : Option Addr) (len cap : Nat) (zs : List Int), v = .slice a len cap ∧ IsRow k w a len cap zs
/-- The cells of a type, with their places. -/
def lfsAt (P : Program) : Nat → Nat → TypeId → List (Nat × Lf)
  | 0, _, _ => []
  | f + 1, o, t => match P.underlying t with
    | some (.int k) => [(o, .inl k)]
    | some .bool => [(o, .inr (.inl false))]
    | some .string => [(o, .inr (.inl true))]
    | some (.array n e) => (List.range n).flatMap fun i => lfsAt P f (o + i * P.cellsOf e) e
    | some (.struct fs) => fs.toList.flatMap fun fl => lfsAt P f (o + fl.offset) fl.type
    | some (.slice e) => match P.underlying e with
      | some (.int k) => if P.cellsOf e = 1 then [(o, .inr (.inr k))] else []
      | _ => []
    | _ => []

theorem lfs_ok {H : Type} {enc : TypeId × Value → H} {P : Program} {w : World} :
    ∀ (f o : Nat) (t : TypeId) (fuel : Nat) (cs : List Value) (x : DataW H × List MemPlace), DataW.trod enc P w 0 (fun _ => true) true fuel t cs = some x →
      ∀ q ∈ lfsAt P f o t, ∃ k v, q.1 = o + k ∧ cs[k]? = some v ∧ lfOk w q.2 v
  | 0, _, _, _, _, _, _, _, hq => by simp [lfsAt] at hq
  | f + 1, o, t, fuel, cs, x, h, q, hq => by
    unfold lfsAt at hq
    split at hq
    · obtain ⟨n, rfl, _, hw⟩ := DataW.trod_int ‹_› h
      simp at hq; subst hq
      exact ⟨0, _, rfl, rfl, n, rfl, hw⟩
    · obtain ⟨b, rfl, _⟩ := DataW.trod_bool ‹_› h
      simp at hq; subst hq
      exact ⟨0, _, rfl, rfl, b, rfl⟩
    · obtain ⟨s, rfl, _, hs⟩ := DataW.trod_string ‹_› h
      simp at hq; subst hq
      exact ⟨0, _, rfl, rfl, s, rfl, hs⟩
    · obtain ⟨xs, m, _, _, _, hl, hel⟩ := DataW.trod_array ‹_› h
      simp only [List.mem_flatMap, List.mem_range] at hq
      obtain ⟨i, hi, hq⟩ := hq
      have h1 := hel i hi
      rw [List.getElem?_eq_getElem (by omega)] at h1
      obtain ⟨k, v, hk, hv, hok⟩ := lfs_ok f _ _ _ _ _ h1 q hq
      exact ⟨_, v, by rw [hk, Nat.add_assoc], part_get hv, hok⟩
    · obtain ⟨xs, m, _, _, _, hl, hel⟩ := DataW.trod_struct ‹_› h
      simp only [List.mem_flatMap] at hq
      obtain ⟨fl, hfl, hq⟩ := hq
      obtain ⟨i, hi, hfi⟩ := List.getElem_of_mem hfl
      have h1 := hel i fl (by simp at hi; simp [Array.getElem?_eq_getElem hi]; simpa using hfi)
      have hi' : i < xs.length := by rw [hl]; simpa using hi
      rw [List.getElem?_eq_getElem hi'] at h1
      obtain ⟨k, v, hk, hv, hok⟩ := lfs_ok f _ _ _ _ _ h1 q hq
      exact ⟨_, v, by rw [hk, Nat.add_assoc], part_get hv, hok⟩
    · split at hq
      · split at hq
        · simp at hq; subst hq
          rcases open_ints ‹_› ‹_› ‹_› h with ⟨rfl, _⟩ | ⟨x, l, c, zs, rfl, _, hl, hm, hz, _, hcell, hwz⟩
          · exact ⟨0, _, rfl, rfl, none, 0, 0, [], rfl, .inl ⟨rfl, rfl, rfl, rfl⟩⟩
          · exact ⟨0, _, rfl, rfl, some x, l, c, zs, rfl, .inr ⟨x, rfl, hl, hm, by simpa using hz, hcell, hwz⟩⟩
        · cases hq
      · cases hq
    · cases hq

/-- An aggregate by value: its cells, each as its type says. -/
theorem flatN_of {H : Type} {enc : TypeId × Value → H} {P : Program} {w : World} {t : TypeId} {n : Nat} {v : Value} {d : DataW H} {ps : List MemPlace} {ls : List (Nat × Lf)}
    (hn : P.cellsOf t = n) (hL : lfsAt P 8 0 t = ls) (ha : ∃ cs : Array Value, v = .agg cs ∧ cs.size = P.cellsOf t) (h : DataW.Trod enc P w 0 (fun _ => true) true t v d ps) :
    ∃ cs : List Value, v = .agg cs.toArray ∧ cs.length = n ∧ ∀ q ∈ ls, ∃ u, cs[q.1]? = some u ∧ lfOk w q.2 u := by
  obtain ⟨cs, rfl, hsz⟩ := ha
  obtain ⟨fuel, hf⟩ := h
  refine ⟨cs.toList, by simp, by simp; omega, fun q hq => ?_⟩
  obtain ⟨k, u, hk, hu, hok⟩ := lfs_ok 8 0 t _ _ _ hf q (by rw [hL]; exact hq)
  refine ⟨u, ?_, hok⟩
  rw [hk, Nat.zero_add]
  exact hu
/-- A slice of such elements that came in. -/
def IsRowsN (w : World) (a : Option Addr) (len cap n : Nat) (ls : List (Nat × Lf)) : Prop :=
  (a = none ∧ len = 0 ∧ cap = 0) ∨ ∃ x, a = some x ∧ len ≤ cap ∧ cap ≤ maxLen ∧ ∀ i, i < len → ∀ q ∈ ls, ∃ u, w.cell? (x.add (i * n + q.1)) = some u ∧ lfOk w q.2 u
theorem isRowsN_of {H : Type} {enc : TypeId × Value → H} {P : Program} {w : World} {t e : TypeId} {n : Nat} {ls : List (Nat × Lf)} {a : Option Addr} {len cap : Nat} {d : DataW H} {ps : List MemPlace}
    (ht : P.underlying t = some (.slice e)) (hn : P.cellsOf e = n) (hL : lfsAt P 8 0 e = ls) (hlt : ∀ q ∈ ls, q.1 < n) (h : DataW.Trod enc P w 0 (fun _ => true) true t (.slice a len cap) d ps) : IsRowsN w a len cap n ls := by
  obtain ⟨fuel, hf⟩ := h
  rcases DataW.trod_slice ht hf with ⟨hcs, _⟩ | ⟨x, l, c, elems, rest, m, _, hcs, _, _, hl, hm, hlen, hel, _⟩
  · simp [Value.cells] at hcs
    exact .inl hcs
  · simp [Value.cells] at hcs
    obtain ⟨rfl, rfl, rfl⟩ := hcs
    refine .inr ⟨x, rfl, hl, hm, fun i hi q hq => ?_⟩
    have h1 := hel i hi
    rw [List.getElem?_eq_getElem (by omega)] at h1
    obtain ⟨cs, hc, ht'⟩ := Option.bind_eq_some_iff.1 h1
    obtain ⟨_, hcl, hat⟩ := World.cells?_some hc
    obtain ⟨k, u, hk, hu, hok⟩ := lfs_ok 8 0 e _ _ _ ht' q (by rw [hL]; exact hq)
    rw [Nat.zero_add] at hk
    refine ⟨u, ?_, hok⟩
    have hkn := hlt q hq
    have h2 := hat q.1 (by rw [hn]; exact hkn)
    rw [add_twice, hn] at h2
    rw [h2, hk, hu]
theorem rowsN_at {w : World} {a : Option Addr} {len cap n : Nat} {k0 : Lf} {ls : List (Nat × Lf)} (h : IsRowsN w a len cap n ((0, k0) :: ls)) (hp : 0 < len) :
    ∃ b off, a = some ⟨b, off, none⟩ ∧ len ≤ cap ∧ cap ≤ maxLen ∧ ∀ i, i < len → ∀ q ∈ (0, k0) :: ls, ∃ u, w.cell? ⟨b, off + (i * n + q.1), none⟩ = some u ∧ lfOk w q.2 u := by
  rcases h with ⟨_, rfl, _⟩ | ⟨⟨b, off, spot⟩, rfl, hl, hm, h⟩
  · omega
  · obtain ⟨u, hu, _⟩ := h 0 hp (0, k0) (by simp)
    have hspot : spot = none := by simpa [Addr.add] using World.cell?_spot hu
    subst hspot
    refine ⟨b, off, rfl, hl, hm, fun i hi q hq => ?_⟩
    rw [← Go.WideShapes.add_plain]
    exact h i hi q hq
theorem lf_int {w : World} {cs : List Value} {o : Nat} {k : IntKind} (h : ∃ u, cs[o]? = some u ∧ lfOk w (.inl k) u) : ∃ z : Int, cs[o]? = some (.int k z) ∧ (Lit.int k z).wf = true := by
  obtain ⟨_, h, z, rfl, hw⟩ := h; exact ⟨z, h, hw⟩
theorem lf_bool {w : World} {cs : List Value} {o : Nat} (h : ∃ u, cs[o]? = some u ∧ lfOk w (.inr (.inl false)) u) : ∃ z : Bool, cs[o]? = some (.bool z) := by
  obtain ⟨_, h, z, rfl⟩ := h; exact ⟨z, h⟩
theorem lf_str {w : World} {cs : List Value} {o : Nat} (h : ∃ u, cs[o]? = some u ∧ lfOk w (.inr (.inl true)) u) : ∃ z : ByteArray, cs[o]? = some (.string z) ∧ z.size ≤ maxLen := by
  obtain ⟨_, h, z, rfl, hw⟩ := h; exact ⟨z, h, hw⟩
theorem lf_ints {w : World} {cs : List Value} {o : Nat} {k : IntKind} (h : ∃ u, cs[o]? = some u ∧ lfOk w (.inr (.inr k)) u) : ∃ (a : Option Addr) (len cap : Nat) (zs : List Int), cs[o]? = some (.slice a len cap) ∧ IsRow k w a len cap zs := by
  obtain ⟨_, h, a, len, cap, zs, rfl, hw⟩ := h; exact ⟨a, len, cap, zs, h, hw⟩
end Go.Proofs.Ytfoonfmhamaclaa
