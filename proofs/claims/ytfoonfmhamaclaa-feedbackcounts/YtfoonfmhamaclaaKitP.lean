/- How arguments of a law come in: structs by value in which slices of structs stand beside all that KitN serves. -/
import Derived.Test.YtfoonfmhamaclaaKitN
namespace Go.Proofs.Ytfoonfmhamaclaa
open Go.ChangeShapes Go.WideShapes Go.ChangeAt Go.RowKit

/-- What a cell may be: as KitN, or a slice of elements of so many cells with such leaves. -/
abbrev Lg : Type := Lf ⊕ (Nat × List (Nat × Lf))
def lgOk (w : World) : Lg → Value → Prop
  | .inl l, v => lfOk w l v
  | .inr (n, ls), v => ∃ (a : Option Addr) (len cap : Nat), v = .slice a len cap ∧ IsRowsN w a len cap n ls
def rowOf (P : Program) (e : TypeId) : Bool := match P.underlying e with
  | some (.struct _) => (lfsAt P 8 0 e).all (fun q => decide (q.1 < P.cellsOf e))
  | some .bool => (lfsAt P 8 0 e).all (fun q => decide (q.1 < P.cellsOf e))
  | _ => false
/-- The cells of a type, with their places. -/
def lgsAt (P : Program) : Nat → Nat → TypeId → List (Nat × Lg)
  | 0, _, _ => []
  | f + 1, o, t => match P.underlying t with
    | some (.array n e) => (List.range n).flatMap fun i => lgsAt P f (o + i * P.cellsOf e) e
    | some (.struct fs) => fs.toList.flatMap fun fl => lgsAt P f (o + fl.offset) fl.type
    | some (.slice e) => if rowOf P e then [(o, .inr (P.cellsOf e, lfsAt P 8 0 e))] else (lfsAt P 8 o t).map fun q => (q.1, .inl q.2)
    | _ => (lfsAt P 8 o t).map fun q => (q.1, .inl q.2)
theorem rowsN_trod {H : Type} {enc : TypeId × Value → H} {P : Program} {w : World} {t e : TypeId} {n : Nat} {ls : List (Nat × Lf)} {fuel : Nat} {cs : List Value} {y : DataW H × List MemPlace}
    (ht : P.underlying t = some (.slice e)) (hn : P.cellsOf e = n) (hL : lfsAt P 8 0 e = ls) (hlt : ∀ q ∈ ls, q.1 < n) (hf : DataW.trod enc P w 0 (fun _ => true) true fuel t cs = some y) : ∃ (a : Option Addr) (len cap : Nat), cs = [.slice a len cap] ∧ IsRowsN w a len cap n ls := by
  rcases DataW.trod_slice ht hf with ⟨hcs, _⟩ | ⟨x, l, c, elems, rest, m, _, hcs, _, _, hl, hm, hlen, hel, _⟩
  · exact ⟨none, 0, 0, hcs, .inl ⟨rfl, rfl, rfl⟩⟩
  · refine ⟨some x, l, c, hcs, .inr ⟨x, rfl, hl, hm, fun i hi q hq => ?_⟩⟩
    have h1 := hel i hi
    rw [List.getElem?_eq_getElem (by omega)] at h1
    obtain ⟨cs, hc, ht'⟩ := Option.bind_eq_some_iff.1 h1
    obtain ⟨_, hcl, hat⟩ := World.cells?_some hc
    obtain ⟨k, u, hk, hu, hok⟩ := lfs_ok 8 0 e _ _ _ ht' q (by rw [hL]; exact hq)
    rw [Nat.zero_add] at hk
    refine ⟨u, ?_, hok⟩
    have hkn := hlt q hq
    have h2 := hat q.1 (by rw [hn]; exact hkn)
    rw [add_twice, hn] at h2
    rw [h2, hk, hu]
theorem lgs_ok {H : Type} {enc : TypeId × Value → H} {P : Program} {w : World} :
    ∀ (f o : Nat) (t : TypeId) (fuel : Nat) (cs : List Value) (x : DataW H × List MemPlace), DataW.trod enc P w 0 (fun _ => true) true fuel t cs = some x →
      ∀ q ∈ lgsAt P f o t, ∃ k v, q.1 = o + k ∧ cs[k]? = some v ∧ lgOk w q.2 v
  | 0, _, _, _, _, _, _, _, hq => by simp [lgsAt] at hq
  | f + 1, o, t, fuel, cs, x, h, q, hq => by
    unfold lgsAt at hq
    split at hq
    · obtain ⟨xs, m, _, _, _, hl, hel⟩ := DataW.trod_array ‹_› h
      simp only [List.mem_flatMap, List.mem_range] at hq
      obtain ⟨i, hi, hq⟩ := hq
      have h1 := hel i hi
      rw [List.getElem?_eq_getElem (by omega)] at h1
      obtain ⟨k, v, hk, hv, hok⟩ := lgs_ok f _ _ _ _ _ h1 q hq
      exact ⟨_, v, by rw [hk, Nat.add_assoc], part_get hv, hok⟩
    · obtain ⟨xs, m, _, _, _, hl, hel⟩ := DataW.trod_struct ‹_› h
      simp only [List.mem_flatMap] at hq
      obtain ⟨fl, hfl, hq⟩ := hq
      obtain ⟨i, hi, hfi⟩ := List.getElem_of_mem hfl
      have h1 := hel i fl (by simp at hi; simp [Array.getElem?_eq_getElem hi]; simpa using hfi)
      have hi' : i < xs.length := by rw [hl]; simpa using hi
      rw [List.getElem?_eq_getElem hi'] at h1
      obtain ⟨k, v, hk, hv, hok⟩ := lgs_ok f _ _ _ _ _ h1 q hq
      exact ⟨_, v, by rw [hk, Nat.add_assoc], part_get hv, hok⟩
    · split at hq
      · rename_i e he hr
        simp at hq; subst hq
        unfold rowOf at hr
        split at hr
        · obtain ⟨a, len, cap, rfl, hrow⟩ := rowsN_trod he rfl rfl (fun q hq => by simpa using List.all_eq_true.1 hr q hq) h
          exact ⟨0, _, rfl, rfl, a, len, cap, rfl, hrow⟩
        · obtain ⟨a, len, cap, rfl, hrow⟩ := rowsN_trod he rfl rfl (fun q hq => by simpa using List.all_eq_true.1 hr q hq) h
          exact ⟨0, _, rfl, rfl, a, len, cap, rfl, hrow⟩
        · cases hr
      · obtain ⟨r, hr, rfl⟩ := List.mem_map.1 hq
        obtain ⟨k, v, hk, hv, hok⟩ := lfs_ok 8 o t _ _ _ h r hr
        exact ⟨k, v, hk, hv, hok⟩
    · obtain ⟨r, hr, rfl⟩ := List.mem_map.1 hq
      obtain ⟨k, v, hk, hv, hok⟩ := lfs_ok 8 o t _ _ _ h r hr
      exact ⟨k, v, hk, hv, hok⟩
/-- An aggregate by value: its cells, each as its type says. -/
theorem flatP_of {H : Type} {enc : TypeId × Value → H} {P : Program} {w : World} {t : TypeId} {n : Nat} {v : Value} {d : DataW H} {ps : List MemPlace} {ls : List (Nat × Lg)}
    (hn : P.cellsOf t = n) (hL : lgsAt P 8 0 t = ls) (ha : ∃ cs : Array Value, v = .agg cs ∧ cs.size = P.cellsOf t) (h : DataW.Trod enc P w 0 (fun _ => true) true t v d ps) :
    ∃ cs : List Value, v = .agg cs.toArray ∧ cs.length = n ∧ ∀ q ∈ ls, ∃ u, cs[q.1]? = some u ∧ lgOk w q.2 u := by
  obtain ⟨cs, rfl, hsz⟩ := ha
  obtain ⟨fuel, hf⟩ := h
  refine ⟨cs.toList, by simp, by simp; omega, fun q hq => ?_⟩
  obtain ⟨k, u, hk, hu, hok⟩ := lgs_ok 8 0 t _ _ _ hf q (by rw [hL]; exact hq)
  refine ⟨u, ?_, hok⟩
  rw [hk, Nat.zero_add]
  exact hu
theorem lg_int {w : World} {cs : List Value} {o : Nat} {k : IntKind} (h : ∃ u, cs[o]? = some u ∧ lgOk w (.inl (.inl k)) u) : ∃ z : Int, cs[o]? = some (.int k z) ∧ (Lit.int k z).wf = true := lf_int (w := w) h
theorem lg_bool {w : World} {cs : List Value} {o : Nat} (h : ∃ u, cs[o]? = some u ∧ lgOk w (.inl (.inr (.inl false))) u) : ∃ z : Bool, cs[o]? = some (.bool z) := lf_bool (w := w) h
theorem lg_str {w : World} {cs : List Value} {o : Nat} (h : ∃ u, cs[o]? = some u ∧ lgOk w (.inl (.inr (.inl true))) u) : ∃ z : ByteArray, cs[o]? = some (.string z) ∧ z.size ≤ maxLen := lf_str (w := w) h
theorem lg_ints {w : World} {cs : List Value} {o : Nat} {k : IntKind} (h : ∃ u, cs[o]? = some u ∧ lgOk w (.inl (.inr (.inr k))) u) : ∃ (a : Option Addr) (len cap : Nat) (zs : List Int), cs[o]? = some (.slice a len cap) ∧ IsRow k w a len cap zs := lf_ints (w := w) h
theorem lg_rows {w : World} {cs : List Value} {o n : Nat} {ls : List (Nat × Lf)} (h : ∃ u, cs[o]? = some u ∧ lgOk w (.inr (n, ls)) u) : ∃ (a : Option Addr) (len cap : Nat), cs[o]? = some (.slice a len cap) ∧ IsRowsN w a len cap n ls := by
  obtain ⟨_, h, a, len, cap, rfl, hw⟩ := h; exact ⟨a, len, cap, h, hw⟩
end Go.Proofs.Ytfoonfmhamaclaa
