/- Numbers that are read and lists of bytes, where they lie: parts of them, behind an append, of what came in. -/
import Derived.Test.YtimipikabedjnaaBytM
import Derived.Test.YtimipikabedjnaaTextB
import Derived.Test.YtimipikabedjnaaRowL
import Derived.Test.YtimipikabedjnaaRowG
namespace Go.Proofs.Ytimipikabedjnaa
open Go.RowKit
set_option linter.unusedVariables false

theorem at_ls {k : IntKind} {w : World} {g : Nat} {xs : List Int} {vs : List Value} (hv : xs.map (Value.int k) = vs) (h : At w g vs) : LsK k w g (some ⟨g, 0, none⟩) xs :=
  .inr ⟨0, rfl, fun i hi => by rw [Nat.zero_add]; exact h.cell i (by rw [← hv, List.getElem?_map, List.getElem?_eq_getElem hi]; rfl)⟩
theorem own_ls {k : IntKind} {e : TypeId} {w : World} {base g n c : Nat} {zs : List Int} (h : OwnK k e w base (.slice (some ⟨g, 0, none⟩) n c) zs) : LsK k w g (some ⟨g, 0, none⟩) zs := at_ls rfl h.at_
theorem src_some {k : IntKind} {w : World} {A : Option Addr} {n c : Nat} {ys : List Int} (h : Src k w A n c ys) (hn : 0 < n) : ∃ a, A = some a := by
  rcases h.2 with ⟨_, h0, _⟩ | ⟨a, h1, _⟩
  · omega
  · exact ⟨a, h1⟩
theorem made0At (w : World) (o : Obj) (base : Nat) (hb : base ≤ w.heap.size) (e : TypeId) : OwnK .u8 e ((w.alloc o).alloc (.cells #[] e)) base (.slice (some ⟨w.heap.size + 1, 0, none⟩) 0 0) [] := by
  have h := OwnK.made0 (k := .u8) (e := e) (w := w.alloc o) (alloc_le hb o)
  rw [alloc_size] at h
  exact h
theorem zz_src {w : World} {g : Nat} (h : At w g [.int .u8 0, .int .u8 0]) : Src .u8 w (some ⟨g, 0, none⟩) 2 2 [0, 0] :=
  ⟨rfl, .inr ⟨_, rfl, fun j hj => by
    have : j < 2 := hj
    match j, this with
    | 0, _ => exact h.cell 0 rfl
    | 1, _ => exact h.cell 1 rfl⟩⟩
theorem grown_at {w w' : World} {g : Nat} {vs : List Value} {b : Option Nat} (h : At w g vs) (G : w.grownBy w' b) (hb : some g ≠ b) : At w' g vs :=
  ⟨Nat.lt_of_lt_of_le h.1 G.size, fun i v hv => G.cell (h.cell i hv) hb⟩
theorem far_nx {n m : Nat} (h : m < n) : some n ≠ (Value.slice (some ⟨m, 0, none⟩) 0 0).ownBlock := by simp [Value.ownBlock]; omega
theorem far_pv {n m : Nat} (h : n < m) : some n ≠ (Value.slice (some ⟨m, 0, none⟩) 0 0).ownBlock := by simp [Value.ownBlock]; omega
theorem srcDrop {k : IntKind} {w : World} {a : Addr} {n c : Nat} {ys : List Int} (h : Src k w (some a) n c ys) (p : Nat) (hp : p ≤ n) (A : Option Addr) (hA : A = some (a.add p) ∨ p = n) (c' : Nat) (hc : A = none → c' = 0) : Src k w A (n - p) c' (ys.drop p) := by
  obtain ⟨hl, h⟩ := h
  refine ⟨by rw [List.length_drop]; omega, ?_⟩
  rcases h with ⟨h, _⟩ | ⟨b, h, hc0⟩
  · cases h
  · cases h
    rcases hA with rfl | rfl
    · refine .inr ⟨_, rfl, fun j hj => ?_⟩
      rw [List.length_drop] at hj
      rw [List.getElem?_drop, ← hc0 (p + j) (by omega)]
      congr 1
      unfold Addr.add
      by_cases h1 : p = 0
      · subst h1; simp
      · by_cases h2 : j = 0
        · subst h2; simp [h1]
        · simp [h1, h2, Nat.add_assoc]
    · cases A with
      | none => exact .inl ⟨rfl, by omega, hc rfl⟩
      | some b => exact .inr ⟨b, rfl, fun j hj => by rw [List.length_drop] at hj; omega⟩
theorem srcTake {k : IntKind} {w : World} {a : Addr} {n c : Nat} {ys : List Int} (h : Src k w (some a) n c ys) (p : Nat) (hp : p ≤ n) : Src k w (some a) p c (ys.take p) := by
  obtain ⟨hl, h⟩ := h
  refine ⟨by rw [List.length_take]; omega, ?_⟩
  rcases h with ⟨h, _⟩ | ⟨b, h, hc0⟩
  · cases h
  · cases h
    refine .inr ⟨_, rfl, fun j hj => ?_⟩
    rw [List.length_take] at hj
    rw [hc0 j (by omega), List.getElem?_take, if_pos (by omega)]
theorem byt_row {k : Nat} {w : World} {a : Option Addr} {len cap : Nat} {zs : List Int} (h : IsRow .u8 w a len cap zs) : bytS (zs.take k) := fun x hx => by have := bounds_u8 (row_wf h k x hx); omega
/-- The parts of a list that came in. -/
theorem ls_take {k : IntKind} {w : World} {g : Nat} {A : Option Addr} {zs : List Int} (h : LsK k w g A zs) (n : Nat) : LsK k w g A (zs.take n) := by
  rcases h with rfl | ⟨off, rfl, h⟩
  · exact .inl (by simp)
  · refine .inr ⟨off, rfl, fun i hi => ?_⟩
    rw [List.length_take] at hi
    rw [h i (by omega), List.getElem?_take, if_pos (by omega)]
theorem ls_drop {k : IntKind} {w : World} {g off : Nat} {zs : List Int} (h : LsK k w g (some ⟨g, off, none⟩) zs) (n : Nat) : LsK k w g (some ⟨g, off + n, none⟩) (zs.drop n) := by
  rcases h with rfl | ⟨off', e, h⟩
  · exact .inl (by simp)
  · cases e
    refine .inr ⟨off + n, rfl, fun i hi => ?_⟩
    rw [List.length_drop] at hi
    have := h (n + i) (by omega)
    rw [List.getElem?_drop, ← this, Nat.add_assoc]
/-- Where the rest of a list lies. -/
theorem ls_rest {w : World} {gl L cap k : Nat} {A : Option Addr} {ds : List Int} (h : LsK .u8 w gl A ds) (hl : ds.length = L) (hk : k ≤ L) (hc : L ≤ cap) {A1 : Option Addr} (hA : (if cap = k then A else Option.map (fun x => x.add k) A) = A1) : LsK .u8 w gl A1 (ds.drop k) := by
  by_cases h1 : cap = k
  · exact .inl (List.drop_eq_nil_of_le (by omega))
  · rw [if_neg h1] at hA
    subst hA
    rcases h with rfl | ⟨off, rfl, h⟩
    · exact .inl (by simp)
    · rw [Option.map_some, Go.WideShapes.add_plain]
      exact ls_drop (.inr ⟨off, rfl, h⟩) k
end Go.Proofs.Ytimipikabedjnaa
