/- The document's own Fill of layer 10. -/
import Derived.Test.YtdmdmekplfaflaaSumC
import Derived.Deep.DeepCutAuto
namespace Go.Proofs.Ytdmdmekplfaflaa
open Go.RowKit
set_option linter.unusedVariables false

theorem refFill10_no (A : Option Addr) (n c : Nat) (a : Int) (w : World) (hn : n ≤ 100000) (ha : -9223372036854775808 ≤ a ∧ a ≤ 9223372036854775807) (h : ¬ mayS n a) :
    Calls Try.prog 11 #[.slice A n c, .int .i64 a] w fun e w' => e = .returned (.tuple #[.slice none 0 0, .bool false]) ∧ w = w' := by
  obtain ⟨a0, a1⟩ := ha
  have h' : a < 0 ∨ (0 ≤ a ∧ a % 2 = 1) ∨ (0 ≤ a ∧ a % 2 = 0 ∧ (n : Int) - 2 < a) := by unfold mayS at h; omega
  clear h
  rcases h' with h | ⟨h0, h1⟩ | ⟨h0, h1, h2⟩
  all_goals
    go_enter Try.func11, Try.ntmps11
    go_wp2_with fail
    go_ret2
    exact ⟨rfl, rfl⟩
theorem made0At (w : World) (o : Obj) (base : Nat) (hb : base ≤ w.heap.size) (e : TypeId) : OwnK .u8 e ((w.alloc o).alloc (.cells #[] e)) base (.slice (some ⟨w.heap.size + 1, 0, none⟩) 0 0) [] := by
  have h := OwnK.made0 (k := .u8) (e := e) (w := w.alloc o) (alloc_le hb o)
  rw [alloc_size] at h
  exact h
theorem zz_src {w : World} {g : Nat} (h : At w g [.int .u8 0, .int .u8 0]) : Src .u8 w (some ⟨g, 0, none⟩) 2 2 [0, 0] :=
  ⟨rfl, .inr ⟨_, rfl, fun j hj => by
    have : j < 2 := hj
    match j, this with
    | 0, _ => exact h.cell 0 rfl
    | 1, _ => exact h.cell 1 rfl⟩⟩
theorem grown_at {w w' : World} {g : Nat} {vs : List Value} {b : Option Nat} (h : At w g vs) (G : w.grownBy w' b) (hb : some g ≠ b) : At w' g vs :=
  ⟨Nat.lt_of_lt_of_le h.1 G.size, fun i v hv => G.cell (h.cell i hv) hb⟩
theorem far_nx {n m : Nat} (h : m < n) : some n ≠ (Value.slice (some ⟨m, 0, none⟩) 0 0).ownBlock := by simp [Value.ownBlock]; omega
theorem far_pv {n m : Nat} (h : n < m) : some n ≠ (Value.slice (some ⟨m, 0, none⟩) 0 0).ownBlock := by simp [Value.ownBlock]; omega
theorem srcDrop {k : IntKind} {w : World} {a : Addr} {n c : Nat} {ys : List Int} (h : Src k w (some a) n c ys) (p : Nat) (hp : p ≤ n) (A : Option Addr) (hA : A = some (a.add p) ∨ p = n) (c' : Nat) (hc : A = none → c' = 0) : Src k w A (n - p) c' (ys.drop p) := by
  obtain ⟨hl, h⟩ := h
  refine ⟨by rw [List.length_drop]; omega, ?_⟩
  rcases h with ⟨h, _⟩ | ⟨b, h, hc0⟩
  · cases h
  · cases h
    rcases hA with rfl | rfl
    · refine .inr ⟨_, rfl, fun j hj => ?_⟩
      rw [List.length_drop] at hj
      rw [List.getElem?_drop, ← hc0 (p + j) (by omega)]
      congr 1
      unfold Addr.add
      by_cases h1 : p = 0
      · subst h1; simp
      · by_cases h2 : j = 0
        · subst h2; simp [h1]
        · simp [h1, h2, Nat.add_assoc]
    · cases A with
      | none => exact .inl ⟨rfl, by omega, hc rfl⟩
      | some b => exact .inr ⟨b, rfl, fun j hj => by rw [List.length_drop] at hj; omega⟩
theorem srcTake {k : IntKind} {w : World} {a : Addr} {n c : Nat} {ys : List Int} (h : Src k w (some a) n c ys) (p : Nat) (hp : p ≤ n) : Src k w (some a) p c (ys.take p) := by
  obtain ⟨hl, h⟩ := h
  refine ⟨by rw [List.length_take]; omega, ?_⟩
  rcases h with ⟨h, _⟩ | ⟨b, h, hc0⟩
  · cases h
  · cases h
    refine .inr ⟨_, rfl, fun j hj => ?_⟩
    rw [List.length_take] at hj
    rw [hc0 j (by omega), List.getElem?_take, if_pos (by omega)]
end Go.Proofs.Ytdmdmekplfaflaa
