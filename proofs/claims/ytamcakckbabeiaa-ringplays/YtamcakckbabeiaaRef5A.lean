/- The document's own answers of layer 5: lists. New, At, Pop. -/
import Derived.Test.YtamcakckbabeiaaRingE
namespace Go.Proofs.Ytamcakckbabeiaa
open Go.RowKit
set_option linter.unusedVariables false

/-- A list that is only read: nothing, or its numbers lie in block g from some place on. -/
def Lst (w : World) (g : Nat) (A : Option Addr) (zs : List Int) : Prop := zs = [] ∨ ∃ off, A = some ⟨g, off, none⟩ ∧ ∀ i, i < zs.length → w.cell? ⟨g, off + i, none⟩ = some (.int .i64 (zs[i]?.getD 0))
theorem Lst.nil (w : World) (g : Nat) (A : Option Addr) : Lst w g A [] := .inl rfl
theorem Lst.out {F : Nat → Prop} {w w' : World} {g : Nat} {A : Option Addr} {zs : List Int} (h : Lst w g A zs) (o : Out F w w') (hg : ¬ F g) : Lst w' g A zs := by
  rcases h with h | ⟨off, rfl, h⟩
  · exact .inl h
  · refine .inr ⟨off, rfl, fun i hi => ?_⟩
    have hlt : g < w.heap.size := World.block_lt_of_cell? w _ (h i hi)
    rw [World.cell?_of_block (a := ⟨g, off + i, none⟩) (o.block g hlt hg)]
    exact h i hi
theorem Lst.outs {F : Nat → Prop} {w w' : World} {g : Nat} {A : Option Addr} {zs : List Int} (h : Lst w g A zs) (o : Out F w w') (hg : zs ≠ [] → ¬ F g) : Lst w' g A zs := by
  by_cases e : zs = []
  · exact .inl e
  · exact h.out o (hg e)
theorem Lst.lt {w : World} {g : Nat} {A : Option Addr} {zs : List Int} (h : Lst w g A zs) (hz : 0 < zs.length) : g < w.heap.size := by
  rcases h with rfl | ⟨off, rfl, h⟩
  · simp at hz
  · exact World.block_lt_of_cell? w _ (h 0 hz)
theorem Lst.kept {w w' : World} {g : Nat} {A : Option Addr} {zs : List Int} (h : Lst w g A zs) (o : Below w.heap.size w w') : Lst w' g A zs := h.out (F := fun _ => False) (Out.of o _) (fun x => x)
theorem Lst.own {w : World} {base g n c : Nat} {zs : List Int} (h : R8.Own w base (.slice (some ⟨g, 0, none⟩) n c) zs) : Lst w g (some ⟨g, 0, none⟩) zs :=
  .inr ⟨0, rfl, fun i hi => by rw [Nat.zero_add]; exact h.cell hi⟩

theorem refNew5_any (most : Int) (w : World) :
    Calls Try.prog 7 #[.int .i64 most] w fun e w' => e = .returned (.agg #[.slice none 0 0, .int .i64 ((R8.mst most : Nat) : Int)]) ∧ Below w.heap.size w w' := by
  obtain ⟨m, e⟩ : ∃ m, R8.mst most = m := ⟨_, rfl⟩
  rw [e]
  by_cases h1 : most < 0
  · obtain rfl : m = 0 := by rw [← e]; unfold R8.mst; omega
    clear e
    go_enter Try.func7, Try.ntmps7
    go_wp2
    exact bodyPost_ret (v := .agg #[.slice none 0 0, .int .i64 0]) (by simp [results, Try.results7, go_sem]) rfl ⟨rfl, new_alloc (new_refl w) _⟩
  · by_cases h2 : most ≤ 65536
    · obtain rfl : most = (m : Int) := by rw [← e]; unfold R8.mst; omega
      clear e
      go_enter Try.func7, Try.ntmps7
      go_wp2
      exact bodyPost_ret (v := .agg #[.slice none 0 0, .int .i64 (m : Int)]) (by simp [results, Try.results7, go_sem]) rfl ⟨rfl, new_alloc (new_refl w) _⟩
    · obtain rfl : m = 65536 := by rw [← e]; unfold R8.mst; omega
      clear e
      go_enter Try.func7, Try.ntmps7
      go_wp2
      exact bodyPost_ret (v := .agg #[.slice none 0 0, .int .i64 65536]) (by simp [results, Try.results7, go_sem]) rfl ⟨rfl, new_alloc (new_refl w) _⟩

theorem refAt5_any (g c : Nat) (A : Option Addr) (zs : List Int) (m : Value) (i : Int) (w : World) (h : Lst w g A zs) (hl : zs.length ≤ 65536) :
    Calls Try.prog 24 #[.agg #[.slice A zs.length c, m], .int .i64 i] w fun e w' => e = .returned (R8.tell zs i) ∧ Below w.heap.size w w' := by
  obtain ⟨L, hL⟩ : ∃ L, zs.length = L := ⟨_, rfl⟩
  by_cases h1 : i < 0
  · rw [R8.tell_out (.inl h1)]
    rw [hL]
    clear hL h hl
    go_enter Try.func24, Try.ntmps24
    go_wp2
    go_ret2
    exact ⟨rfl, new_alloc (new_refl w) _⟩
  · by_cases h2 : (zs.length : Int) ≤ i
    · rw [R8.tell_out (.inr h2)]
      rw [hL] at h2 ⊢
      clear hL h hl
      go_enter Try.func24, Try.ntmps24
      go_wp2
      go_ret2
      exact ⟨rfl, new_alloc (new_refl w) _⟩
    · obtain ⟨k, rfl⟩ : ∃ k : Nat, i = (k : Int) := ⟨i.toNat, by omega⟩
      have hk : k < zs.length := by omega
      rcases h with h | ⟨off, rfl, h⟩
      · simp [h] at hk
      rw [R8.tell_in hk]
      have hx := cell_kept (new_alloc (new_refl w) (.cells #[.slice (some ⟨g, off, none⟩) zs.length c, m] 27)) (h k hk)
      obtain ⟨x, ex⟩ : ∃ x, zs[k]?.getD 0 = x := ⟨_, rfl⟩
      rw [ex] at hx ⊢
      rw [hL] at hx hk ⊢
      clear h ex hL h1 h2
      have k1 : (0 : Int) ≤ (k : Int) := by omega
      have k2 : (k : Int) < (L : Int) := by omega
      go_enter Try.func24, Try.ntmps24
      go_wp2
      go_ret2
      exact ⟨rfl, new_alloc (new_refl w) _⟩

theorem refPop5_none (c : Nat) (A : Option Addr) (m : Int) (w : World) :
    Calls Try.prog 9 #[.agg #[.slice A 0 c, .int .i64 m]] w fun e w' => e = .returned (.tuple #[.agg #[.slice A 0 c, .int .i64 m], .int .i64 0, .bool false]) ∧ Below w.heap.size w w' := by
  go_enter Try.func9, Try.ntmps9
  go_wp2
  exact bodyPost_ret (v := .tuple #[.agg #[.slice A 0 c, .int .i64 m], .int .i64 0, .bool false]) (by simp [results, Try.results9, go_sem]) rfl ⟨rfl, new_alloc (new_alloc (new_refl w) _) _⟩
theorem lst_tail {w : World} {g off : Nat} {z : Int} {ys : List Int} (h : ∀ i, i < (z :: ys).length → w.cell? ⟨g, off + i, none⟩ = some (.int .i64 ((z :: ys)[i]?.getD 0))) : Lst w g (some ⟨g, off + 1, none⟩) ys := by
  refine .inr ⟨off + 1, rfl, fun i hi => ?_⟩
  have := h (i + 1) (by simp; omega)
  rw [show off + (i + 1) = off + 1 + i by omega] at this
  simpa using this
/-- The list without its first item. -/
def Popped (w : World) (g : Nat) (z : Int) (ys : List Int) (c : Nat) (m : Int) (e : Ending) (w' : World) : Prop :=
  ∃ a, e = .returned (.tuple #[.agg #[.slice (some a) ys.length (c - 1), .int .i64 m], .int .i64 z, .bool true]) ∧ Lst w' g (some a) ys ∧ Below w.heap.size w w'
set_option maxRecDepth 100000 in
theorem refPop5_some (g c : Nat) (A : Option Addr) (z : Int) (ys : List Int) (m : Int) (w : World) (h : Lst w g A (z :: ys)) (hl : ys.length + 1 ≤ c) :
    Calls Try.prog 9 #[.agg #[.slice A (ys.length + 1) c, .int .i64 m]] w (Popped w g z ys c m) := by
  rcases h with h | ⟨off, rfl, h⟩
  · cases h
  have hz : w.cell? ⟨g, off, none⟩ = some (.int .i64 z) := by simpa using h 0 (by simp)
  have hgw : g < w.heap.size := World.block_lt_of_cell? w _ hz
  have H := Lib.hid h
  clear h
  obtain ⟨L, hL⟩ : ∃ L, ys.length = L := ⟨_, rfl⟩
  have HL := Lib.hid hL
  rw [hL] at hl ⊢
  clear hL
  have l0 : (0 : Int) ≤ (L : Int) := by omega
  have l1 : (1 : Int) ≤ (L : Int) + 1 := by omega
  by_cases hc : c = 1
  · subst hc
    obtain rfl : L = 0 := by omega
    obtain rfl : ys = [] := List.eq_nil_of_length_eq_zero HL.out
    clear l0 l1 hl
    go_enter Try.func9, Try.ntmps9
    go_wp2_with fail
    have A0 := At.alloc (At.new w [.slice (some ⟨g, off, none⟩) 1 1, .int .i64 m] 27) (.cells #[.slice none 0 0, .int .i64 0] 27)
    have x0 := A0.cell 0 rfl
    have x1 := A0.cell 1 rfl
    have xz := cell_kept (new_alloc (new_alloc (new_refl w) (.cells #[.slice (some ⟨g, off, none⟩) 1 1, .int .i64 m] 27)) (.cells #[.slice none 0 0, .int .i64 0] 27)) hz
    clear A0
    go_region_held3 (fun w' => w'.cell? ⟨w.heap.size, 0, none⟩ = some (.slice (some ⟨g, off, none⟩) 1 1) ∧ w'.cell? ⟨w.heap.size, 1, none⟩ = some (.int .i64 m) ∧ w'.cell? ⟨g, off, none⟩ = some (.int .i64 z)) (go_keep) (fail)
    go_wp2_with fail
    exact bodyPost_ret (v := .tuple #[.agg #[.slice (some ⟨g, off, none⟩) 0 0, .int .i64 m], .int .i64 z, .bool true]) (by simp [results, Try.results9, go_sem]) rfl
      ⟨_, rfl, .inl rfl, new_drew (new_alloc (new_alloc (new_refl w) _) _)⟩
  · go_enter Try.func9, Try.ntmps9
    go_wp2_with fail
    have A0 := At.alloc (At.new w [.slice (some ⟨g, off, none⟩) (L + 1) c, .int .i64 m] 27) (.cells #[.slice none 0 0, .int .i64 0] 27)
    have x0 := A0.cell 0 rfl
    have x1 := A0.cell 1 rfl
    have xz := cell_kept (new_alloc (new_alloc (new_refl w) (.cells #[.slice (some ⟨g, off, none⟩) (L + 1) c, .int .i64 m] 27)) (.cells #[.slice none 0 0, .int .i64 0] 27)) hz
    clear A0
    go_region_held3 (fun w' => w'.cell? ⟨w.heap.size, 0, none⟩ = some (.slice (some ⟨g, off, none⟩) (L + 1) c) ∧ w'.cell? ⟨w.heap.size, 1, none⟩ = some (.int .i64 m) ∧ w'.cell? ⟨g, off, none⟩ = some (.int .i64 z)) (go_keep) (fail)
    go_wp2_with fail
    obtain rfl := HL.out
    exact bodyPost_ret (v := .tuple #[.agg #[.slice (some ⟨g, off + 1, none⟩) ys.length (c - 1), .int .i64 m], .int .i64 z, .bool true]) (by simp [results, Try.results9, go_sem]) rfl
      ⟨_, rfl, Lst.kept (lst_tail H.out) (new_drew (new_alloc (new_alloc (new_refl w) _) _)), new_drew (new_alloc (new_alloc (new_refl w) _) _)⟩
end Go.Proofs.Ytamcakckbabeiaa
