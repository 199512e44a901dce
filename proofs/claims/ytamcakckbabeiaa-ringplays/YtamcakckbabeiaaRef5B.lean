/- The document's own answers of layer 5: Push. -/
import Derived.Test.YtamcakckbabeiaaRef5A
namespace Go.Proofs.Ytamcakckbabeiaa
open Go.RowKit
set_option linter.unusedVariables false

theorem refPush5_full (n c : Nat) (A : Option Addr) (x : Int) (w : World) :
    Calls Try.prog 10 #[.agg #[.slice A n c, .int .i64 (n : Int)], .int .i64 x] w fun e w' => e = .returned (.tuple #[.agg #[.slice A n c, .int .i64 (n : Int)], .int .i64 9]) ∧ Below w.heap.size w w' := by
  go_enter Try.func10, Try.ntmps10
  go_wp2
  exact bodyPost_ret (v := .tuple #[.agg #[.slice A n c, .int .i64 (n : Int)], .int .i64 9]) (by simp [results, Try.results10, go_sem]) rfl ⟨rfl, new_alloc (new_alloc (new_refl w) _) _⟩

/-- The list, and one behind it. -/
def Pushed5 (w : World) (zs : List Int) (m : Nat) (e : Ending) (w' : World) : Prop :=
  ∃ g c, e = .returned (.tuple #[.agg #[.slice (some ⟨g, 0, none⟩) zs.length c, .int .i64 (m : Int)], .int .i64 0]) ∧ w.heap.size ≤ g ∧ g < w'.heap.size ∧ Lst w' g (some ⟨g, 0, none⟩) zs ∧ zs.length ≤ c ∧ Below w.heap.size w w'

theorem src_lst {w : World} {g c : Nat} {A : Option Addr} {zs : List Int} (h : Lst w g A zs) (hA : A = none → c = 0) : Src .i64 w A zs.length c zs := by
  refine ⟨rfl, ?_⟩
  rcases h with rfl | ⟨off, rfl, h⟩
  · cases A with
    | none => exact .inl ⟨rfl, rfl, hA rfl⟩
    | some a => exact .inr ⟨a, rfl, fun j hj => absurd hj (by simp)⟩
  · refine .inr ⟨_, rfl, fun j hj => ?_⟩
    have := h j hj
    unfold Addr.add
    split
    · simp_all
    · simpa using this
theorem Src.kept {k : IntKind} {w w' : World} {A : Option Addr} {m c : Nat} {ys : List Int} (h : Src k w A m c ys) (o : Below w.heap.size w w') : Src k w' A m c ys := by
  obtain ⟨rfl, h⟩ := h
  refine ⟨rfl, ?_⟩
  rcases h with h | ⟨a, rfl, h⟩
  · exact .inl h
  · exact .inr ⟨a, rfl, fun j hj => cell_kept o (h j hj)⟩
theorem far_next {n m : Nat} (h : m < n) : some (⟨n, 0, none⟩ : Addr).block ≠ (Value.slice (some ⟨m, 0, none⟩) 0 0).ownBlock := by simp [Value.ownBlock]; omega
theorem far_prev {n m : Nat} (h : n < m) : some (⟨n, 0, none⟩ : Addr).block ≠ (Value.slice (some ⟨m, 0, none⟩) 0 0).ownBlock := by simp [Value.ownBlock]; omega
theorem own_none (w : World) (base : Nat) (hb : base ≤ w.heap.size) : R8.Own (w.alloc (.cells #[] 2)) base (.slice (some ⟨w.heap.size, 0, none⟩) 0 0) [] :=
  World.ownsRow_made w _ 0 hb (by unfold maxLen; omega) (by simp)
theorem pushed5 {w W w1 : World} {g c L m : Nat} {zs : List Int} {x : Int} {u v : Value} (BW : Below w.heap.size w W) (B : Below W.heap.size W w1) (l1 : w.heap.size + 1 < W.heap.size) (hL : zs.length = L) (O : R8.Own w1 W.heap.size (.slice (some ⟨g, 0, none⟩) (L + 1) c) ([] ++ zs ++ [x])) :
    Pushed5 w (zs ++ [x]) m (.returned (.tuple #[.agg #[.slice (some ⟨g, 0, none⟩) (L + 1) c, .int .i64 (m : Int)], .int .i64 0])) ((w1.setCell ⟨w.heap.size + 1, 0, none⟩ u).setCell ⟨w.heap.size + 1, 1, none⟩ v) := by
  rw [List.nil_append] at O
  have hl : (zs ++ [x]).length = L + 1 := by simp [hL]
  have hg := World.ownsRow.lt O g rfl
  have hb := O.blk
  have o2 : Out (fun k => k = w.heap.size + 1) w1 ((w1.setCell ⟨w.heap.size + 1, 0, none⟩ u).setCell ⟨w.heap.size + 1, 1, none⟩ v) :=
    Out.set (p := ⟨w.heap.size + 1, 1, none⟩) (Out.set (p := ⟨w.heap.size + 1, 0, none⟩) (Out.refl (fun k => k = w.heap.size + 1) w1) (.inl rfl) u) (.inl rfl) v
  have s1 := BW.size
  have s2 := B.size
  refine ⟨g, c, by rw [hl], by omega, Nat.lt_of_lt_of_le hg.2 o2.size, (Lst.own O).out o2 (by omega), by omega, ?_⟩
  exact BW.trans ((B.mono (show w.heap.size ≤ W.heap.size by omega)).trans (o2.below (by omega) (fun k hk => by subst hk; omega)))
theorem own_none2 (w : World) (o : Obj) (base : Nat) (hb : base ≤ w.heap.size) : R8.Own ((w.alloc o).alloc (.cells #[] 2)) base (.slice (some ⟨w.heap.size + 1, 0, none⟩) 0 0) [] := by
  have h := own_none (w.alloc o) base (alloc_le hb o)
  rw [alloc_size] at h
  exact h

set_option maxRecDepth 100000 in
set_option maxHeartbeats 1000000 in
theorem refPush5_some (g c m : Nat) (A : Option Addr) (x : Int) (zs : List Int) (w : World) (h : Lst w g A zs) (hA : A = none → c = 0) (hl : zs.length ≠ m) (hl2 : zs.length ≤ 65536) :
    Calls Try.prog 10 #[.agg #[.slice A zs.length c, .int .i64 (m : Int)], .int .i64 x] w (Pushed5 w (zs ++ [x]) m) := by
  obtain ⟨L, hL⟩ : ∃ L, zs.length = L := ⟨_, rfl⟩
  have HL := Lib.hid hL
  have HS := Lib.hid (src_lst h hA)
  rw [hL] at hl hl2 HS ⊢
  clear h hA hL
  have HZ : Hid (([] : List Int).length + zs.length ≤ 1000000000) := Lib.hid (by rw [HL.out]; simp; omega)
  have HY : Hid (([] ++ zs : List Int).length + 1 = L + 1) := Lib.hid (by rw [List.nil_append, HL.out])
  have hy : L + 1 ≤ 1000000000 := by omega
  go_enter Try.func10, Try.ntmps10
  go_wp2_with fail
  have A0 := At.alloc (At.new w [.slice A L c, .int .i64 (m : Int)] 27) (.cells #[.slice none 0 0, .int .i64 0] 27)
  have A1 := Blk.newAt (alloc_size w (.cells #[.slice A L c, .int .i64 (m : Int)] 27)) [.slice none 0 0, .int .i64 0] 27
  have BW := new_alloc (new_alloc (new_refl w) (.cells #[.slice A L c, .int .i64 (m : Int)] 27)) (.cells #[.slice none 0 0, .int .i64 0] 27)
  have HW := Lib.hid (HS.out.kept BW)
  clear HS
  generalize (w.alloc (.cells #[.slice A L c, .int .i64 (m : Int)] 27)).alloc (.cells #[.slice none 0 0, .int .i64 0] 27) = W at A0 A1 BW HW ⊢
  have x0 := A0.cell 0 rfl
  have x1 := A0.cell 1 rfl
  have l0 := A0.1
  have l1 := A1.lt
  go_region_held3 (fun w' => w'.cell? ⟨w.heap.size, 0, none⟩ = some (.slice A L c) ∧ w'.cell? ⟨w.heap.size, 1, none⟩ = some (.int .i64 (m : Int)))
    (first | go_keep | exact two_kept B16 ⟨x0, x1⟩)
    (first
      | (refine step_catK R8.elem (o := ⟨some 16, _, _, _, _, _⟩) rfl _ _ rfl W.heap.size _ [] A L c zs rfl rfl ?_ ?_ HZ.out ?_ _ rfl ?_
         · first | exact HW.out.kept (new_alloc (new_drew (new_refl W)) _) | exact HW.out.kept (new_alloc (new_alloc (new_drew (new_refl W)) _) _)
         · first | exact own_none W.drew _ (Nat.le_refl _) | exact (own_none W.drew _ (Nat.le_refl _)).alloc _ | exact own_none2 W.drew _ _ (Nat.le_refl _)
         · first | exact alloc_le (W := W.drew) (Nat.le_refl _) _ | exact alloc_le (alloc_le (W := W.drew) (Nat.le_refl _) _) _
         intro v16 w16 O16 G16 hat16
         have B16 : Below W.heap.size W w16 := by
           first
           | exact (new_alloc (new_drew (new_refl W)) _).trans (below_push (own_none W.drew _ (Nat.le_refl _)) G16 (alloc_le (W := W.drew) (Nat.le_refl _) _))
           | exact (new_alloc (new_alloc (new_drew (new_refl W)) _) _).trans (below_push ((own_none W.drew _ (Nat.le_refl _)).alloc _) G16 (alloc_le (alloc_le (W := W.drew) (Nat.le_refl _) _) _))
           | exact (new_alloc (new_alloc (new_drew (new_refl W)) _) _).trans (below_push (own_none2 W.drew _ _ (Nat.le_refl _)) G16 (alloc_le (alloc_le (W := W.drew) (Nat.le_refl _) _) _)))
      | (refine step_pushK R8.elem (o := ⟨some 19, _, _, _, _, _⟩) rfl _ _ rfl W.heap.size _ ([] ++ zs) x _ 1 rfl rfl ?_ ?_ (L + 1) HY.out hy ?_ _ rfl ?_
         · first
           | exact (At.new w16 [.int .i64 x] _).cell 0 rfl
           | exact G16.cell ((At.newAt (alloc_size W _) [.int .i64 x] _).cell 0 rfl) (far_next (Nat.lt_succ_self _))
           | exact G16.cell ((At.alloc (At.new W [.int .i64 x] _) _).cell 0 rfl) (far_prev (Nat.lt_succ_self _))
         · first | exact O16.alloc _ | exact O16
         · first | exact alloc_le B16.size _ | exact B16.size
         intro g19 c19 w19 O19 G19 hat19 hlt19
         replace B16 : Below W.heap.size W w19 := by
           first
           | exact (B16.alloc B16.size _).trans (below_push (O16.alloc _) G19 (alloc_le B16.size _))
           | exact B16.trans (below_push O16 G19 B16.size)
         have q0 := cell_kept B16 (A1.cell 0 rfl)
         have q1 := cell_kept B16 (A1.cell 1 rfl)
         have f0 := (A1.kept B16).frozen 0
         have f1 := (A1.kept B16).frozen 1
         clear G16 G19 hat16 hat19))
  all_goals
    go_wp2_with fail
    exact bodyPost_ret (v := .tuple #[.agg #[.slice (some ⟨g19, 0, none⟩) (L + 1) c19, .int .i64 (m : Int)], .int .i64 0]) (by simp [results, Try.results10, go_sem, q0, q1]) rfl (pushed5 BW B16 l1 HL.out O19)
end Go.Proofs.Ytamcakckbabeiaa
