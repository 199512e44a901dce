/- Package heap: what Sorted sorts by: slices.Clone, slices.SortFunc (by the library's own contract). -/
import Derived.Test.YtmdlbjeiokadaaaHeapF
import Derived.Test.YtmdlbjeiokadaaaRowF
import Derived.Shelf.SlSortCmp.WholeK
import Derived.Shelf.SlSortCmp.NoneTotal
namespace Go.Proofs.Ytmdlbjeiokadaaa
open Go.RowKit
set_option linter.unusedVariables false

/-- Which number a function and a type of the library has in this program. -/
def sortRen : Go.Shelf.Ren where
  f := fun n => match n with
    | 6 => 28
    | 14 => 31
    | 15 => 32
    | 20 => 35
    | 21 => 36
    | 22 => 37
    | 23 => 38
    | 24 => 39
    | 25 => 40
    | 26 => 41
    | 27 => 42
    | 28 => 43
    | 29 => 44
    | 46 => 46
    | 47 => 47
    | 48 => 48
    | 49 => 49
    | 50 => 50
    | 57 => 51
    | n => n
  t := fun n => match n with
    | 22 => 50
    | 24 => 58
    | 25 => 62
    | 3 => 3
    | 39 => 66
    | 0 => 0
    | 53 => 78
    | 55 => 80
    | 4 => 4
    | 46 => 71
    | 45 => 70
    | 50 => 75
    | 5 => 5
    | 9 => 9
    | 66 => 83
    | 70 => 87
    | 76 => 89
    | 77 => 90
    | n => n
  g := fun n => n
/-- The bodies of slices.SortFunc and of what it calls, at waiters, are the library's. -/
theorem sortW : Go.Proofs.SlLaysF0.n6 Try.prog sortRen where
  mixed := by kernel_rfl
  f6 := ⟨ "slices.SortFunc[[]leat/heap.waiter,leat/heap.waiter]", of_decide_eq_true (by kernel_rfl), Try.func28.trans (congrArg some (by kernel_rfl))⟩
  f14 := ⟨ "slices.pdqsortCmpFunc[leat/heap.waiter]", of_decide_eq_true (by kernel_rfl), Try.func31.trans (congrArg some (by kernel_rfl))⟩
  f15 := Try.func32.trans (congrArg some (by kernel_rfl))
  f20 := ⟨ "slices.insertionSortCmpFunc[leat/heap.waiter]", of_decide_eq_true (by kernel_rfl), Try.func35.trans (congrArg some (by kernel_rfl))⟩
  f21 := ⟨ "slices.heapSortCmpFunc[leat/heap.waiter]", of_decide_eq_true (by kernel_rfl), Try.func36.trans (congrArg some (by kernel_rfl))⟩
  f22 := ⟨ "slices.breakPatternsCmpFunc[leat/heap.waiter]", of_decide_eq_true (by kernel_rfl), Try.func37.trans (congrArg some (by kernel_rfl))⟩
  f23 := ⟨ "slices.choosePivotCmpFunc[leat/heap.waiter]", of_decide_eq_true (by kernel_rfl), Try.func38.trans (congrArg some (by kernel_rfl))⟩
  f24 := ⟨ "slices.reverseRangeCmpFunc[leat/heap.waiter]", of_decide_eq_true (by kernel_rfl), Try.func39.trans (congrArg some (by kernel_rfl))⟩
  f25 := ⟨ "slices.partialInsertionSortCmpFunc[leat/heap.waiter]", of_decide_eq_true (by kernel_rfl), Try.func40.trans (congrArg some (by kernel_rfl))⟩
  f26 := ⟨ "slices.partitionEqualCmpFunc[leat/heap.waiter]", of_decide_eq_true (by kernel_rfl), Try.func41.trans (congrArg some (by kernel_rfl))⟩
  f27 := ⟨ "slices.partitionCmpFunc[leat/heap.waiter]", of_decide_eq_true (by kernel_rfl), Try.func42.trans (congrArg some (by kernel_rfl))⟩
  f28 := Try.func43.trans (congrArg some (by kernel_rfl))
  f29 := Try.func44.trans (congrArg some (by kernel_rfl))
  f46 := ⟨ "slices.siftDownCmpFunc[leat/heap.waiter]", of_decide_eq_true (by kernel_rfl), Try.func46.trans (congrArg some (by kernel_rfl))⟩
  f47 := Try.func47.trans (congrArg some (by kernel_rfl))
  f48 := Try.func48.trans (congrArg some (by kernel_rfl))
  f49 := ⟨ "slices.medianAdjacentCmpFunc[leat/heap.waiter]", of_decide_eq_true (by kernel_rfl), Try.func49.trans (congrArg some (by kernel_rfl))⟩
  f50 := ⟨ "slices.medianCmpFunc[leat/heap.waiter]", of_decide_eq_true (by kernel_rfl), Try.func50.trans (congrArg some (by kernel_rfl))⟩
  f57 := ⟨ "slices.order2CmpFunc[leat/heap.waiter]", of_decide_eq_true (by kernel_rfl), Try.func51.trans (congrArg some (by kernel_rfl))⟩
  t22 := Try.underlying50
  a22 := Try.isAgg50
  z22 := Try.sizeOf50
  v22 := Try.zeroValue50
  t25 := Try.underlying62
  a25 := Try.isAgg62
  z25 := Try.sizeOf62
  v25 := Try.zeroValue62
  t3 := Try.underlying3
  a3 := Try.isAgg3
  z3 := Try.sizeOf3
  v3 := Try.zeroValue3
  t39 := Try.underlying66
  a39 := Try.isAgg66
  z39 := Try.sizeOf66
  v39 := Try.zeroValue66
  t0 := Try.underlying0
  a0 := Try.isAgg0
  z0 := Try.sizeOf0
  v0 := Try.zeroValue0
  t53 := Try.underlying78
  a53 := Try.isAgg78
  z53 := Try.sizeOf78
  v53 := Try.zeroValue78
  t55 := Try.underlying80
  a55 := Try.isAgg80
  z55 := Try.sizeOf80
  v55 := Try.zeroValue80
  t4 := Try.underlying4
  a4 := Try.isAgg4
  z4 := Try.sizeOf4
  v4 := Try.zeroValue4
  t46 := Try.underlying71
  a46 := Try.isAgg71
  z46 := Try.sizeOf71
  v46 := Try.zeroValue71
  t45 := Try.underlying70
  a45 := Try.isAgg70
  z45 := Try.sizeOf70
  v45 := Try.zeroValue70
  t50 := Try.underlying75
  a50 := Try.isAgg75
  z50 := Try.sizeOf75
  v50 := Try.zeroValue75
  t5 := Try.underlying5
  a5 := Try.isAgg5
  z5 := Try.sizeOf5
  v5 := Try.zeroValue5
  t9 := Try.underlying9
  a9 := Try.isAgg9
  z9 := Try.sizeOf9
  v9 := Try.zeroValue9
  t66 := Try.underlying83
  a66 := Try.isAgg83
  z66 := Try.sizeOf83
  v66 := Try.zeroValue83
  t70 := Try.underlying87
  a70 := Try.isAgg87
  z70 := Try.sizeOf87
  v70 := Try.zeroValue87
  t76 := Try.underlying89
  a76 := Try.isAgg89
  z76 := Try.sizeOf89
  v76 := Try.zeroValue89
  t77 := Try.underlying90
  a77 := Try.isAgg90
  z77 := Try.sizeOf90
  v77 := Try.zeroValue90

theorem lt_dec (x y : Wt) : Go.Proofs.ltOf ordv x y = decide (x.lt y) := by
  unfold Go.Proofs.ltOf
  exact decide_eq_decide.2 (ordv_lt x y)
theorem swoW : Go.Sort.SWO (Go.Proofs.ltOf ordv) where
  irrefl x := by rw [lt_dec]; simp [Wt.lt]
  trans x y z h1 h2 := by rw [lt_dec] at *; simp only [decide_eq_true_eq] at *; exact Wt.lt_trans h1 h2
  ntrans x y z h1 h2 := by
    rw [lt_dec] at *
    simp only [decide_eq_false_iff_not] at *
    exact Wt.not_of_le (Wt.le_trans (Wt.le_of_not h2) (Wt.le_of_not h1))
/-- How the row lies, as the library has it. -/
theorem holds_of {w : World} {base g n c : Nat} {zs : List Wt} (h : OwnW w base (.slice (some ⟨g, 0, none⟩) n c) zs) : Go.Sort.HoldsK encW 5 w g 0 zs.toArray := by
  intro j hj
  rw [Go.Sort.size_flatK] at hj
  have hj' : j < zs.length * 5 := by simpa using hj
  refine ⟨?_, h.frozen encW_is _⟩
  rw [Go.Sort.get_flatK _ _ _ _ hj, Nat.zero_add]
  have hi : j / 5 < zs.length := by omega
  have hv : (encW zs[j / 5])[j % 5]? = some (id (encW zs.toArray[j / 5]!)[j % 5]!) := by
    have e : zs.toArray[j / 5]! = zs[j / 5] := by simp [hi]
    rw [e]
    have hl : j % 5 < (encW zs[j / 5]).length := by rw [encW_len]; omega
    rw [List.getElem?_eq_getElem hl]
    simp [hl]
  have := h.cells encW_is hi hv
  rwa [show j / 5 * 5 + j % 5 = j by omega] at this
/-- What the sort leaves of the world. -/
theorem sort_out (w : World) (g n : Nat) (d : Array Wt) (os : Array Obj) : Out (fun k => k = g) w (Go.Proofs.sortWorldK encW 5 w g 0 n d os) := by
  refine ⟨rfl, rfl, rfl, Go.Proofs.size_sortWorldK_c encW 5 w g 0 n d os, fun k hk hf => ?_⟩
  show ((Go.Sort.putRowK encW 5 (Go.Sort.ahead w n) g 0 d).heap ++ os)[k]? = w.heap[k]?
  rw [Array.getElem?_append_left (by show k < (w.heap.modify g _).size; simpa using hk)]
  show (w.heap.modify g _)[k]? = w.heap[k]?
  rw [Array.getElem?_modify, if_neg (fun e => hf e.symm)]
theorem sort_five {w : World} {base g n c m : Nat} {zs : List Wt} (h : OwnW w base (.slice (some ⟨g, 0, none⟩) n c) zs) (d : Array Wt) (os : Array Obj) (hd : d.size = zs.length) {i : Nat} (hi : i < zs.length) :
    Five (Go.Proofs.sortWorldK encW 5 w g 0 m d os) g i d[i]! := by
  have hH := Go.Proofs.holdsK_sortWorldK_c encW 5 w g 0 zs.toArray d m os (holds_of h) (h.lt encW_is).2 (by simpa using hd)
  have key : ∀ j, j < 5 → (Go.Proofs.sortWorldK encW 5 w g 0 m d os).cell? ⟨g, i * 5 + j, none⟩ = some (encW d[i]!)[j]! := by
    intro j hj
    have hlt : i * 5 + j < d.size * 5 := by omega
    have h1 := (hH (i * 5 + j) (by rw [Go.Sort.size_flatK]; exact hlt)).1
    rw [Go.Sort.get_flatK _ _ _ _ hlt, Nat.zero_add, show (i * 5 + j) / 5 = i by omega, show (i * 5 + j) % 5 = j by omega] at h1
    exact h1
  exact ⟨key 0 (by omega), key 1 (by omega), key 2 (by omega), key 3 (by omega), key 4 (by omega)⟩
theorem perm_of {zs : List Wt} {d : Array Wt} (h : Go.Sort.PermIn 0 zs.toArray.size zs.toArray d) : d.toList.Perm zs ∧ d.size = zs.length := by
  obtain ⟨h1, _, h3⟩ := h
  have e1 : d.extract 0 zs.toArray.size = d := by rw [← h1]; simp
  have e2 : zs.toArray.extract 0 zs.toArray.size = zs.toArray := by simp
  rw [e1, e2] at h3
  exact ⟨by simpa using h3, by simpa using h1⟩
theorem pair_of {n : Nat} {d : Array Wt} (hn : d.size = n) (h : Go.Sort.SortedIn (Go.Proofs.ltOf ordv) 0 n d) : d.toList.Pairwise Wt.le := by
  rw [List.pairwise_iff_getElem]
  intro i j hi hj hij
  have hj' : j < d.size := by simpa using hj
  have := h i j (Nat.zero_le _) hij (by omega)
  rw [lt_dec, getElem!_pos d j hj', getElem!_pos d i (by omega)] at this
  simpa using Wt.le_of_not (of_decide_eq_false this)
/-- The function value that Sorted hands on. -/
abbrev fOrder : Value := .func (.func 29) #[] #[]
theorem sort_any (g n c : Nat) (base : Nat) (zs L : List Wt) (w : World) (h : OwnW w base (.slice (some ⟨g, 0, none⟩) n c) zs) (hp : zs.Perm L) (ha : Asc L) (hn : n ≤ 1000000) :
    Calls Try.prog 28 #[.slice (some ⟨g, 0, none⟩) n c, fOrder] w fun e w' => e = .returned (.tuple #[]) ∧ (∀ i, i < n → Five w' g i (nth L i)) ∧ Out (fun k => k = g) w w' := by
  have hl := h.len.1
  have eg : ∀ args w, (callFunc 29 args).run Try.prog w = .ok (.enter 29 args) w := enters_of Try.func29 (by kernel_rfl) rfl
  have hcmp : Go.Proofs.CmpLays Try.prog 29 #[] encW 5 ordv g 0 zs.toArray.size w := fun _ _ _ _ x y => order_any x y _
  have hcon := Go.Proofs.AnyQ.slices_SortFunc sortW 5 Try.isAgg58 Try.sizeOf58 encW encW_len encW_one ordv swoW 29 #[] g 0 c zs.toArray w eg hcmp (holds_of h) (h.lt encW_is).2 (by simp; omega)
  change Calls Try.prog 28 _ _ _ at hcon
  have es : zs.toArray.size = n := by simpa using hl
  rw [es] at hcon
  refine hcon.mono fun e w' ⟨he, d, m, os, hpm, hs, hw⟩ => ⟨he, ?_, by rw [hw]; exact sort_out w g m d os⟩
  obtain ⟨hd1, hd2⟩ := perm_of (by rw [es]; exact hpm)
  have hL : d.toList = L := asc_is (hd1.trans hp) (pair_of (by omega) hs) ha
  intro i hi
  rw [hw]
  have h5 := sort_five (m := m) h d os hd2 (i := i) (by omega)
  have e : d[i]! = nth L i := by
    rw [← hL, getElem!_pos d i (by omega), nth_eq (by simp; omega)]
    simp
  rwa [e] at h5
theorem sort_none (c : Nat) (A : Option Addr) (w : World) :
    Calls Try.prog 28 #[.slice A 0 c, fOrder] w fun e w' => e = .returned (.tuple #[]) ∧ w' = w := by
  have hcon := Go.Proofs.AnyF.slices_SortFunc_none sortW A c fOrder w
  exact hcon
end Go.Proofs.Ytmdlbjeiokadaaa
