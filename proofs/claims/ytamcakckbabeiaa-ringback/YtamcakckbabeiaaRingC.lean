/- Package ring at int64: what a row is, and widen: at least one slot more. -/
import Derived.Test.YtamcakckbabeiaaRingB
import Derived.Test.YtamcakckbabeiaaRingM
import Derived.Laws.CopyOwn
import Derived.Deep.CutBlock
import Derived.Deep.DeepCutAuto
namespace Go.Proofs.Ytamcakckbabeiaa
namespace R8
open Go.RowKit
set_option linter.unusedVariables false

/-- The slots' numbers: the first item stands at slot f of n. -/
def Turned (n f : Nat) (cur zs : List Int) : Prop := ∀ i, i < zs.length → cur[(f + i) % n]?.getD 0 = zs[i]?.getD 0

/-- The slots' block: n numbers, and room behind them. -/
def Rw (w : World) (g n c : Nat) (cur : List Int) : Prop := ∃ rest, Blk w g (cur.map (Value.int .i64) ++ rest) 2 ∧ n + rest.length = c
theorem Rw.lt {w : World} {g n c : Nat} {cur : List Int} (h : Rw w g n c cur) : g < w.heap.size := h.elim fun _ h => h.1.lt
theorem Rw.kept {w w' : World} {g n c : Nat} {cur : List Int} (h : Rw w g n c cur) (o : Below w.heap.size w w') : Rw w' g n c cur := h.elim fun r h => ⟨r, h.1.kept o, h.2⟩
theorem Rw.out {F : Nat → Prop} {w w' : World} {g n c : Nat} {cur : List Int} (h : Rw w g n c cur) (o : Out F w w') (hg : ¬ F g) : Rw w' g n c cur := h.elim fun r h => ⟨r, h.1.out o hg, h.2⟩
theorem Rw.draw {w : World} {g n c : Nat} {cur : List Int} (h : Rw w g n c cur) (m : Nat) : Rw (w.drewN m) g n c cur := h
theorem Rw.frozen {w : World} {g n c : Nat} {cur : List Int} (h : Rw w g n c cur) (j : Nat) : w.frozen? ⟨g, j, none⟩ = false := h.elim fun _ h => h.1.frozen j
theorem Rw.cell {w : World} {g n c i : Nat} {cur : List Int} (h : Rw w g n c cur) (hi : i < cur.length) : w.cell? ⟨g, i, none⟩ = some (.int .i64 (cur[i]?.getD 0)) :=
  h.elim fun r h => h.1.cell i (by rw [List.getElem?_append_left (by simpa using hi)]; simp [List.getElem?_map, List.getElem?_eq_getElem hi])
theorem Rw.set {w : World} {g n c i : Nat} {cur : List Int} (h : Rw w g n c cur) (hi : i < cur.length) (x : Int) : Rw (w.setCell ⟨g, i, none⟩ (.int .i64 x)) g n c (cur.set i x) :=
  h.elim fun r h => ⟨r, by rw [List.map_set, ← List.set_append_left _ _ (by simpa using hi)]; exact h.1.set i (.int .i64 x), h.2⟩
theorem Rw.far {w : World} {g n c : Nat} {cur : List Int} (h : Rw w g n c cur) {p : Addr} (hp : g ≠ p.block) (u : Value) : Rw (w.setCell p u) g n c cur := h.elim fun r h => ⟨r, h.1.far hp u, h.2⟩

/-- There are slots. -/
def RF (w : World) (b g n c f : Nat) (cur zs : List Int) (most : Nat) : Prop :=
  RB w b (.slice (some ⟨g, 0, none⟩) n c) f zs.length most ∧ Rw w g n c cur ∧ cur.length = n ∧ g ≠ b ∧ 1 ≤ n ∧ n ≤ c ∧ c ≤ maxLen ∧ n ≤ most ∧ most ≤ 65536 ∧ f < n ∧ zs.length ≤ n ∧ Turned n f cur zs
/-- There are none yet. -/
def RE (w : World) (b most : Nat) : Prop := RB w b (.slice none 0 0) 0 0 most ∧ most ≤ 65536

/-- What widen leaves: new slots, in a new block; the items stand at their head. -/
def Widened (w : World) (b : Nat) (zs : List Int) (most : Nat) (e : Ending) (w' : World) : Prop :=
  ∃ g n, e = .returned (.tuple #[]) ∧ w.heap.size ≤ g ∧ zs.length < n ∧ RF w' b g n n 0 (zs ++ List.replicate (n - zs.length) 0) zs most ∧ Out (fun k => k = b) w w'

theorem out_two {w w3 : World} {b : Nat} {u v : Value} (h : Below w.heap.size w w3) : Out (fun k => k = b) w ((w3.setCell ⟨b, 0, none⟩ u).setCell ⟨b, 1, none⟩ v) :=
  Out.set (p := ⟨b, 1, none⟩) (Out.set (p := ⟨b, 0, none⟩) (Out.of h (fun k => k = b)) (.inl rfl) u) (.inl rfl) v

/-- Behind 'make': a new row of N zeros. -/
def Made (w : World) (N : Nat) (v : Value) (wx : World) : Prop := v = .slice (some ⟨w.heap.size, 0, none⟩) N N ∧ Blk wx w.heap.size ((List.replicate N (0 : Int)).map (Value.int .i64)) 2 ∧ Below w.heap.size w wx
theorem made_at (w : World) (N : Nat) : Made w N (.slice (some ⟨w.heap.size, 0, none⟩) N N) ((w.alloc (.cells (madeCells #[.int .i64 0] N) 2)).drew) := by
  refine ⟨rfl, ?_, new_drew (new_alloc (new_refl w) _)⟩
  rw [madeL]
  exact Blk.drew (Blk.new w _ _)
theorem info_size : (Try.prog.info? 2).map (·.size) = some 1 := by kernel_rfl
theorem copy_len {zs : List Int} (n N : Nat) (h : n < N) (hn : zs.length = n) : (zs.map (Value.int .i64)).length = Nat.min n N := by
  simp [hn]; show n = min n N; omega
theorem copy_from {w : World} {base gs n cs g : Nat} {zs : List Int} {N : Nat} (ho : Own w base (.slice (some ⟨gs, 0, none⟩) n cs) zs) : 0 < (zs.map (Value.int .i64)).length → (some (⟨g, 0, none⟩ : Addr)) = some ⟨g, 0, none⟩ ∧ ∃ ad, (some (⟨gs, 0, none⟩ : Addr)) = some ad ∧ ∀ j v, (zs.map (Value.int .i64))[j]? = some v → w.cell? (ad.add j) = some v := by
  intro _
  refine ⟨rfl, _, rfl, fun j v hv => ?_⟩
  have h := ho.at_.cell j hv
  unfold Addr.add
  split
  · simp_all
  · simpa using h
theorem copy_fits (zs : List Int) (N : Nat) (h : zs.length < N) : 0 + (zs.map (Value.int .i64)).length ≤ ((List.replicate N (0 : Int)).map (Value.int .i64)).length := by simp; omega
theorem ints_one {zs : List Int} : ∀ v ∈ zs.map (Value.int .i64), v.oneCell' = true := by
  intro u hu
  simp at hu
  obtain ⟨z, _, rfl⟩ := hu
  rfl
theorem splice_row (zs : List Int) (N : Nat) (h : zs.length < N) : splice ((List.replicate N (0 : Int)).map (Value.int .i64)) 0 (zs.map (Value.int .i64)) = (zs ++ List.replicate (N - zs.length) 0).map (Value.int .i64) := by
  simp [splice]
theorem turned_head (zs : List Int) (N : Nat) (h : zs.length < N) : Turned N 0 (zs ++ List.replicate (N - zs.length) 0) zs := by
  intro i hi
  rw [Nat.zero_add, Nat.mod_eq_of_lt (by omega), List.getElem?_append_left hi]
theorem widened {w w3 : World} {b N most : Nat} {zs : List Int} {n c f : Nat} {sp : Option Addr} (hB : RB w b (.slice sp n c) f zs.length most) (hz : zs.length < N) (hN : N ≤ most) (hm : most ≤ 65536) (hb3 : Below w.heap.size w w3)
    (h3 : Blk w3 w.heap.size (splice ((List.replicate N (0 : Int)).map (Value.int .i64)) 0 (zs.map (Value.int .i64))) 2) :
    Widened w b zs most (.returned (.tuple #[])) ((w3.setCell ⟨b, 0, none⟩ (.slice (some ⟨w.heap.size, 0, none⟩) N N)).setCell ⟨b, 1, none⟩ (.int .i64 0)) := by
  have hbw : b < w.heap.size := hB.lt
  refine ⟨w.heap.size, N, rfl, Nat.le_refl _, hz, ⟨?_, ?_, ?_, by omega, by omega, Nat.le_refl _, by unfold maxLen; omega, hN, hm, by omega, by omega, turned_head zs N hz⟩, out_two hb3⟩
  · have h := hB.kept hb3
    exact (h.set 0 (.slice (some ⟨w.heap.size, 0, none⟩) N N)).set 1 (.int .i64 0)
  · rw [splice_row zs N hz] at h3
    exact ⟨[], by rw [List.append_nil]; exact (h3.far (p := ⟨b, 0, none⟩) (by simp; omega) _).far (p := ⟨b, 1, none⟩) (by simp; omega) _, rfl⟩
  · simp; omega

set_option maxRecDepth 100000 in
set_option maxHeartbeats 1000000 in
theorem widen_to (b n c f most N : Nat) (sp : Option Addr) (zs : List Int) (w : World) (hB : RB w b (.slice sp n c) f zs.length most) (hn : n ≤ 65536) (hm : most ≤ 65536) (hz : zs.length < N) (hN : N ≤ most)
    (hmx : IntKind.i64.wrap (2 * (n : Int)) = 2 * (n : Int)) (hcase : (n = 0 ∧ N = 1) ∨ (1 ≤ n ∧ 2 * n ≤ most ∧ N = 2 * n) ∨ (1 ≤ n ∧ most < 2 * n ∧ N = most))
    (hS : Hid (∀ W, Below w.heap.size w W → Calls Try.prog 16 #[.pointer (some ⟨b, 0, none⟩)] W (GivesRow W zs))) :
    Calls Try.prog 22 #[.pointer (some ⟨b, 0, none⟩)] w (Widened w b zs most) := by
  have c0 := hB.c0
  have c3 := hB.c3
  have hbw : b < w.heap.size := hB.lt
  go_enter Try.func22, Try.ntmps22
  go_upto_region 0 with (fail)
  go_cut [2] (fun v wx => Made w N v wx)
  case first =>
    have mk := make_k elem N (by omega) w.drew
    rcases hcase with ⟨rfl, rfl⟩ | ⟨h1, h2, rfl⟩ | ⟨h1, h2, rfl⟩
    · rw [Int.natCast_one] at mk
      have k1 : (1 : Int) ≤ (most : Int) := by omega
      go_region_held3 (fun w' => w'.cell? ⟨b, 0, none⟩ = some (.slice sp 0 c) ∧ w'.cell? ⟨b, 3, none⟩ = some (.int .i64 (most : Int))) (go_keep) (fail)
      go_wp2_with fail
      go_meet
      case rel => exact made_at w 1
    · rw [show (((2 * n : Nat)) : Int) = 2 * (n : Int) by omega] at mk
      have k1 : (1 : Int) ≤ (n : Int) := by omega
      have k2 : (1 : Int) ≤ 2 * (n : Int) := by omega
      have k3 : 2 * (n : Int) ≤ (most : Int) := by omega
      go_region_held3 (fun w' => w'.cell? ⟨b, 0, none⟩ = some (.slice sp n c) ∧ w'.cell? ⟨b, 3, none⟩ = some (.int .i64 (most : Int))) (go_keep) (fail)
      go_wp2_with fail
      go_meet
      case rel => exact made_at w (2 * n)
    · have k1 : (1 : Int) ≤ (n : Int) := by omega
      have k2 : (1 : Int) ≤ 2 * (n : Int) := by omega
      have k3 : (N : Int) ≤ 2 * (n : Int) := by omega
      go_region_held3 (fun w' => w'.cell? ⟨b, 0, none⟩ = some (.slice sp n c) ∧ w'.cell? ⟨b, 3, none⟩ = some (.int .i64 (N : Int))) (go_keep) (fail)
      go_wp2_with fail
      go_meet
      case rel => exact made_at w N
  case rest =>
    obtain ⟨rfl, hM, hb1⟩ := hcut
    clear hcase
    go_wp2_with (first
      | (go_at_call 16; refine (hS.out _ hb1).mono ?_; rintro e w2 ⟨gs, cs, rfl, ho, hb2⟩; have hb12 := hb1.trans (hb2.mono hb1.size))
      | (refine wpList_copy_splice (o := ⟨some 19, _, _, _, _, _⟩) rfl (.tmp 16) (.tmp 18) 25 25 rfl 2 Try.underlying25 info_size _ _ _ _ _ _ rfl rfl w.heap.size 0 ((List.replicate N (0 : Int)).map (Value.int .i64)) 2 (hM.kept hb2) (zs.map (Value.int .i64)) (copy_len zs.length N hz rfl) (copy_from (N := N) ho) (copy_fits zs N hz) ints_one w.heap.size w hb12 (Nat.le_refl _) ?_; intro w3 hM3 hb3; have f0 := (hB.kept hb3).frozen 0; have f1 := (hB.kept hb3).frozen 1; have x0 := (hB.kept hb3).cell 0 rfl; have x1 := (hB.kept hb3).cell 1 rfl))
    exact bodyPost_ret (v := .tuple #[]) (by simp [results, Try.results22, go_sem]) rfl (widened hB hz hN hm hb3 hM3.out)

theorem RF.slot {w : World} {b g n c f most i : Nat} {cur zs : List Int} (h : RF w b g n c f cur zs most) (hi : i < n) : w.cell? ⟨g, (f + i) % n, none⟩ = some (.int .i64 (cur[(f + i) % n]?.getD 0)) := by
  obtain ⟨hB, hG, hc, hgb, h1, hnc, hcm, hnm, hm, hf, hz, ht⟩ := h
  exact hG.cell (by have := Nat.mod_lt (f + i) (show 0 < n by omega); omega)
theorem RF.item {w : World} {b g n c f most i : Nat} {cur zs : List Int} (h : RF w b g n c f cur zs most) (hi : i < zs.length) : w.cell? ⟨g, (f + i) % n, none⟩ = some (.int .i64 (zs[i]?.getD 0)) := by
  have h1 := h.slot (i := i) (by have := h.2.2.2.2.2.2.2.2.2.2.1; omega)
  rw [h.2.2.2.2.2.2.2.2.2.2.2 i hi] at h1
  exact h1
theorem RF.kept {w w' : World} {b g n c f most : Nat} {cur zs : List Int} (h : RF w b g n c f cur zs most) (o : Below w.heap.size w w') : RF w' b g n c f cur zs most := ⟨h.1.kept o, h.2.1.kept o, h.2.2⟩
theorem RF.out {F : Nat → Prop} {w w' : World} {b g n c f most : Nat} {cur zs : List Int} (h : RF w b g n c f cur zs most) (o : Out F w w') (hb : ¬ F b) (hg : ¬ F g) : RF w' b g n c f cur zs most := ⟨h.1.out o hb, h.2.1.out o hg, h.2.2⟩

theorem widen_none (b most : Nat) (w : World) (h : RE w b most) (hm : 0 < most) :
    Calls Try.prog 22 #[.pointer (some ⟨b, 0, none⟩)] w (Widened w b [] most) :=
  widen_to b 0 0 0 most 1 none [] w h.1 (by omega) h.2 (by simp) (by omega) (by rfl) (.inl ⟨rfl, rfl⟩) (Lib.hid fun W hW => slice_none b W (cell_kept hW h.1.c2))
theorem widen_some (b g n c f most : Nat) (cur zs : List Int) (w : World) (h : RF w b g n c f cur zs most) (hz : zs.length = n) (hm : n < most) :
    Calls Try.prog 22 #[.pointer (some ⟨b, 0, none⟩)] w (Widened w b zs most) := by
  have h' := h
  obtain ⟨hB, hG, hc, hgb, h1, hnc, hcm, hnm, hmm, hf, hzn, ht⟩ := h
  have hS : Hid (∀ W, Below w.heap.size w W → Calls Try.prog 16 #[.pointer (some ⟨b, 0, none⟩)] W (GivesRow W zs)) := Lib.hid fun W hW => by
    have hW' := h'.kept hW
    exact slice_some b g n c f zs.length zs W hW'.1.c0 hW'.1.c1 hW'.1.c2 h1 (by omega) (by omega) (by omega) (by omega) rfl (fun i hi => hW'.item hi)
  by_cases h2 : 2 * n ≤ most
  · exact widen_to b n c f most (2 * n) _ zs w hB (by omega) hmm (by omega) h2 (IntWalk.i64_in _ (by omega)) (.inr (.inl ⟨h1, h2, rfl⟩)) hS
  · exact widen_to b n c f most most _ zs w hB (by omega) hmm (by omega) (Nat.le_refl _) (IntWalk.i64_in _ (by omega)) (.inr (.inr ⟨h1, by omega, rfl⟩)) hS
end R8
end Go.Proofs.Ytamcakckbabeiaa
