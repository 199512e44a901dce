/- The document's own answers of layer 6: Push, walked. -/
import Derived.Test.YtmdlbjeiokadaaaRef6A
namespace Go.Proofs.Ytmdlbjeiokadaaa
open Go.RowKit
set_option linter.unusedVariables false

set_option maxRecDepth 100000 in
set_option maxHeartbeats 2000000 in
theorem refPush6_any (g c N : Nat) (A : Option Addr) (x : Ev) (L : List Ev) (w : World) (h : LstE w g A L) (hN : L.length = N) (hc : N ≤ c) (hA : A = none → c = 0) (hl : N ≤ 1000000) :
    Calls Try.prog 13 #[.slice A N c, aggE x] w (PushedE w (insE L x) (N + 1)) := by
  obtain ⟨x0, x1, x2, x3⟩ := x
  have BA := new_alloc (new_refl w) (.cells #[.int .i64 x0, .int .i64 x1, .int .i64 x2, .int .i64 x3] 37)
  have A0 := At.new w [.int .i64 x0, .int .i64 x1, .int .i64 x2, .int .i64 x3] 37
  have H1 := Lib.hid (h.kept BA)
  have HN := Lib.hid hN
  clear h hN
  go_enter Try.func13, Try.ntmps13
  go_wp2_with fail
  generalize hW : w.alloc (.cells #[.int .i64 x0, .int .i64 x1, .int .i64 x2, .int .i64 x3] 37) = W at BA A0 H1 ⊢
  clear hW
  have y0 := A0.cell 0 rfl
  have y1 := A0.cell 1 rfl
  have y2 := A0.cell 2 rfl
  have y3 := A0.cell 3 rfl
  go_loopg [5] N (fun gh vi wr => CutInv W L x0 N gh vi wr)
  case atStart => exact ⟨0, 0, rfl, rfl, by omega, fun j hj => absurd hj (Nat.not_lt_zero _), rfl⟩
  case round =>
    obtain ⟨k, m, rfl, rfl, hk, ha, rfl⟩ := hrel
    have hnl := HN.out
    have k0 : (0 : Int) ≤ (k : Int) := by omega
    by_cases hgo : k < N ∧ (nthE L k).a ≤ x0
    · obtain ⟨hlt, hle⟩ := hgo
      rcases H1.out with ⟨_, e⟩ | ⟨off, rfl, hF⟩
      · rw [e] at hnl; simp at hnl; omega
      obtain ⟨a0, _, _, _⟩ := hF k (by omega)
      have HQ := Lib.hid ha
      have d1 : decide ((k : Int) < (N : Int)) = true := decide_eq_true (by omega)
      have d1' : decide (k < N) = true := decide_eq_true hlt
      have d2 : decide ((nthE L k).a ≤ x0) = true := decide_eq_true hle
      have k1 : (k : Int) < (N : Int) := by omega
      have k2 : (k : Int) ≤ 1000000 := by omega
      clear hF ha hnl
      go_wp2_with fail
      go_quiet (fail)
      go_wp2_with fail
      go_roundg (N - (k + 1))
      case measure => omega
      case rel =>
        refine ⟨k + 1, m + nq, by go_num, rfl, by omega, fun j hj => ?_, rfl⟩
        by_cases e : j = k
        · subst e; exact hle
        · exact HQ.out j (by omega)
    · have hcut : Hid (cutl (L.map Ev.a) x0 = k) := Lib.hid (cut_at (by omega) ha (fun hlt => by
        rcases Int.lt_or_le x0 (nthE L k).a with q | q
        · exact q
        · exact absurd ⟨by omega, q⟩ hgo))
      have HZ1 : Hid (([] : List Ev).length + (L.take k).length ≤ 1000000000) := Lib.hid (by simp; omega)
      have HZ2 : Hid (([] ++ L.take k : List Ev).length + 1 = k + 1) := Lib.hid (by simp; omega)
      have HZ3 : Hid (([] ++ L.take k ++ [⟨x0, x1, x2, x3⟩] : List Ev).length + (L.drop k).length ≤ 1000000000) := Lib.hid (by simp; omega)
      have hy : k + 1 ≤ 1000000000 := by omega
      rcases H1.out with ⟨rfl, e⟩ | ⟨off, rfl, hF⟩
      · subst e
        simp at hnl
        subst hnl
        have hc0 := hA rfl
        subst hc0
        obtain rfl : k = 0 := by omega
        have S1 : Hid (SrcE encE W none 0 0 (([] : List Ev).take 0)) := Lib.hid (src_nil (fun _ => rfl))
        have S2 : Hid (SrcE encE W none 0 0 (([] : List Ev).drop 0)) := Lib.hid (src_nil (fun _ => rfl))
        clear H1 ha hgo hA hc hk hl k0
        have d1 : decide (((0 : Nat) : Int) < ((0 : Nat) : Int)) = false := rfl
        go_wp2_with fail
        go_quiet (fail)
        go_wp2_with fail
        have BV := new_draw (new_draw (new_refl W) m) nq
        have yv := A0.kept BV
        have S1v := Lib.hid (S1.out.kept BV)
        have S2v := Lib.hid (S2.out.kept BV)
        generalize (W.drewN m).drewN nq = V at BV yv S1v S2v ⊢
        have v0 := yv.cell 0 rfl
        have v1 := yv.cell 1 rfl
        have v2 := yv.cell 2 rfl
        have v3 := yv.cell 3 rfl
        have lv := yv.1
        clear y0 y1 y2 y3 A0 S1 S2
        go_region_held3 (fun w' => w'.cell? ⟨w.heap.size, 0, none⟩ = some (.int .i64 x0) ∧ w'.cell? ⟨w.heap.size, 1, none⟩ = some (.int .i64 x1) ∧ w'.cell? ⟨w.heap.size, 2, none⟩ = some (.int .i64 x2) ∧ w'.cell? ⟨w.heap.size, 3, none⟩ = some (.int .i64 x3))
          (first | exact ⟨cell_kept BZ v0, cell_kept BZ v1, cell_kept BZ v2, cell_kept BZ v3⟩ | go_keep)
          (first
            | (refine step_catE encE_is strE (o := ⟨some 26, _, _, _, _, _⟩) rfl _ _ rfl V.heap.size _ [] _ _ _ (([] : List Ev).take 0) rfl rfl ?_ ?_ HZ1.out ?_ _ rfl ?_
               · first | exact S1v.out.kept (new_alloc (new_drew (new_refl V)) _) | exact S1v.out.kept (new_alloc (new_alloc (new_drew (new_refl V)) _) _)
               · first | exact own_noneE V.drew _ (Nat.le_refl _) | exact (own_noneE V.drew _ (Nat.le_refl _)).alloc _ | exact own_noneE2 V.drew _ _ (Nat.le_refl _)
               · first | exact alloc_le (W := V.drew) (Nat.le_refl _) _ | exact alloc_le (alloc_le (W := V.drew) (Nat.le_refl _) _) _
               intro v26 w26 O26 G26 hat26
               have BZ : Below V.heap.size V w26 := by
                 first
                 | exact (new_alloc (new_drew (new_refl V)) _).trans (below_pushE (own_noneE V.drew _ (Nat.le_refl _)) G26 (alloc_le (W := V.drew) (Nat.le_refl _) _))
                 | exact (new_alloc (new_alloc (new_drew (new_refl V)) _) _).trans (below_pushE ((own_noneE V.drew _ (Nat.le_refl _)).alloc _) G26 (alloc_le (alloc_le (W := V.drew) (Nat.le_refl _) _) _))
                 | exact (new_alloc (new_alloc (new_drew (new_refl V)) _) _).trans (below_pushE (own_noneE2 V.drew _ _ (Nat.le_refl _)) G26 (alloc_le (alloc_le (W := V.drew) (Nat.le_refl _) _) _)))
            | (refine step_pushE encE_is strE (o := ⟨some 29, _, _, _, _, _⟩) rfl _ _ rfl V.heap.size _ ([] ++ ([] : List Ev).take 0) (⟨x0, x1, x2, x3⟩ : Ev) _ 1 rfl rfl ?_ ?_ (0 + 1) HZ2.out hy ?_ _ rfl ?_
               · first
                 | exact At.new w26 (encE ⟨x0, x1, x2, x3⟩) _
                 | exact At.grown G26 (at_behind V _ x0 x1 x2 x3 _) (far_nextE (Nat.lt_succ_self _))
                 | exact At.grown G26 (at_ahead V _ x0 x1 x2 x3 _) (far_prevE (Nat.lt_succ_self _))
               · first | exact O26.alloc _ | exact O26
               · first | exact alloc_le BZ.size _ | exact BZ.size
               intro g29 c29 w29 O29 G29 hat29 hlt29
               replace BZ : Below V.heap.size V w29 := by
                 first
                 | exact (BZ.alloc BZ.size _).trans (below_pushE (O26.alloc _) G29 (alloc_le BZ.size _))
                 | exact BZ.trans (below_pushE O26 G29 BZ.size)
               clear G26 G29 hat26 hat29 O26)
            | (refine step_catE encE_is strE (o := ⟨some 33, _, _, _, _, _⟩) rfl _ _ rfl V.heap.size (.slice (some ⟨g29, 0, none⟩) (0 + 1) c29) ([] ++ ([] : List Ev).take 0 ++ [(⟨x0, x1, x2, x3⟩ : Ev)]) _ _ _ (([] : List Ev).drop 0) rfl rfl ?_ O29 HZ3.out BZ.size _ rfl ?_
               · exact S2v.out.kept BZ
               intro v33 w33 O33 G33 hat33
               replace BZ : Below V.heap.size V w33 := BZ.trans (below_pushE O29 G33 BZ.size)))
        all_goals
          go_wp2_with fail
          go_ret
          exact pushed_fin (new_then BA BV) BZ O33 hcut.out (by rw [HN.out])
      · have HF := Lib.hid hF
        have c1 : (k : Int) ≤ (c : Int) := by omega
        have c2 : (k : Int) ≤ (N : Int) := by omega
        have c3 : (N : Int) ≤ (c : Int) := by omega
        have S1 : Hid (SrcE encE W (some ⟨g, off, none⟩) k c (L.take k)) := Lib.hid (src_take (by omega) hF)
        by_cases hlt : k < N
        · have hgt : x0 < (nthE L k).a := by
            rcases Int.lt_or_le x0 (nthE L k).a with q | q
            · exact q
            · exact absurd ⟨hlt, q⟩ hgo
          have S2 : Hid (SrcE encE W (some ⟨g, off + k * 4, none⟩) (N - k) (c - k) (L.drop k)) := Lib.hid (src_drop (by omega) hF)
          obtain ⟨a0, _, _, _⟩ := hF k (by omega)
          have d1 : decide ((k : Int) < (N : Int)) = true := decide_eq_true (by omega)
          have d1' : decide (k < N) = true := decide_eq_true hlt
          have d2 : decide ((nthE L k).a ≤ x0) = false := decide_eq_false (by omega)
          have k1 : (k : Int) < (N : Int) := by omega
          have k2 : ¬ c = k := by omega
          have k3 : ¬ c - k = 0 := by omega
          clear hF ha hgo hA hnl
          go_wp2_with fail
          go_quiet (fail)
          go_wp2_with fail
          have BV := new_draw (new_draw (new_refl W) m) nq
          have yv := A0.kept BV
          have S1v := Lib.hid (S1.out.kept BV)
          have S2v := Lib.hid (S2.out.kept BV)
          generalize (W.drewN m).drewN nq = V at BV yv S1v S2v ⊢
          have v0 := yv.cell 0 rfl
          have v1 := yv.cell 1 rfl
          have v2 := yv.cell 2 rfl
          have v3 := yv.cell 3 rfl
          have lv := yv.1
          clear y0 y1 y2 y3 A0 S1 S2
          go_region_held3 (fun w' => w'.cell? ⟨w.heap.size, 0, none⟩ = some (.int .i64 x0) ∧ w'.cell? ⟨w.heap.size, 1, none⟩ = some (.int .i64 x1) ∧ w'.cell? ⟨w.heap.size, 2, none⟩ = some (.int .i64 x2) ∧ w'.cell? ⟨w.heap.size, 3, none⟩ = some (.int .i64 x3))
            (first | exact ⟨cell_kept BZ v0, cell_kept BZ v1, cell_kept BZ v2, cell_kept BZ v3⟩ | go_keep)
            (first
              | (refine step_catE encE_is strE (o := ⟨some 26, _, _, _, _, _⟩) rfl _ _ rfl V.heap.size _ [] _ _ _ (L.take k) rfl rfl ?_ ?_ HZ1.out ?_ _ rfl ?_
                 · first | exact S1v.out.kept (new_alloc (new_drew (new_refl V)) _) | exact S1v.out.kept (new_alloc (new_alloc (new_drew (new_refl V)) _) _)
                 · first | exact own_noneE V.drew _ (Nat.le_refl _) | exact (own_noneE V.drew _ (Nat.le_refl _)).alloc _ | exact own_noneE2 V.drew _ _ (Nat.le_refl _)
                 · first | exact alloc_le (W := V.drew) (Nat.le_refl _) _ | exact alloc_le (alloc_le (W := V.drew) (Nat.le_refl _) _) _
                 intro v26 w26 O26 G26 hat26
                 have BZ : Below V.heap.size V w26 := by
                   first
                   | exact (new_alloc (new_drew (new_refl V)) _).trans (below_pushE (own_noneE V.drew _ (Nat.le_refl _)) G26 (alloc_le (W := V.drew) (Nat.le_refl _) _))
                   | exact (new_alloc (new_alloc (new_drew (new_refl V)) _) _).trans (below_pushE ((own_noneE V.drew _ (Nat.le_refl _)).alloc _) G26 (alloc_le (alloc_le (W := V.drew) (Nat.le_refl _) _) _))
                   | exact (new_alloc (new_alloc (new_drew (new_refl V)) _) _).trans (below_pushE (own_noneE2 V.drew _ _ (Nat.le_refl _)) G26 (alloc_le (alloc_le (W := V.drew) (Nat.le_refl _) _) _)))
              | (refine step_pushE encE_is strE (o := ⟨some 29, _, _, _, _, _⟩) rfl _ _ rfl V.heap.size _ ([] ++ L.take k) (⟨x0, x1, x2, x3⟩ : Ev) _ 1 rfl rfl ?_ ?_ (k + 1) HZ2.out hy ?_ _ rfl ?_
                 · first
                   | exact At.new w26 (encE ⟨x0, x1, x2, x3⟩) _
                   | exact At.grown G26 (at_behind V _ x0 x1 x2 x3 _) (far_nextE (Nat.lt_succ_self _))
                   | exact At.grown G26 (at_ahead V _ x0 x1 x2 x3 _) (far_prevE (Nat.lt_succ_self _))
                 · first | exact O26.alloc _ | exact O26
                 · first | exact alloc_le BZ.size _ | exact BZ.size
                 intro g29 c29 w29 O29 G29 hat29 hlt29
                 replace BZ : Below V.heap.size V w29 := by
                   first
                   | exact (BZ.alloc BZ.size _).trans (below_pushE (O26.alloc _) G29 (alloc_le BZ.size _))
                   | exact BZ.trans (below_pushE O26 G29 BZ.size)
                 clear G26 G29 hat26 hat29 O26)
              | (refine step_catE encE_is strE (o := ⟨some 33, _, _, _, _, _⟩) rfl _ _ rfl V.heap.size (.slice (some ⟨g29, 0, none⟩) (k + 1) c29) ([] ++ L.take k ++ [(⟨x0, x1, x2, x3⟩ : Ev)]) _ _ _ (L.drop k) rfl rfl ?_ O29 HZ3.out BZ.size _ rfl ?_
                 · exact S2v.out.kept BZ
                 intro v33 w33 O33 G33 hat33
                 replace BZ : Below V.heap.size V w33 := BZ.trans (below_pushE O29 G33 BZ.size)))
          all_goals
            go_wp2_with fail
            go_ret
            exact pushed_fin (new_then BA BV) BZ O33 hcut.out (by rw [HN.out])
        · obtain rfl : k = N := by omega
          have d1 : decide ((k : Int) < (k : Int)) = false := decide_eq_false (by omega)
          have d1' : decide (k < k) = false := decide_eq_false (by omega)
          have ed : L.drop k = [] := List.drop_of_length_le (by omega)
          by_cases hck : c = k
          · subst hck
            have S2 : Hid (SrcE encE W (some ⟨g, off, none⟩) 0 0 (L.drop c)) := Lib.hid (by rw [ed]; exact src_nil (fun h => by cases h))
            clear hF ha hgo hA hnl ed
            go_wp2_with fail
            go_quiet (fail)
            go_wp2_with fail
            have BV := new_draw (new_draw (new_refl W) m) nq
            have yv := A0.kept BV
            have S1v := Lib.hid (S1.out.kept BV)
            have S2v := Lib.hid (S2.out.kept BV)
            generalize (W.drewN m).drewN nq = V at BV yv S1v S2v ⊢
            have v0 := yv.cell 0 rfl
            have v1 := yv.cell 1 rfl
            have v2 := yv.cell 2 rfl
            have v3 := yv.cell 3 rfl
            have lv := yv.1
            clear y0 y1 y2 y3 A0 S1 S2
            go_region_held3 (fun w' => w'.cell? ⟨w.heap.size, 0, none⟩ = some (.int .i64 x0) ∧ w'.cell? ⟨w.heap.size, 1, none⟩ = some (.int .i64 x1) ∧ w'.cell? ⟨w.heap.size, 2, none⟩ = some (.int .i64 x2) ∧ w'.cell? ⟨w.heap.size, 3, none⟩ = some (.int .i64 x3))
              (first | exact ⟨cell_kept BZ v0, cell_kept BZ v1, cell_kept BZ v2, cell_kept BZ v3⟩ | go_keep)
              (first
                | (refine step_catE encE_is strE (o := ⟨some 26, _, _, _, _, _⟩) rfl _ _ rfl V.heap.size _ [] _ _ _ ((L).take c) rfl rfl ?_ ?_ HZ1.out ?_ _ rfl ?_
                   · first | exact S1v.out.kept (new_alloc (new_drew (new_refl V)) _) | exact S1v.out.kept (new_alloc (new_alloc (new_drew (new_refl V)) _) _)
                   · first | exact own_noneE V.drew _ (Nat.le_refl _) | exact (own_noneE V.drew _ (Nat.le_refl _)).alloc _ | exact own_noneE2 V.drew _ _ (Nat.le_refl _)
                   · first | exact alloc_le (W := V.drew) (Nat.le_refl _) _ | exact alloc_le (alloc_le (W := V.drew) (Nat.le_refl _) _) _
                   intro v26 w26 O26 G26 hat26
                   have BZ : Below V.heap.size V w26 := by
                     first
                     | exact (new_alloc (new_drew (new_refl V)) _).trans (below_pushE (own_noneE V.drew _ (Nat.le_refl _)) G26 (alloc_le (W := V.drew) (Nat.le_refl _) _))
                     | exact (new_alloc (new_alloc (new_drew (new_refl V)) _) _).trans (below_pushE ((own_noneE V.drew _ (Nat.le_refl _)).alloc _) G26 (alloc_le (alloc_le (W := V.drew) (Nat.le_refl _) _) _))
                     | exact (new_alloc (new_alloc (new_drew (new_refl V)) _) _).trans (below_pushE (own_noneE2 V.drew _ _ (Nat.le_refl _)) G26 (alloc_le (alloc_le (W := V.drew) (Nat.le_refl _) _) _)))
                | (refine step_pushE encE_is strE (o := ⟨some 29, _, _, _, _, _⟩) rfl _ _ rfl V.heap.size _ ([] ++ (L).take c) (⟨x0, x1, x2, x3⟩ : Ev) _ 1 rfl rfl ?_ ?_ (c + 1) HZ2.out hy ?_ _ rfl ?_
                   · first
                     | exact At.new w26 (encE ⟨x0, x1, x2, x3⟩) _
                     | exact At.grown G26 (at_behind V _ x0 x1 x2 x3 _) (far_nextE (Nat.lt_succ_self _))
                     | exact At.grown G26 (at_ahead V _ x0 x1 x2 x3 _) (far_prevE (Nat.lt_succ_self _))
                   · first | exact O26.alloc _ | exact O26
                   · first | exact alloc_le BZ.size _ | exact BZ.size
                   intro g29 c29 w29 O29 G29 hat29 hlt29
                   replace BZ : Below V.heap.size V w29 := by
                     first
                     | exact (BZ.alloc BZ.size _).trans (below_pushE (O26.alloc _) G29 (alloc_le BZ.size _))
                     | exact BZ.trans (below_pushE O26 G29 BZ.size)
                   clear G26 G29 hat26 hat29 O26)
                | (refine step_catE encE_is strE (o := ⟨some 33, _, _, _, _, _⟩) rfl _ _ rfl V.heap.size (.slice (some ⟨g29, 0, none⟩) (c + 1) c29) ([] ++ (L).take c ++ [(⟨x0, x1, x2, x3⟩ : Ev)]) _ _ _ ((L).drop c) rfl rfl ?_ O29 HZ3.out BZ.size _ rfl ?_
                   · exact S2v.out.kept BZ
                   intro v33 w33 O33 G33 hat33
                   replace BZ : Below V.heap.size V w33 := BZ.trans (below_pushE O29 G33 BZ.size)))
            all_goals
              go_wp2_with fail
              go_ret
              exact pushed_fin (new_then BA BV) BZ O33 hcut.out (by rw [HN.out])
          · have S2 : Hid (SrcE encE W (some ⟨g, off + k * 4, none⟩) 0 (c - k) (L.drop k)) := Lib.hid (by rw [ed]; exact src_nil (fun h => by cases h))
            have k3 : ¬ c - k = 0 := by omega
            clear hF ha hgo hA hnl ed
            go_wp2_with fail
            go_quiet (fail)
            go_wp2_with fail
            have BV := new_draw (new_draw (new_refl W) m) nq
            have yv := A0.kept BV
            have S1v := Lib.hid (S1.out.kept BV)
            have S2v := Lib.hid (S2.out.kept BV)
            generalize (W.drewN m).drewN nq = V at BV yv S1v S2v ⊢
            have v0 := yv.cell 0 rfl
            have v1 := yv.cell 1 rfl
            have v2 := yv.cell 2 rfl
            have v3 := yv.cell 3 rfl
            have lv := yv.1
            clear y0 y1 y2 y3 A0 S1 S2
            go_region_held3 (fun w' => w'.cell? ⟨w.heap.size, 0, none⟩ = some (.int .i64 x0) ∧ w'.cell? ⟨w.heap.size, 1, none⟩ = some (.int .i64 x1) ∧ w'.cell? ⟨w.heap.size, 2, none⟩ = some (.int .i64 x2) ∧ w'.cell? ⟨w.heap.size, 3, none⟩ = some (.int .i64 x3))
              (first | exact ⟨cell_kept BZ v0, cell_kept BZ v1, cell_kept BZ v2, cell_kept BZ v3⟩ | go_keep)
              (first
                | (refine step_catE encE_is strE (o := ⟨some 26, _, _, _, _, _⟩) rfl _ _ rfl V.heap.size _ [] _ _ _ (L.take k) rfl rfl ?_ ?_ HZ1.out ?_ _ rfl ?_
                   · first | exact S1v.out.kept (new_alloc (new_drew (new_refl V)) _) | exact S1v.out.kept (new_alloc (new_alloc (new_drew (new_refl V)) _) _)
                   · first | exact own_noneE V.drew _ (Nat.le_refl _) | exact (own_noneE V.drew _ (Nat.le_refl _)).alloc _ | exact own_noneE2 V.drew _ _ (Nat.le_refl _)
                   · first | exact alloc_le (W := V.drew) (Nat.le_refl _) _ | exact alloc_le (alloc_le (W := V.drew) (Nat.le_refl _) _) _
                   intro v26 w26 O26 G26 hat26
                   have BZ : Below V.heap.size V w26 := by
                     first
                     | exact (new_alloc (new_drew (new_refl V)) _).trans (below_pushE (own_noneE V.drew _ (Nat.le_refl _)) G26 (alloc_le (W := V.drew) (Nat.le_refl _) _))
                     | exact (new_alloc (new_alloc (new_drew (new_refl V)) _) _).trans (below_pushE ((own_noneE V.drew _ (Nat.le_refl _)).alloc _) G26 (alloc_le (alloc_le (W := V.drew) (Nat.le_refl _) _) _))
                     | exact (new_alloc (new_alloc (new_drew (new_refl V)) _) _).trans (below_pushE (own_noneE2 V.drew _ _ (Nat.le_refl _)) G26 (alloc_le (alloc_le (W := V.drew) (Nat.le_refl _) _) _)))
                | (refine step_pushE encE_is strE (o := ⟨some 29, _, _, _, _, _⟩) rfl _ _ rfl V.heap.size _ ([] ++ L.take k) (⟨x0, x1, x2, x3⟩ : Ev) _ 1 rfl rfl ?_ ?_ (k + 1) HZ2.out hy ?_ _ rfl ?_
                   · first
                     | exact At.new w26 (encE ⟨x0, x1, x2, x3⟩) _
                     | exact At.grown G26 (at_behind V _ x0 x1 x2 x3 _) (far_nextE (Nat.lt_succ_self _))
                     | exact At.grown G26 (at_ahead V _ x0 x1 x2 x3 _) (far_prevE (Nat.lt_succ_self _))
                   · first | exact O26.alloc _ | exact O26
                   · first | exact alloc_le BZ.size _ | exact BZ.size
                   intro g29 c29 w29 O29 G29 hat29 hlt29
                   replace BZ : Below V.heap.size V w29 := by
                     first
                     | exact (BZ.alloc BZ.size _).trans (below_pushE (O26.alloc _) G29 (alloc_le BZ.size _))
                     | exact BZ.trans (below_pushE O26 G29 BZ.size)
                   clear G26 G29 hat26 hat29 O26)
                | (refine step_catE encE_is strE (o := ⟨some 33, _, _, _, _, _⟩) rfl _ _ rfl V.heap.size (.slice (some ⟨g29, 0, none⟩) (k + 1) c29) ([] ++ L.take k ++ [(⟨x0, x1, x2, x3⟩ : Ev)]) _ _ _ (L.drop k) rfl rfl ?_ O29 HZ3.out BZ.size _ rfl ?_
                   · exact S2v.out.kept BZ
                   intro v33 w33 O33 G33 hat33
                   replace BZ : Below V.heap.size V w33 := BZ.trans (below_pushE O29 G33 BZ.size)))
            all_goals
              go_wp2_with fail
              go_ret
              exact pushed_fin (new_then BA BV) BZ O33 hcut.out (by rw [HN.out])
end Go.Proofs.Ytmdlbjeiokadaaa
