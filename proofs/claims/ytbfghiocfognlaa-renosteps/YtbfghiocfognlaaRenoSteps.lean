/- For every window within its ends (by the document's own Within), any bytes that were acknowledged, any mss and any share: reno.Grow never lets it fall, reno.Cut never lets it rise, leaves it two segments at least where it had them, and sets Thresh to what Cwnd is then; and the chapter's example holds: RenoSteps returns true and changes nothing that was there. No conditions. -/
import Derived.Test.YtbfghiocfognlaaKit
import Derived.Test.YtbfghiocfognlaaRenI
import Derived.Test.YtbfghiocfognlaaRegH
import Derived.Deep.RegionHeld3
import Derived.Deep.DeepCutAuto
import Derived.Deep.Light
namespace Go.Proofs.Ytbfghiocfognlaa
namespace renoSteps
open Go.ChangeShapes Go.WideShapes Go.ChangeAt Go.RowKit
open Go.ChangeMaps (open_string shut_string)
set_option linter.unusedVariables false

theorem five_kept {w w1 : World} {g h : Nat} {a b c d e : Value} (B : Below w.heap.size w w1)
    (k : w.cell? ⟨g, 0, none⟩ = some a ∧ w.cell? ⟨g, 1, none⟩ = some b ∧ w.cell? ⟨g, 2, none⟩ = some c ∧ w.cell? ⟨h, 0, none⟩ = some d ∧ w.cell? ⟨h, 1, none⟩ = some e) :
    w1.cell? ⟨g, 0, none⟩ = some a ∧ w1.cell? ⟨g, 1, none⟩ = some b ∧ w1.cell? ⟨g, 2, none⟩ = some c ∧ w1.cell? ⟨h, 0, none⟩ = some d ∧ w1.cell? ⟨h, 1, none⟩ = some e :=
  ⟨cell_kept B k.1, cell_kept B k.2.1, cell_kept B k.2.2.1, cell_kept B k.2.2.2.1, cell_kept B k.2.2.2.2⟩
theorem own : ownKnob Try.prog.godebug = none := by kernel_rfl
theorem laidOut : laidOutB Try.prog = true := by kernel_rfl

set_option maxHeartbeats 4000000 in
set_option maxRecDepth 100000 in
theorem walk (a0x0 : Int) (a0x1 : Int) (a0x2 : Int) (a1 : Int) (a2x0 : Int) (a2x1 : Int) (w : World) (w0x0 : (Lit.int .i64 a0x0).wf = true) (w0x1 : (Lit.int .i64 a0x1).wf = true) (w0x2 : (Lit.int .i64 a0x2).wf = true) (w1 : (Lit.int .i64 a1).wf = true) (w2x0 : (Lit.int .i64 a2x0).wf = true) (w2x1 : (Lit.int .i64 a2x1).wf = true) :
    Calls Try.prog 4 #[.agg #[.int .i64 a0x0, .int .i64 a0x1, .int .i64 a0x2], .int .i64 a1, .agg #[.int .i64 a2x0, .int .i64 a2x1]] w fun e w' => e = .returned (.bool true) ∧ Below w.heap.size w w' := by
  obtain ⟨c, hcc⟩ : ∃ c : Rn, c = ⟨a0x0, a0x1, a0x2⟩ := ⟨_, rfl⟩
  obtain rfl : a0x0 = c.c := by rw [hcc]
  obtain rfl : a0x1 = c.t := by rw [hcc]
  obtain rfl : a0x2 = c.k := by rw [hcc]
  clear hcc w0x0 w0x1 w0x2 w1 w2x0 w2x1
  have ok := rnIn_ok c a2x0
  have eo := ok.own
  have up := rnGrow_up (rnIn c a2x0) a1 a2x0 a2x1
  have dn := rnD_bd a2x1 ok
  rw [eo] at up
  have hc := ok.c
  have hs := rnS_bd a2x0
  have IN : Hid (∀ w, Calls Try.prog 13 #[.agg #[.int .i64 c.c, .int .i64 c.t, .int .i64 c.k], .int .i64 a2x0] w fun e w' => e = .returned (rnW (rnIn c a2x0)) ∧ Below w.heap.size w w') := Lib.hid (fun w => within24R_any c a2x0 w)
  have GR : Hid (∀ w, Calls Try.prog 14 #[rnW (rnIn c a2x0), .int .i64 a1, .int .i64 a2x0, .int .i64 a2x1] w fun e w' => e = .returned (rnW (rnGrow (rnIn c a2x0) a1 a2x0 a2x1)) ∧ Below w.heap.size w w') := Lib.hid (fun w => grow24_any (rnIn c a2x0) a1 a2x0 a2x1 w)
  have CU : Hid (∀ w, Calls Try.prog 6 #[rnW (rnIn c a2x0), .int .i64 a2x1, .int .i64 a2x0] w fun e w' => e = .returned (.agg #[.int .i64 (rnD (rnIn c a2x0) a2x1 a2x0), .int .i64 (rnD (rnIn c a2x0) a2x1 a2x0), .int .i64 0]) ∧ Below w.heap.size w w') := Lib.hid (fun w => by
    have h := cut24_any (rnIn c a2x0) a2x1 a2x0 w
    unfold RnIs rnCut at h
    rw [eo] at h
    exact h)
  have SZ : Hid (∀ w, Calls Try.prog 15 #[.int .i64 a2x0] w fun e w' => e = .returned (.int .i64 (rnS a2x0)) ∧ w = w') := Lib.hid (fun w => size24_any a2x0 w)
  clear ok eo
  obtain ⟨d, hd⟩ : ∃ d, rnIn c a2x0 = d := ⟨_, rfl⟩
  rw [hd] at up dn hc IN GR CU
  obtain ⟨G, hG⟩ : ∃ G, rnGrow d a1 a2x0 a2x1 = G := ⟨_, rfl⟩
  rw [hG] at up GR
  obtain ⟨D, hD⟩ : ∃ D, rnD d a2x1 a2x0 = D := ⟨_, rfl⟩
  rw [hD] at dn CU
  obtain ⟨Z, hZ⟩ : ∃ Z, rnS a2x0 = Z := ⟨_, rfl⟩
  rw [hZ] at dn hc hs SZ
  have wT : IntKind.i64.wrap (2 * Z) = 2 * Z := by rw [IntKind.wrap_i64]; omega
  have wT2 : wrap64 (2 * Z) = 2 * Z := by unfold wrap64; omega
  obtain ⟨M, hM⟩ : ∃ M, min d.c (2 * Z) = M := ⟨_, rfl⟩
  rw [hM] at dn
  have HDN := Lib.hid dn
  have HUP := Lib.hid up
  have HM := Lib.hid hM
  have HWT := Lib.hid (And.intro wT wT2)
  clear hd hG hD hZ hc hs dn up hM wT wT2
  unfold rnW at IN GR CU
  have C0 := Lib.hid ((Blk.new w (rnV c) 23).alloc (.cells #[.int .i64 a2x0, .int .i64 a2x1] 29))
  have T0 := Lib.hid (Blk.newAt (alloc_size w (.cells #[.int .i64 c.c, .int .i64 c.t, .int .i64 c.k] 23)) [.int .i64 a2x0, .int .i64 a2x1] 29)
  have LO := Lib.hid (new_alloc (new_alloc (new_refl w) (.cells #[.int .i64 c.c, .int .i64 c.t, .int .i64 c.k] 23)) (.cells #[.int .i64 a2x0, .int .i64 a2x1] 29))
  go_enter Try.func4, Try.ntmps4
  have c0 := C0.out.cell 0 rfl; have c1 := C0.out.cell 1 rfl; have c2 := C0.out.cell 2 rfl; have f0 := C0.out.frozen 0; have f1 := C0.out.frozen 1; have f2 := C0.out.frozen 2
  go_upto_region 2 with (first
    | (go_at_call 13; refine (IN.out _).mono ?_; rintro e w1 ⟨rfl, B1⟩
       have K := Lib.hid (C0.out.kept B1)
       have V := Lib.hid (rn_set K.out d)
       have T1 := Lib.hid (farN3 (p := w.heap.size) (T0.out.kept B1) (show w.heap.size + 1 ≠ w.heap.size by omega) (.int .i64 d.c) (.int .i64 d.t) (.int .i64 d.k))
       have L1 := Lib.hid (lowN3 (new_then LO.out B1) (Nat.le_refl _) (.int .i64 d.c) (.int .i64 d.t) (.int .i64 d.k))
       have k0 := K.out.cell 0 rfl; have k1 := K.out.cell 1 rfl; have k2 := K.out.cell 2 rfl; have g0 := K.out.frozen 0; have g1 := K.out.frozen 1; have g2 := K.out.frozen 2))
  obtain ⟨W, hW⟩ : ∃ W, ((w1.setCell ⟨w.heap.size, 0, none⟩ (.int .i64 d.c)).setCell ⟨w.heap.size, 1, none⟩ (.int .i64 d.t)).setCell ⟨w.heap.size, 2, none⟩ (.int .i64 d.k) = W := ⟨_, rfl⟩
  replace V : Hid (Blk W w.heap.size (rnV d) 23) := Lib.hid (by rw [← hW]; exact V.out)
  replace T1 : Hid (Blk W (w.heap.size + 1) [.int .i64 a2x0, .int .i64 a2x1] 29) := Lib.hid (by rw [← hW]; exact T1.out)
  replace L1 : Hid (Below w.heap.size w W) := Lib.hid (by rw [← hW]; exact L1.out)
  rw [hW]
  clear hW c0 c1 c2 f0 f1 f2 k0 k1 k2 g0 g1 g2 K B1 C0 T0 LO IN
  obtain ⟨gw, hgw⟩ : ∃ g, w.heap.size = g := ⟨_, rfl⟩
  obtain ⟨gt, hgt⟩ : ∃ g, gw + 1 = g := ⟨_, rfl⟩
  have HGW := Lib.hid hgw
  rw [hgw] at V T1 ⊢
  rw [hgt] at T1 ⊢
  clear hgw hgt
  have c0 := V.out.cell 0 rfl
  have c1 := V.out.cell 1 rfl
  have c2 := V.out.cell 2 rfl
  have t0 := T1.out.cell 0 rfl
  have t1 := T1.out.cell 1 rfl
  have l1 := V.out.lt
  have l2 := T1.out.lt
  go_cut [7, 8] (fun p7 p8 wx => ∃ g7 g8 : Nat, p7 = .pointer (some ⟨g7, 0, none⟩) ∧ p8 = .pointer (some ⟨g8, 0, none⟩) ∧ Blk wx g7 (rnV G) 23 ∧ Blk wx g8 (rnV ⟨D, D, 0⟩) 23 ∧ Below W.heap.size W wx)
  case first =>
    have HS := Lib.hid (And.intro c0 (And.intro c1 (And.intro c2 (And.intro t0 t1))))
    clear c0 c1 c2 t0 t1 l1 l2
    refine wp_region_noPanic ?_
    refine wp_region_held_drew (S := fun w' => Below W.heap.size W w') (by kernel_rfl) (new_drew (new_refl W)) (fun hHeld => ?_)
    refine wpAnyH_take (i := 0) (oi := ⟨some 13, _, _, _, _, _⟩) (v := ?_) rfl (by kernel_rfl) (by kernel_rfl) (by kernel_rfl) (fun _ _ _ h => h) (Or.inl ⟨by rfl, ?_⟩) hHeld ?_
    rotate_left
    · intro w hSw; obtain ⟨x0, x1, x2, x3, x4⟩ := five_kept hSw HS.out; go_simp; (try with_reducible rfl)
    try simp only [Act.put, List.setIfInBounds_toArray, List.set_cons_zero, List.set_cons_succ]
    refine wpAnyH_take (i := 1) (oi := ⟨some 14, _, _, _, _, _⟩) (v := ?_) rfl (by kernel_rfl) (by kernel_rfl) (by kernel_rfl) (fun _ _ _ h => h) (Or.inl ⟨by rfl, ?_⟩) hHeld ?_
    rotate_left
    · intro w hSw; go_simp; (try with_reducible rfl)
    try simp only [Act.put, List.setIfInBounds_toArray, List.set_cons_zero, List.set_cons_succ]
    refine wpAnyH_take (i := 2) (oi := ⟨some 15, _, _, _, _, _⟩) (v := ?_) rfl (by kernel_rfl) (by kernel_rfl) (by kernel_rfl) (fun _ _ _ h => h) (Or.inl ⟨by rfl, ?_⟩) hHeld ?_
    rotate_left
    · intro w hSw; go_simp; (try with_reducible rfl)
    try simp only [Act.put, List.setIfInBounds_toArray, List.set_cons_zero, List.set_cons_succ]
    refine wpAnyH_take (i := 3) (oi := ⟨some 16, _, _, _, _, _⟩) (v := ?_) rfl (by kernel_rfl) (by kernel_rfl) (by kernel_rfl) (fun _ _ _ h => h) (Or.inl ⟨by rfl, ?_⟩) hHeld ?_
    rotate_left
    · intro w hSw; obtain ⟨x0, x1, x2, x3, x4⟩ := five_kept hSw HS.out; go_simp; (try with_reducible rfl)
    try simp only [Act.put, List.setIfInBounds_toArray, List.set_cons_zero, List.set_cons_succ]
    refine wpAnyH_take (i := 4) (oi := ⟨some 17, _, _, _, _, _⟩) (v := ?_) rfl (by kernel_rfl) (by kernel_rfl) (by kernel_rfl) (fun _ _ _ h => h) (Or.inl ⟨by rfl, ?_⟩) hHeld ?_
    rotate_left
    · intro w hSw; go_simp; (try with_reducible rfl)
    try simp only [Act.put, List.setIfInBounds_toArray, List.set_cons_zero, List.set_cons_succ]
    refine wpAnyH_take (i := 5) (oi := ⟨some 18, _, _, _, _, _⟩) (v := ?_) rfl (by kernel_rfl) (by kernel_rfl) (by kernel_rfl) (fun _ _ _ h => h) (Or.inl ⟨by rfl, ?_⟩) hHeld ?_
    rotate_left
    · intro w hSw; obtain ⟨x0, x1, x2, x3, x4⟩ := five_kept hSw HS.out; go_simp; (try with_reducible rfl)
    try simp only [Act.put, List.setIfInBounds_toArray, List.set_cons_zero, List.set_cons_succ]
    refine wpAnyH_take (i := 7) (oi := ⟨some 20, _, _, _, _, _⟩) (v := ?_) rfl (by kernel_rfl) (by kernel_rfl) (by kernel_rfl) (fun _ _ _ h => h) (Or.inl ⟨by rfl, ?_⟩) hHeld ?_
    rotate_left
    · intro w hSw; obtain ⟨x0, x1, x2, x3, x4⟩ := five_kept hSw HS.out; go_simp; (try with_reducible rfl)
    try simp only [Act.put, List.setIfInBounds_toArray, List.set_cons_zero, List.set_cons_succ]
    refine wpAnyH_take (i := 8) (oi := ⟨some 21, _, _, _, _, _⟩) (v := ?_) rfl (by kernel_rfl) (by kernel_rfl) (by kernel_rfl) (fun _ _ _ h => h) (Or.inl ⟨by rfl, ?_⟩) hHeld ?_
    rotate_left
    · intro w hSw; go_simp; (try with_reducible rfl)
    try simp only [Act.put, List.setIfInBounds_toArray, List.set_cons_zero, List.set_cons_succ]
    refine wpAnyH_take (i := 9) (oi := ⟨some 22, _, _, _, _, _⟩) (v := ?_) rfl (by kernel_rfl) (by kernel_rfl) (by kernel_rfl) (fun _ _ _ h => h) (Or.inl ⟨by rfl, ?_⟩) hHeld ?_
    rotate_left
    · intro w hSw; obtain ⟨x0, x1, x2, x3, x4⟩ := five_kept hSw HS.out; go_simp; (try with_reducible rfl)
    try simp only [Act.put, List.setIfInBounds_toArray, List.set_cons_zero, List.set_cons_succ]
    refine wpAnyH_take (i := 10) (oi := ⟨some 23, _, _, _, _, _⟩) (v := ?_) rfl (by kernel_rfl) (by kernel_rfl) (by kernel_rfl) (fun _ _ _ h => h) (Or.inl ⟨by rfl, ?_⟩) hHeld ?_
    rotate_left
    · intro w hSw; go_simp; (try with_reducible rfl)
    try simp only [Act.put, List.setIfInBounds_toArray, List.set_cons_zero, List.set_cons_succ]
    refine wpAnyH_take (i := 11) (oi := ⟨some 24, _, _, _, _, _⟩) (v := ?_) rfl (by kernel_rfl) (by kernel_rfl) (by kernel_rfl) (fun _ _ _ h => h) (Or.inl ⟨by rfl, ?_⟩) hHeld ?_
    rotate_left
    · intro w hSw; obtain ⟨x0, x1, x2, x3, x4⟩ := five_kept hSw HS.out; go_simp; (try with_reducible rfl)
    try simp only [Act.put, List.setIfInBounds_toArray, List.set_cons_zero, List.set_cons_succ]
    have LX0 := Lib.hid (new_drew (new_refl W))
    generalize W.drew = X0 at *
    clear hHeld
    refine wpAnyH_ready (rs := [6, 13, 14]) (by kernel_rfl) (by simp) ?_
    refine AllReadyH.cons (o := ⟨some 19, _, _, _, _, _⟩) rfl (fun K hK => ?_) (AllReadyH.cons (o := ⟨some 7, _, _, _, _, _⟩) rfl (fun K hK => ?_) (AllReadyH.cons (o := ⟨some 8, _, _, _, _, _⟩) rfl (fun K hK => ?_) AllReadyH.nil))
    · go_simp
      refine (GR.out _).mono ?_
      rintro e X1 ⟨rfl, Bq⟩
      have LX1 := Lib.hid (new_then LX0.out Bq)
      refine hK.out _ _ LX1.out (fun _ => ?_)
      clear hK K Bq LX0
      try simp only [Act.put, List.setIfInBounds_toArray, List.set_cons_zero, List.set_cons_succ]
      refine wpAnyH_ready (rs := [12, 13, 14]) (by kernel_rfl) (by simp) ?_
      refine AllReadyH.cons (o := ⟨some 25, _, _, _, _, _⟩) rfl (fun K hK => ?_) (AllReadyH.cons (o := ⟨some 7, _, _, _, _, _⟩) rfl (fun K hK => ?_) (AllReadyH.cons (o := ⟨some 8, _, _, _, _, _⟩) rfl (fun K hK => ?_) AllReadyH.nil))
      · go_simp
        refine (CU.out _).mono ?_
        rintro e X2 ⟨rfl, Bq⟩
        have LX2 := Lib.hid (new_then LX1.out Bq)
        refine hK.out _ _ LX2.out (fun _ => ?_)
        clear hK K Bq LX1
        try simp only [Act.put, List.setIfInBounds_toArray, List.set_cons_zero, List.set_cons_succ]
        refine wpAnyH_ready (rs := [13, 14]) (by kernel_rfl) (by simp) ?_
        refine AllReadyH.cons (o := ⟨some 7, _, _, _, _, _⟩) rfl (fun K hK => ?_) (AllReadyH.cons (o := ⟨some 8, _, _, _, _, _⟩) rfl (fun K hK => ?_) AllReadyH.nil)
        · go_simp
          refine hK.out _ _ (new_alloc LX2.out _) (fun _ => ?_)
          clear hK K
          try simp only [Act.put, List.setIfInBounds_toArray, List.set_cons_zero, List.set_cons_succ]
          have N := Lib.hid (Blk.new X2 (rnV rnO) 23)
          have LX3 := Lib.hid (new_alloc LX2.out (.cells #[.int .i64 0, .int .i64 0, .int .i64 0] 23))
          have Hg7 := Lib.hid LX2.out.size
          replace N : Hid (Blk (X2.alloc (.cells #[.int .i64 0, .int .i64 0, .int .i64 0] 23)) X2.heap.size (rnV rnO) 23) := N
          generalize X2.heap.size = g7 at *
          generalize X2.alloc (.cells #[.int .i64 0, .int .i64 0, .int .i64 0] 23) = X3 at *
          have AX3 := N
          clear N LX2
          refine wpAnyH_ready (rs := [14]) (by kernel_rfl) (by simp) ?_
          refine AllReadyH.cons (o := ⟨some 8, _, _, _, _, _⟩) rfl (fun K hK => ?_) AllReadyH.nil
          · go_simp
            refine hK.out _ _ (new_alloc LX3.out _) (fun _ => ?_)
            clear hK K
            try simp only [Act.put, List.setIfInBounds_toArray, List.set_cons_zero, List.set_cons_succ]
            have N := Lib.hid (Blk.new X3 (rnV rnO) 23)
            have LX4 := Lib.hid (new_alloc LX3.out (.cells #[.int .i64 0, .int .i64 0, .int .i64 0] 23))
            have Hg8 := Lib.hid LX3.out.size
            have AX4 := Lib.hid (AX3.out.alloc (.cells #[.int .i64 0, .int .i64 0, .int .i64 0] 23))
            have NE := Lib.hid (Nat.ne_of_lt AX3.out.lt)
            replace N : Hid (Blk (X3.alloc (.cells #[.int .i64 0, .int .i64 0, .int .i64 0] 23)) X3.heap.size (rnV rnO) 23) := N
            generalize X3.heap.size = g8 at *
            generalize X3.alloc (.cells #[.int .i64 0, .int .i64 0, .int .i64 0] 23) = X4 at *
            have BX4 := N
            clear N LX3 AX3
            refine wpAnyH_ready (rs := [15]) (by kernel_rfl) (by simp) ?_
            refine AllReadyH.cons (o := ⟨none, _, _, _, _, _⟩) rfl (fun K hK => ?_) AllReadyH.nil
            · have r0 := AX4.out.cell 0 rfl
              have r1 := AX4.out.cell 1 rfl
              have r2 := AX4.out.cell 2 rfl
              have q0 := AX4.out.frozen 0
              have q1 := AX4.out.frozen 1
              have q2 := AX4.out.frozen 2
              go_simp
              have LX5 := Lib.hid (lowN3 (p := g7) LX4.out Hg7.out (.int .i64 G.c) (.int .i64 G.t) (.int .i64 G.k))
              have BX5 := Lib.hid (farN3 (p := g7) BX4.out NE.out.symm (.int .i64 G.c) (.int .i64 G.t) (.int .i64 G.k))
              have AX5 := Lib.hid (rn_set AX4.out G)
              refine hK.out _ _ LX5.out (fun _ => ?_)
              clear hK K r0 r1 r2 q0 q1 q2 AX4 BX4 LX4
              try simp only [Act.put, List.setIfInBounds_toArray, List.set_cons_zero, List.set_cons_succ]
              generalize (((X4.setCell ⟨g7, 0, none⟩ (.int .i64 G.c)).setCell ⟨g7, 1, none⟩ (.int .i64 G.t)).setCell ⟨g7, 2, none⟩ (.int .i64 G.k)) = X5 at *
              refine wpAnyH_ready (rs := [16]) (by kernel_rfl) (by simp) ?_
              refine AllReadyH.cons (o := ⟨none, _, _, _, _, _⟩) rfl (fun K hK => ?_) AllReadyH.nil
              · have r0 := BX5.out.cell 0 rfl
                have r1 := BX5.out.cell 1 rfl
                have r2 := BX5.out.cell 2 rfl
                have q0 := BX5.out.frozen 0
                have q1 := BX5.out.frozen 1
                have q2 := BX5.out.frozen 2
                go_simp
                have LX6 := Lib.hid (lowN3 (p := g8) LX5.out Hg8.out (.int .i64 D) (.int .i64 D) (.int .i64 0))
                have AX6 := Lib.hid (farN3 (p := g8) AX5.out NE.out (.int .i64 D) (.int .i64 D) (.int .i64 0))
                have BX6 := Lib.hid (rn_set BX5.out ⟨D, D, 0⟩)
                refine hK.out _ _ LX6.out (fun _ => ?_)
                clear hK K r0 r1 r2 q0 q1 q2 AX5 BX5 LX5
                try simp only [Act.put, List.setIfInBounds_toArray, List.set_cons_zero, List.set_cons_succ]
                generalize (((X5.setCell ⟨g8, 0, none⟩ (.int .i64 D)).setCell ⟨g8, 1, none⟩ (.int .i64 D)).setCell ⟨g8, 2, none⟩ (.int .i64 0)) = X6 at *
                refine wpAnyH_done (by kernel_rfl) ?_ _
                refine NoPanic.normal ?_
                go_wp2_with fail
                go_meet
                exact ⟨g7, g8, rfl, rfl, AX6.out, BX6.out, LX6.out⟩
        · go_simp
          refine hK.out _ _ (new_alloc LX2.out _) (fun _ => ?_)
          clear hK K
          try simp only [Act.put, List.setIfInBounds_toArray, List.set_cons_zero, List.set_cons_succ]
          have N := Lib.hid (Blk.new X2 (rnV rnO) 23)
          have LX7 := Lib.hid (new_alloc LX2.out (.cells #[.int .i64 0, .int .i64 0, .int .i64 0] 23))
          have Hg8 := Lib.hid LX2.out.size
          replace N : Hid (Blk (X2.alloc (.cells #[.int .i64 0, .int .i64 0, .int .i64 0] 23)) X2.heap.size (rnV rnO) 23) := N
          generalize X2.heap.size = g8 at *
          generalize X2.alloc (.cells #[.int .i64 0, .int .i64 0, .int .i64 0] 23) = X7 at *
          have BX7 := N
          clear N LX2
          refine wpAnyH_ready (rs := [13]) (by kernel_rfl) (by simp) ?_
          refine AllReadyH.cons (o := ⟨some 7, _, _, _, _, _⟩) rfl (fun K hK => ?_) AllReadyH.nil
          · go_simp
            refine hK.out _ _ (new_alloc LX7.out _) (fun _ => ?_)
            clear hK K
            try simp only [Act.put, List.setIfInBounds_toArray, List.set_cons_zero, List.set_cons_succ]
            have N := Lib.hid (Blk.new X7 (rnV rnO) 23)
            have LX8 := Lib.hid (new_alloc LX7.out (.cells #[.int .i64 0, .int .i64 0, .int .i64 0] 23))
            have Hg7 := Lib.hid LX7.out.size
            have BX8 := Lib.hid (BX7.out.alloc (.cells #[.int .i64 0, .int .i64 0, .int .i64 0] 23))
            have NE := Lib.hid (Nat.ne_of_lt BX7.out.lt).symm
            replace N : Hid (Blk (X7.alloc (.cells #[.int .i64 0, .int .i64 0, .int .i64 0] 23)) X7.heap.size (rnV rnO) 23) := N
            generalize X7.heap.size = g7 at *
            generalize X7.alloc (.cells #[.int .i64 0, .int .i64 0, .int .i64 0] 23) = X8 at *
            have AX8 := N
            clear N LX7 BX7
            refine wpAnyH_ready (rs := [15]) (by kernel_rfl) (by simp) ?_
            refine AllReadyH.cons (o := ⟨none, _, _, _, _, _⟩) rfl (fun K hK => ?_) AllReadyH.nil
            · have r0 := AX8.out.cell 0 rfl
              have r1 := AX8.out.cell 1 rfl
              have r2 := AX8.out.cell 2 rfl
              have q0 := AX8.out.frozen 0
              have q1 := AX8.out.frozen 1
              have q2 := AX8.out.frozen 2
              go_simp
              have LX9 := Lib.hid (lowN3 (p := g7) LX8.out Hg7.out (.int .i64 G.c) (.int .i64 G.t) (.int .i64 G.k))
              have BX9 := Lib.hid (farN3 (p := g7) BX8.out NE.out.symm (.int .i64 G.c) (.int .i64 G.t) (.int .i64 G.k))
              have AX9 := Lib.hid (rn_set AX8.out G)
              refine hK.out _ _ LX9.out (fun _ => ?_)
              clear hK K r0 r1 r2 q0 q1 q2 AX8 BX8 LX8
              try simp only [Act.put, List.setIfInBounds_toArray, List.set_cons_zero, List.set_cons_succ]
              generalize (((X8.setCell ⟨g7, 0, none⟩ (.int .i64 G.c)).setCell ⟨g7, 1, none⟩ (.int .i64 G.t)).setCell ⟨g7, 2, none⟩ (.int .i64 G.k)) = X9 at *
              refine wpAnyH_ready (rs := [16]) (by kernel_rfl) (by simp) ?_
              refine AllReadyH.cons (o := ⟨none, _, _, _, _, _⟩) rfl (fun K hK => ?_) AllReadyH.nil
              · have r0 := BX9.out.cell 0 rfl
                have r1 := BX9.out.cell 1 rfl
                have r2 := BX9.out.cell 2 rfl
                have q0 := BX9.out.frozen 0
                have q1 := BX9.out.frozen 1
                have q2 := BX9.out.frozen 2
                go_simp
                have LX10 := Lib.hid (lowN3 (p := g8) LX9.out Hg8.out (.int .i64 D) (.int .i64 D) (.int .i64 0))
                have AX10 := Lib.hid (farN3 (p := g8) AX9.out NE.out (.int .i64 D) (.int .i64 D) (.int .i64 0))
                have BX10 := Lib.hid (rn_set BX9.out ⟨D, D, 0⟩)
                refine hK.out _ _ LX10.out (fun _ => ?_)
                clear hK K r0 r1 r2 q0 q1 q2 AX9 BX9 LX9
                try simp only [Act.put, List.setIfInBounds_toArray, List.set_cons_zero, List.set_cons_succ]
                generalize (((X9.setCell ⟨g8, 0, none⟩ (.int .i64 D)).setCell ⟨g8, 1, none⟩ (.int .i64 D)).setCell ⟨g8, 2, none⟩ (.int .i64 0)) = X10 at *
                refine wpAnyH_done (by kernel_rfl) ?_ _
                refine NoPanic.normal ?_
                go_wp2_with fail
                go_meet
                exact ⟨g7, g8, rfl, rfl, AX10.out, BX10.out, LX10.out⟩
      · go_simp
        refine hK.out _ _ (new_alloc LX1.out _) (fun _ => ?_)
        clear hK K
        try simp only [Act.put, List.setIfInBounds_toArray, List.set_cons_zero, List.set_cons_succ]
        have N := Lib.hid (Blk.new X1 (rnV rnO) 23)
        have LX11 := Lib.hid (new_alloc LX1.out (.cells #[.int .i64 0, .int .i64 0, .int .i64 0] 23))
        have Hg7 := Lib.hid LX1.out.size
        replace N : Hid (Blk (X1.alloc (.cells #[.int .i64 0, .int .i64 0, .int .i64 0] 23)) X1.heap.size (rnV rnO) 23) := N
        generalize X1.heap.size = g7 at *
        generalize X1.alloc (.cells #[.int .i64 0, .int .i64 0, .int .i64 0] 23) = X11 at *
        have AX11 := N
        clear N LX1
        refine wpAnyH_ready (rs := [12, 14]) (by kernel_rfl) (by simp) ?_
        refine AllReadyH.cons (o := ⟨some 25, _, _, _, _, _⟩) rfl (fun K hK => ?_) (AllReadyH.cons (o := ⟨some 8, _, _, _, _, _⟩) rfl (fun K hK => ?_) AllReadyH.nil)
        · go_simp
          refine (CU.out _).mono ?_
          rintro e X12 ⟨rfl, Bq⟩
          have LX12 := Lib.hid (new_then LX11.out Bq)
          have AX12 := Lib.hid (AX11.out.kept Bq)
          refine hK.out _ _ LX12.out (fun _ => ?_)
          clear hK K Bq AX11 LX11
          try simp only [Act.put, List.setIfInBounds_toArray, List.set_cons_zero, List.set_cons_succ]
          refine wpAnyH_ready (rs := [14]) (by kernel_rfl) (by simp) ?_
          refine AllReadyH.cons (o := ⟨some 8, _, _, _, _, _⟩) rfl (fun K hK => ?_) AllReadyH.nil
          · go_simp
            refine hK.out _ _ (new_alloc LX12.out _) (fun _ => ?_)
            clear hK K
            try simp only [Act.put, List.setIfInBounds_toArray, List.set_cons_zero, List.set_cons_succ]
            have N := Lib.hid (Blk.new X12 (rnV rnO) 23)
            have LX13 := Lib.hid (new_alloc LX12.out (.cells #[.int .i64 0, .int .i64 0, .int .i64 0] 23))
            have Hg8 := Lib.hid LX12.out.size
            have AX13 := Lib.hid (AX12.out.alloc (.cells #[.int .i64 0, .int .i64 0, .int .i64 0] 23))
            have NE := Lib.hid (Nat.ne_of_lt AX12.out.lt)
            replace N : Hid (Blk (X12.alloc (.cells #[.int .i64 0, .int .i64 0, .int .i64 0] 23)) X12.heap.size (rnV rnO) 23) := N
            generalize X12.heap.size = g8 at *
            generalize X12.alloc (.cells #[.int .i64 0, .int .i64 0, .int .i64 0] 23) = X13 at *
            have BX13 := N
            clear N LX12 AX12
            refine wpAnyH_ready (rs := [15]) (by kernel_rfl) (by simp) ?_
            refine AllReadyH.cons (o := ⟨none, _, _, _, _, _⟩) rfl (fun K hK => ?_) AllReadyH.nil
            · have r0 := AX13.out.cell 0 rfl
              have r1 := AX13.out.cell 1 rfl
              have r2 := AX13.out.cell 2 rfl
              have q0 := AX13.out.frozen 0
              have q1 := AX13.out.frozen 1
              have q2 := AX13.out.frozen 2
              go_simp
              have LX14 := Lib.hid (lowN3 (p := g7) LX13.out Hg7.out (.int .i64 G.c) (.int .i64 G.t) (.int .i64 G.k))
              have BX14 := Lib.hid (farN3 (p := g7) BX13.out NE.out.symm (.int .i64 G.c) (.int .i64 G.t) (.int .i64 G.k))
              have AX14 := Lib.hid (rn_set AX13.out G)
              refine hK.out _ _ LX14.out (fun _ => ?_)
              clear hK K r0 r1 r2 q0 q1 q2 AX13 BX13 LX13
              try simp only [Act.put, List.setIfInBounds_toArray, List.set_cons_zero, List.set_cons_succ]
              generalize (((X13.setCell ⟨g7, 0, none⟩ (.int .i64 G.c)).setCell ⟨g7, 1, none⟩ (.int .i64 G.t)).setCell ⟨g7, 2, none⟩ (.int .i64 G.k)) = X14 at *
              refine wpAnyH_ready (rs := [16]) (by kernel_rfl) (by simp) ?_
              refine AllReadyH.cons (o := ⟨none, _, _, _, _, _⟩) rfl (fun K hK => ?_) AllReadyH.nil
              · have r0 := BX14.out.cell 0 rfl
                have r1 := BX14.out.cell 1 rfl
                have r2 := BX14.out.cell 2 rfl
                have q0 := BX14.out.frozen 0
                have q1 := BX14.out.frozen 1
                have q2 := BX14.out.frozen 2
                go_simp
                have LX15 := Lib.hid (lowN3 (p := g8) LX14.out Hg8.out (.int .i64 D) (.int .i64 D) (.int .i64 0))
                have AX15 := Lib.hid (farN3 (p := g8) AX14.out NE.out (.int .i64 D) (.int .i64 D) (.int .i64 0))
                have BX15 := Lib.hid (rn_set BX14.out ⟨D, D, 0⟩)
                refine hK.out _ _ LX15.out (fun _ => ?_)
                clear hK K r0 r1 r2 q0 q1 q2 AX14 BX14 LX14
                try simp only [Act.put, List.setIfInBounds_toArray, List.set_cons_zero, List.set_cons_succ]
                generalize (((X14.setCell ⟨g8, 0, none⟩ (.int .i64 D)).setCell ⟨g8, 1, none⟩ (.int .i64 D)).setCell ⟨g8, 2, none⟩ (.int .i64 0)) = X15 at *
                refine wpAnyH_done (by kernel_rfl) ?_ _
                refine NoPanic.normal ?_
                go_wp2_with fail
                go_meet
                exact ⟨g7, g8, rfl, rfl, AX15.out, BX15.out, LX15.out⟩
        · go_simp
          refine hK.out _ _ (new_alloc LX11.out _) (fun _ => ?_)
          clear hK K
          try simp only [Act.put, List.setIfInBounds_toArray, List.set_cons_zero, List.set_cons_succ]
          have N := Lib.hid (Blk.new X11 (rnV rnO) 23)
          have LX16 := Lib.hid (new_alloc LX11.out (.cells #[.int .i64 0, .int .i64 0, .int .i64 0] 23))
          have Hg8 := Lib.hid LX11.out.size
          have AX16 := Lib.hid (AX11.out.alloc (.cells #[.int .i64 0, .int .i64 0, .int .i64 0] 23))
          have NE := Lib.hid (Nat.ne_of_lt AX11.out.lt)
          replace N : Hid (Blk (X11.alloc (.cells #[.int .i64 0, .int .i64 0, .int .i64 0] 23)) X11.heap.size (rnV rnO) 23) := N
          generalize X11.heap.size = g8 at *
          generalize X11.alloc (.cells #[.int .i64 0, .int .i64 0, .int .i64 0] 23) = X16 at *
          have BX16 := N
          clear N LX11 AX11
          refine wpAnyH_ready (rs := [12]) (by kernel_rfl) (by simp) ?_
          refine AllReadyH.cons (o := ⟨some 25, _, _, _, _, _⟩) rfl (fun K hK => ?_) AllReadyH.nil
          · go_simp
            refine (CU.out _).mono ?_
            rintro e X17 ⟨rfl, Bq⟩
            have LX17 := Lib.hid (new_then LX16.out Bq)
            have AX17 := Lib.hid (AX16.out.kept Bq)
            have BX17 := Lib.hid (BX16.out.kept Bq)
            refine hK.out _ _ LX17.out (fun _ => ?_)
            clear hK K Bq AX16 BX16 LX16
            try simp only [Act.put, List.setIfInBounds_toArray, List.set_cons_zero, List.set_cons_succ]
            refine wpAnyH_ready (rs := [15]) (by kernel_rfl) (by simp) ?_
            refine AllReadyH.cons (o := ⟨none, _, _, _, _, _⟩) rfl (fun K hK => ?_) AllReadyH.nil
            · have r0 := AX17.out.cell 0 rfl
              have r1 := AX17.out.cell 1 rfl
              have r2 := AX17.out.cell 2 rfl
              have q0 := AX17.out.frozen 0
              have q1 := AX17.out.frozen 1
              have q2 := AX17.out.frozen 2
              go_simp
              have LX18 := Lib.hid (lowN3 (p := g7) LX17.out Hg7.out (.int .i64 G.c) (.int .i64 G.t) (.int .i64 G.k))
              have BX18 := Lib.hid (farN3 (p := g7) BX17.out NE.out.symm (.int .i64 G.c) (.int .i64 G.t) (.int .i64 G.k))
              have AX18 := Lib.hid (rn_set AX17.out G)
              refine hK.out _ _ LX18.out (fun _ => ?_)
              clear hK K r0 r1 r2 q0 q1 q2 AX17 BX17 LX17
              try simp only [Act.put, List.setIfInBounds_toArray, List.set_cons_zero, List.set_cons_succ]
              generalize (((X17.setCell ⟨g7, 0, none⟩ (.int .i64 G.c)).setCell ⟨g7, 1, none⟩ (.int .i64 G.t)).setCell ⟨g7, 2, none⟩ (.int .i64 G.k)) = X18 at *
              refine wpAnyH_ready (rs := [16]) (by kernel_rfl) (by simp) ?_
              refine AllReadyH.cons (o := ⟨none, _, _, _, _, _⟩) rfl (fun K hK => ?_) AllReadyH.nil
              · have r0 := BX18.out.cell 0 rfl
                have r1 := BX18.out.cell 1 rfl
                have r2 := BX18.out.cell 2 rfl
                have q0 := BX18.out.frozen 0
                have q1 := BX18.out.frozen 1
                have q2 := BX18.out.frozen 2
                go_simp
                have LX19 := Lib.hid (lowN3 (p := g8) LX18.out Hg8.out (.int .i64 D) (.int .i64 D) (.int .i64 0))
                have AX19 := Lib.hid (farN3 (p := g8) AX18.out NE.out (.int .i64 D) (.int .i64 D) (.int .i64 0))
                have BX19 := Lib.hid (rn_set BX18.out ⟨D, D, 0⟩)
                refine hK.out _ _ LX19.out (fun _ => ?_)
                clear hK K r0 r1 r2 q0 q1 q2 AX18 BX18 LX18
                try simp only [Act.put, List.setIfInBounds_toArray, List.set_cons_zero, List.set_cons_succ]
                generalize (((X18.setCell ⟨g8, 0, none⟩ (.int .i64 D)).setCell ⟨g8, 1, none⟩ (.int .i64 D)).setCell ⟨g8, 2, none⟩ (.int .i64 0)) = X19 at *
                refine wpAnyH_done (by kernel_rfl) ?_ _
                refine NoPanic.normal ?_
                go_wp2_with fail
                go_meet
                exact ⟨g7, g8, rfl, rfl, AX19.out, BX19.out, LX19.out⟩
      · go_simp
        refine hK.out _ _ (new_alloc LX1.out _) (fun _ => ?_)
        clear hK K
        try simp only [Act.put, List.setIfInBounds_toArray, List.set_cons_zero, List.set_cons_succ]
        have N := Lib.hid (Blk.new X1 (rnV rnO) 23)
        have LX20 := Lib.hid (new_alloc LX1.out (.cells #[.int .i64 0, .int .i64 0, .int .i64 0] 23))
        have Hg8 := Lib.hid LX1.out.size
        replace N : Hid (Blk (X1.alloc (.cells #[.int .i64 0, .int .i64 0, .int .i64 0] 23)) X1.heap.size (rnV rnO) 23) := N
        generalize X1.heap.size = g8 at *
        generalize X1.alloc (.cells #[.int .i64 0, .int .i64 0, .int .i64 0] 23) = X20 at *
        have BX20 := N
        clear N LX1
        refine wpAnyH_ready (rs := [12, 13]) (by kernel_rfl) (by simp) ?_
        refine AllReadyH.cons (o := ⟨some 25, _, _, _, _, _⟩) rfl (fun K hK => ?_) (AllReadyH.cons (o := ⟨some 7, _, _, _, _, _⟩) rfl (fun K hK => ?_) AllReadyH.nil)
        · go_simp
          refine (CU.out _).mono ?_
          rintro e X21 ⟨rfl, Bq⟩
          have LX21 := Lib.hid (new_then LX20.out Bq)
          have BX21 := Lib.hid (BX20.out.kept Bq)
          refine hK.out _ _ LX21.out (fun _ => ?_)
          clear hK K Bq BX20 LX20
          try simp only [Act.put, List.setIfInBounds_toArray, List.set_cons_zero, List.set_cons_succ]
          refine wpAnyH_ready (rs := [13]) (by kernel_rfl) (by simp) ?_
          refine AllReadyH.cons (o := ⟨some 7, _, _, _, _, _⟩) rfl (fun K hK => ?_) AllReadyH.nil
          · go_simp
            refine hK.out _ _ (new_alloc LX21.out _) (fun _ => ?_)
            clear hK K
            try simp only [Act.put, List.setIfInBounds_toArray, List.set_cons_zero, List.set_cons_succ]
            have N := Lib.hid (Blk.new X21 (rnV rnO) 23)
            have LX22 := Lib.hid (new_alloc LX21.out (.cells #[.int .i64 0, .int .i64 0, .int .i64 0] 23))
            have Hg7 := Lib.hid LX21.out.size
            have BX22 := Lib.hid (BX21.out.alloc (.cells #[.int .i64 0, .int .i64 0, .int .i64 0] 23))
            have NE := Lib.hid (Nat.ne_of_lt BX21.out.lt).symm
            replace N : Hid (Blk (X21.alloc (.cells #[.int .i64 0, .int .i64 0, .int .i64 0] 23)) X21.heap.size (rnV rnO) 23) := N
            generalize X21.heap.size = g7 at *
            generalize X21.alloc (.cells #[.int .i64 0, .int .i64 0, .int .i64 0] 23) = X22 at *
            have AX22 := N
            clear N LX21 BX21
            refine wpAnyH_ready (rs := [15]) (by kernel_rfl) (by simp) ?_
            refine AllReadyH.cons (o := ⟨none, _, _, _, _, _⟩) rfl (fun K hK => ?_) AllReadyH.nil
            · have r0 := AX22.out.cell 0 rfl
              have r1 := AX22.out.cell 1 rfl
              have r2 := AX22.out.cell 2 rfl
              have q0 := AX22.out.frozen 0
              have q1 := AX22.out.frozen 1
              have q2 := AX22.out.frozen 2
              go_simp
              have LX23 := Lib.hid (lowN3 (p := g7) LX22.out Hg7.out (.int .i64 G.c) (.int .i64 G.t) (.int .i64 G.k))
              have BX23 := Lib.hid (farN3 (p := g7) BX22.out NE.out.symm (.int .i64 G.c) (.int .i64 G.t) (.int .i64 G.k))
              have AX23 := Lib.hid (rn_set AX22.out G)
              refine hK.out _ _ LX23.out (fun _ => ?_)
              clear hK K r0 r1 r2 q0 q1 q2 AX22 BX22 LX22
              try simp only [Act.put, List.setIfInBounds_toArray, List.set_cons_zero, List.set_cons_succ]
              generalize (((X22.setCell ⟨g7, 0, none⟩ (.int .i64 G.c)).setCell ⟨g7, 1, none⟩ (.int .i64 G.t)).setCell ⟨g7, 2, none⟩ (.int .i64 G.k)) = X23 at *
              refine wpAnyH_ready (rs := [16]) (by kernel_rfl) (by simp) ?_
              refine AllReadyH.cons (o := ⟨none, _, _, _, _, _⟩) rfl (fun K hK => ?_) AllReadyH.nil
              · have r0 := BX23.out.cell 0 rfl
                have r1 := BX23.out.cell 1 rfl
                have r2 := BX23.out.cell 2 rfl
                have q0 := BX23.out.frozen 0
                have q1 := BX23.out.frozen 1
                have q2 := BX23.out.frozen 2
                go_simp
                have LX24 := Lib.hid (lowN3 (p := g8) LX23.out Hg8.out (.int .i64 D) (.int .i64 D) (.int .i64 0))
                have AX24 := Lib.hid (farN3 (p := g8) AX23.out NE.out (.int .i64 D) (.int .i64 D) (.int .i64 0))
                have BX24 := Lib.hid (rn_set BX23.out ⟨D, D, 0⟩)
                refine hK.out _ _ LX24.out (fun _ => ?_)
                clear hK K r0 r1 r2 q0 q1 q2 AX23 BX23 LX23
                try simp only [Act.put, List.setIfInBounds_toArray, List.set_cons_zero, List.set_cons_succ]
                generalize (((X23.setCell ⟨g8, 0, none⟩ (.int .i64 D)).setCell ⟨g8, 1, none⟩ (.int .i64 D)).setCell ⟨g8, 2, none⟩ (.int .i64 0)) = X24 at *
                refine wpAnyH_done (by kernel_rfl) ?_ _
                refine NoPanic.normal ?_
                go_wp2_with fail
                go_meet
                exact ⟨g7, g8, rfl, rfl, AX24.out, BX24.out, LX24.out⟩
        · go_simp
          refine hK.out _ _ (new_alloc LX20.out _) (fun _ => ?_)
          clear hK K
          try simp only [Act.put, List.setIfInBounds_toArray, List.set_cons_zero, List.set_cons_succ]
          have N := Lib.hid (Blk.new X20 (rnV rnO) 23)
          have LX25 := Lib.hid (new_alloc LX20.out (.cells #[.int .i64 0, .int .i64 0, .int .i64 0] 23))
          have Hg7 := Lib.hid LX20.out.size
          have BX25 := Lib.hid (BX20.out.alloc (.cells #[.int .i64 0, .int .i64 0, .int .i64 0] 23))
          have NE := Lib.hid (Nat.ne_of_lt BX20.out.lt).symm
          replace N : Hid (Blk (X20.alloc (.cells #[.int .i64 0, .int .i64 0, .int .i64 0] 23)) X20.heap.size (rnV rnO) 23) := N
          generalize X20.heap.size = g7 at *
          generalize X20.alloc (.cells #[.int .i64 0, .int .i64 0, .int .i64 0] 23) = X25 at *
          have AX25 := N
          clear N LX20 BX20
          refine wpAnyH_ready (rs := [12]) (by kernel_rfl) (by simp) ?_
          refine AllReadyH.cons (o := ⟨some 25, _, _, _, _, _⟩) rfl (fun K hK => ?_) AllReadyH.nil
          · go_simp
            refine (CU.out _).mono ?_
            rintro e X26 ⟨rfl, Bq⟩
            have LX26 := Lib.hid (new_then LX25.out Bq)
            have AX26 := Lib.hid (AX25.out.kept Bq)
            have BX26 := Lib.hid (BX25.out.kept Bq)
            refine hK.out _ _ LX26.out (fun _ => ?_)
            clear hK K Bq AX25 BX25 LX25
            try simp only [Act.put, List.setIfInBounds_toArray, List.set_cons_zero, List.set_cons_succ]
            refine wpAnyH_ready (rs := [15]) (by kernel_rfl) (by simp) ?_
            refine AllReadyH.cons (o := ⟨none, _, _, _, _, _⟩) rfl (fun K hK => ?_) AllReadyH.nil
            · have r0 := AX26.out.cell 0 rfl
              have r1 := AX26.out.cell 1 rfl
              have r2 := AX26.out.cell 2 rfl
              have q0 := AX26.out.frozen 0
              have q1 := AX26.out.frozen 1
              have q2 := AX26.out.frozen 2
              go_simp
              have LX27 := Lib.hid (lowN3 (p := g7) LX26.out Hg7.out (.int .i64 G.c) (.int .i64 G.t) (.int .i64 G.k))
              have BX27 := Lib.hid (farN3 (p := g7) BX26.out NE.out.symm (.int .i64 G.c) (.int .i64 G.t) (.int .i64 G.k))
              have AX27 := Lib.hid (rn_set AX26.out G)
              refine hK.out _ _ LX27.out (fun _ => ?_)
              clear hK K r0 r1 r2 q0 q1 q2 AX26 BX26 LX26
              try simp only [Act.put, List.setIfInBounds_toArray, List.set_cons_zero, List.set_cons_succ]
              generalize (((X26.setCell ⟨g7, 0, none⟩ (.int .i64 G.c)).setCell ⟨g7, 1, none⟩ (.int .i64 G.t)).setCell ⟨g7, 2, none⟩ (.int .i64 G.k)) = X27 at *
              refine wpAnyH_ready (rs := [16]) (by kernel_rfl) (by simp) ?_
              refine AllReadyH.cons (o := ⟨none, _, _, _, _, _⟩) rfl (fun K hK => ?_) AllReadyH.nil
              · have r0 := BX27.out.cell 0 rfl
                have r1 := BX27.out.cell 1 rfl
                have r2 := BX27.out.cell 2 rfl
                have q0 := BX27.out.frozen 0
                have q1 := BX27.out.frozen 1
                have q2 := BX27.out.frozen 2
                go_simp
                have LX28 := Lib.hid (lowN3 (p := g8) LX27.out Hg8.out (.int .i64 D) (.int .i64 D) (.int .i64 0))
                have AX28 := Lib.hid (farN3 (p := g8) AX27.out NE.out (.int .i64 D) (.int .i64 D) (.int .i64 0))
                have BX28 := Lib.hid (rn_set BX27.out ⟨D, D, 0⟩)
                refine hK.out _ _ LX28.out (fun _ => ?_)
                clear hK K r0 r1 r2 q0 q1 q2 AX27 BX27 LX27
                try simp only [Act.put, List.setIfInBounds_toArray, List.set_cons_zero, List.set_cons_succ]
                generalize (((X27.setCell ⟨g8, 0, none⟩ (.int .i64 D)).setCell ⟨g8, 1, none⟩ (.int .i64 D)).setCell ⟨g8, 2, none⟩ (.int .i64 0)) = X28 at *
                refine wpAnyH_done (by kernel_rfl) ?_ _
                refine NoPanic.normal ?_
                go_wp2_with fail
                go_meet
                exact ⟨g7, g8, rfl, rfl, AX28.out, BX28.out, LX28.out⟩
    · go_simp
      refine hK.out _ _ (new_alloc LX0.out _) (fun _ => ?_)
      clear hK K
      try simp only [Act.put, List.setIfInBounds_toArray, List.set_cons_zero, List.set_cons_succ]
      have N := Lib.hid (Blk.new X0 (rnV rnO) 23)
      have LX29 := Lib.hid (new_alloc LX0.out (.cells #[.int .i64 0, .int .i64 0, .int .i64 0] 23))
      have Hg7 := Lib.hid LX0.out.size
      replace N : Hid (Blk (X0.alloc (.cells #[.int .i64 0, .int .i64 0, .int .i64 0] 23)) X0.heap.size (rnV rnO) 23) := N
      generalize X0.heap.size = g7 at *
      generalize X0.alloc (.cells #[.int .i64 0, .int .i64 0, .int .i64 0] 23) = X29 at *
      have AX29 := N
      clear N LX0
      refine wpAnyH_ready (rs := [6, 14]) (by kernel_rfl) (by simp) ?_
      refine AllReadyH.cons (o := ⟨some 19, _, _, _, _, _⟩) rfl (fun K hK => ?_) (AllReadyH.cons (o := ⟨some 8, _, _, _, _, _⟩) rfl (fun K hK => ?_) AllReadyH.nil)
      · go_simp
        refine (GR.out _).mono ?_
        rintro e X30 ⟨rfl, Bq⟩
        have LX30 := Lib.hid (new_then LX29.out Bq)
        have AX30 := Lib.hid (AX29.out.kept Bq)
        refine hK.out _ _ LX30.out (fun _ => ?_)
        clear hK K Bq AX29 LX29
        try simp only [Act.put, List.setIfInBounds_toArray, List.set_cons_zero, List.set_cons_succ]
        refine wpAnyH_ready (rs := [12, 14]) (by kernel_rfl) (by simp) ?_
        refine AllReadyH.cons (o := ⟨some 25, _, _, _, _, _⟩) rfl (fun K hK => ?_) (AllReadyH.cons (o := ⟨some 8, _, _, _, _, _⟩) rfl (fun K hK => ?_) AllReadyH.nil)
        · go_simp
          refine (CU.out _).mono ?_
          rintro e X31 ⟨rfl, Bq⟩
          have LX31 := Lib.hid (new_then LX30.out Bq)
          have AX31 := Lib.hid (AX30.out.kept Bq)
          refine hK.out _ _ LX31.out (fun _ => ?_)
          clear hK K Bq AX30 LX30
          try simp only [Act.put, List.setIfInBounds_toArray, List.set_cons_zero, List.set_cons_succ]
          refine wpAnyH_ready (rs := [14]) (by kernel_rfl) (by simp) ?_
          refine AllReadyH.cons (o := ⟨some 8, _, _, _, _, _⟩) rfl (fun K hK => ?_) AllReadyH.nil
          · go_simp
            refine hK.out _ _ (new_alloc LX31.out _) (fun _ => ?_)
            clear hK K
            try simp only [Act.put, List.setIfInBounds_toArray, List.set_cons_zero, List.set_cons_succ]
            have N := Lib.hid (Blk.new X31 (rnV rnO) 23)
            have LX32 := Lib.hid (new_alloc LX31.out (.cells #[.int .i64 0, .int .i64 0, .int .i64 0] 23))
            have Hg8 := Lib.hid LX31.out.size
            have AX32 := Lib.hid (AX31.out.alloc (.cells #[.int .i64 0, .int .i64 0, .int .i64 0] 23))
            have NE := Lib.hid (Nat.ne_of_lt AX31.out.lt)
            replace N : Hid (Blk (X31.alloc (.cells #[.int .i64 0, .int .i64 0, .int .i64 0] 23)) X31.heap.size (rnV rnO) 23) := N
            generalize X31.heap.size = g8 at *
            generalize X31.alloc (.cells #[.int .i64 0, .int .i64 0, .int .i64 0] 23) = X32 at *
            have BX32 := N
            clear N LX31 AX31
            refine wpAnyH_ready (rs := [15]) (by kernel_rfl) (by simp) ?_
            refine AllReadyH.cons (o := ⟨none, _, _, _, _, _⟩) rfl (fun K hK => ?_) AllReadyH.nil
            · have r0 := AX32.out.cell 0 rfl
              have r1 := AX32.out.cell 1 rfl
              have r2 := AX32.out.cell 2 rfl
              have q0 := AX32.out.frozen 0
              have q1 := AX32.out.frozen 1
              have q2 := AX32.out.frozen 2
              go_simp
              have LX33 := Lib.hid (lowN3 (p := g7) LX32.out Hg7.out (.int .i64 G.c) (.int .i64 G.t) (.int .i64 G.k))
              have BX33 := Lib.hid (farN3 (p := g7) BX32.out NE.out.symm (.int .i64 G.c) (.int .i64 G.t) (.int .i64 G.k))
              have AX33 := Lib.hid (rn_set AX32.out G)
              refine hK.out _ _ LX33.out (fun _ => ?_)
              clear hK K r0 r1 r2 q0 q1 q2 AX32 BX32 LX32
              try simp only [Act.put, List.setIfInBounds_toArray, List.set_cons_zero, List.set_cons_succ]
              generalize (((X32.setCell ⟨g7, 0, none⟩ (.int .i64 G.c)).setCell ⟨g7, 1, none⟩ (.int .i64 G.t)).setCell ⟨g7, 2, none⟩ (.int .i64 G.k)) = X33 at *
              refine wpAnyH_ready (rs := [16]) (by kernel_rfl) (by simp) ?_
              refine AllReadyH.cons (o := ⟨none, _, _, _, _, _⟩) rfl (fun K hK => ?_) AllReadyH.nil
              · have r0 := BX33.out.cell 0 rfl
                have r1 := BX33.out.cell 1 rfl
                have r2 := BX33.out.cell 2 rfl
                have q0 := BX33.out.frozen 0
                have q1 := BX33.out.frozen 1
                have q2 := BX33.out.frozen 2
                go_simp
                have LX34 := Lib.hid (lowN3 (p := g8) LX33.out Hg8.out (.int .i64 D) (.int .i64 D) (.int .i64 0))
                have AX34 := Lib.hid (farN3 (p := g8) AX33.out NE.out (.int .i64 D) (.int .i64 D) (.int .i64 0))
                have BX34 := Lib.hid (rn_set BX33.out ⟨D, D, 0⟩)
                refine hK.out _ _ LX34.out (fun _ => ?_)
                clear hK K r0 r1 r2 q0 q1 q2 AX33 BX33 LX33
                try simp only [Act.put, List.setIfInBounds_toArray, List.set_cons_zero, List.set_cons_succ]
                generalize (((X33.setCell ⟨g8, 0, none⟩ (.int .i64 D)).setCell ⟨g8, 1, none⟩ (.int .i64 D)).setCell ⟨g8, 2, none⟩ (.int .i64 0)) = X34 at *
                refine wpAnyH_done (by kernel_rfl) ?_ _
                refine NoPanic.normal ?_
                go_wp2_with fail
                go_meet
                exact ⟨g7, g8, rfl, rfl, AX34.out, BX34.out, LX34.out⟩
        · go_simp
          refine hK.out _ _ (new_alloc LX30.out _) (fun _ => ?_)
          clear hK K
          try simp only [Act.put, List.setIfInBounds_toArray, List.set_cons_zero, List.set_cons_succ]
          have N := Lib.hid (Blk.new X30 (rnV rnO) 23)
          have LX35 := Lib.hid (new_alloc LX30.out (.cells #[.int .i64 0, .int .i64 0, .int .i64 0] 23))
          have Hg8 := Lib.hid LX30.out.size
          have AX35 := Lib.hid (AX30.out.alloc (.cells #[.int .i64 0, .int .i64 0, .int .i64 0] 23))
          have NE := Lib.hid (Nat.ne_of_lt AX30.out.lt)
          replace N : Hid (Blk (X30.alloc (.cells #[.int .i64 0, .int .i64 0, .int .i64 0] 23)) X30.heap.size (rnV rnO) 23) := N
          generalize X30.heap.size = g8 at *
          generalize X30.alloc (.cells #[.int .i64 0, .int .i64 0, .int .i64 0] 23) = X35 at *
          have BX35 := N
          clear N LX30 AX30
          refine wpAnyH_ready (rs := [12]) (by kernel_rfl) (by simp) ?_
          refine AllReadyH.cons (o := ⟨some 25, _, _, _, _, _⟩) rfl (fun K hK => ?_) AllReadyH.nil
          · go_simp
            refine (CU.out _).mono ?_
            rintro e X36 ⟨rfl, Bq⟩
            have LX36 := Lib.hid (new_then LX35.out Bq)
            have AX36 := Lib.hid (AX35.out.kept Bq)
            have BX36 := Lib.hid (BX35.out.kept Bq)
            refine hK.out _ _ LX36.out (fun _ => ?_)
            clear hK K Bq AX35 BX35 LX35
            try simp only [Act.put, List.setIfInBounds_toArray, List.set_cons_zero, List.set_cons_succ]
            refine wpAnyH_ready (rs := [15]) (by kernel_rfl) (by simp) ?_
            refine AllReadyH.cons (o := ⟨none, _, _, _, _, _⟩) rfl (fun K hK => ?_) AllReadyH.nil
            · have r0 := AX36.out.cell 0 rfl
              have r1 := AX36.out.cell 1 rfl
              have r2 := AX36.out.cell 2 rfl
              have q0 := AX36.out.frozen 0
              have q1 := AX36.out.frozen 1
              have q2 := AX36.out.frozen 2
              go_simp
              have LX37 := Lib.hid (lowN3 (p := g7) LX36.out Hg7.out (.int .i64 G.c) (.int .i64 G.t) (.int .i64 G.k))
              have BX37 := Lib.hid (farN3 (p := g7) BX36.out NE.out.symm (.int .i64 G.c) (.int .i64 G.t) (.int .i64 G.k))
              have AX37 := Lib.hid (rn_set AX36.out G)
              refine hK.out _ _ LX37.out (fun _ => ?_)
              clear hK K r0 r1 r2 q0 q1 q2 AX36 BX36 LX36
              try simp only [Act.put, List.setIfInBounds_toArray, List.set_cons_zero, List.set_cons_succ]
              generalize (((X36.setCell ⟨g7, 0, none⟩ (.int .i64 G.c)).setCell ⟨g7, 1, none⟩ (.int .i64 G.t)).setCell ⟨g7, 2, none⟩ (.int .i64 G.k)) = X37 at *
              refine wpAnyH_ready (rs := [16]) (by kernel_rfl) (by simp) ?_
              refine AllReadyH.cons (o := ⟨none, _, _, _, _, _⟩) rfl (fun K hK => ?_) AllReadyH.nil
              · have r0 := BX37.out.cell 0 rfl
                have r1 := BX37.out.cell 1 rfl
                have r2 := BX37.out.cell 2 rfl
                have q0 := BX37.out.frozen 0
                have q1 := BX37.out.frozen 1
                have q2 := BX37.out.frozen 2
                go_simp
                have LX38 := Lib.hid (lowN3 (p := g8) LX37.out Hg8.out (.int .i64 D) (.int .i64 D) (.int .i64 0))
                have AX38 := Lib.hid (farN3 (p := g8) AX37.out NE.out (.int .i64 D) (.int .i64 D) (.int .i64 0))
                have BX38 := Lib.hid (rn_set BX37.out ⟨D, D, 0⟩)
                refine hK.out _ _ LX38.out (fun _ => ?_)
                clear hK K r0 r1 r2 q0 q1 q2 AX37 BX37 LX37
                try simp only [Act.put, List.setIfInBounds_toArray, List.set_cons_zero, List.set_cons_succ]
                generalize (((X37.setCell ⟨g8, 0, none⟩ (.int .i64 D)).setCell ⟨g8, 1, none⟩ (.int .i64 D)).setCell ⟨g8, 2, none⟩ (.int .i64 0)) = X38 at *
                refine wpAnyH_done (by kernel_rfl) ?_ _
                refine NoPanic.normal ?_
                go_wp2_with fail
                go_meet
                exact ⟨g7, g8, rfl, rfl, AX38.out, BX38.out, LX38.out⟩
      · go_simp
        refine hK.out _ _ (new_alloc LX29.out _) (fun _ => ?_)
        clear hK K
        try simp only [Act.put, List.setIfInBounds_toArray, List.set_cons_zero, List.set_cons_succ]
        have N := Lib.hid (Blk.new X29 (rnV rnO) 23)
        have LX39 := Lib.hid (new_alloc LX29.out (.cells #[.int .i64 0, .int .i64 0, .int .i64 0] 23))
        have Hg8 := Lib.hid LX29.out.size
        have AX39 := Lib.hid (AX29.out.alloc (.cells #[.int .i64 0, .int .i64 0, .int .i64 0] 23))
        have NE := Lib.hid (Nat.ne_of_lt AX29.out.lt)
        replace N : Hid (Blk (X29.alloc (.cells #[.int .i64 0, .int .i64 0, .int .i64 0] 23)) X29.heap.size (rnV rnO) 23) := N
        generalize X29.heap.size = g8 at *
        generalize X29.alloc (.cells #[.int .i64 0, .int .i64 0, .int .i64 0] 23) = X39 at *
        have BX39 := N
        clear N LX29 AX29
        refine wpAnyH_ready (rs := [6]) (by kernel_rfl) (by simp) ?_
        refine AllReadyH.cons (o := ⟨some 19, _, _, _, _, _⟩) rfl (fun K hK => ?_) AllReadyH.nil
        · go_simp
          refine (GR.out _).mono ?_
          rintro e X40 ⟨rfl, Bq⟩
          have LX40 := Lib.hid (new_then LX39.out Bq)
          have AX40 := Lib.hid (AX39.out.kept Bq)
          have BX40 := Lib.hid (BX39.out.kept Bq)
          refine hK.out _ _ LX40.out (fun _ => ?_)
          clear hK K Bq AX39 BX39 LX39
          try simp only [Act.put, List.setIfInBounds_toArray, List.set_cons_zero, List.set_cons_succ]
          refine wpAnyH_ready (rs := [12]) (by kernel_rfl) (by simp) ?_
          refine AllReadyH.cons (o := ⟨some 25, _, _, _, _, _⟩) rfl (fun K hK => ?_) AllReadyH.nil
          · go_simp
            refine (CU.out _).mono ?_
            rintro e X41 ⟨rfl, Bq⟩
            have LX41 := Lib.hid (new_then LX40.out Bq)
            have AX41 := Lib.hid (AX40.out.kept Bq)
            have BX41 := Lib.hid (BX40.out.kept Bq)
            refine hK.out _ _ LX41.out (fun _ => ?_)
            clear hK K Bq AX40 BX40 LX40
            try simp only [Act.put, List.setIfInBounds_toArray, List.set_cons_zero, List.set_cons_succ]
            refine wpAnyH_ready (rs := [15]) (by kernel_rfl) (by simp) ?_
            refine AllReadyH.cons (o := ⟨none, _, _, _, _, _⟩) rfl (fun K hK => ?_) AllReadyH.nil
            · have r0 := AX41.out.cell 0 rfl
              have r1 := AX41.out.cell 1 rfl
              have r2 := AX41.out.cell 2 rfl
              have q0 := AX41.out.frozen 0
              have q1 := AX41.out.frozen 1
              have q2 := AX41.out.frozen 2
              go_simp
              have LX42 := Lib.hid (lowN3 (p := g7) LX41.out Hg7.out (.int .i64 G.c) (.int .i64 G.t) (.int .i64 G.k))
              have BX42 := Lib.hid (farN3 (p := g7) BX41.out NE.out.symm (.int .i64 G.c) (.int .i64 G.t) (.int .i64 G.k))
              have AX42 := Lib.hid (rn_set AX41.out G)
              refine hK.out _ _ LX42.out (fun _ => ?_)
              clear hK K r0 r1 r2 q0 q1 q2 AX41 BX41 LX41
              try simp only [Act.put, List.setIfInBounds_toArray, List.set_cons_zero, List.set_cons_succ]
              generalize (((X41.setCell ⟨g7, 0, none⟩ (.int .i64 G.c)).setCell ⟨g7, 1, none⟩ (.int .i64 G.t)).setCell ⟨g7, 2, none⟩ (.int .i64 G.k)) = X42 at *
              refine wpAnyH_ready (rs := [16]) (by kernel_rfl) (by simp) ?_
              refine AllReadyH.cons (o := ⟨none, _, _, _, _, _⟩) rfl (fun K hK => ?_) AllReadyH.nil
              · have r0 := BX42.out.cell 0 rfl
                have r1 := BX42.out.cell 1 rfl
                have r2 := BX42.out.cell 2 rfl
                have q0 := BX42.out.frozen 0
                have q1 := BX42.out.frozen 1
                have q2 := BX42.out.frozen 2
                go_simp
                have LX43 := Lib.hid (lowN3 (p := g8) LX42.out Hg8.out (.int .i64 D) (.int .i64 D) (.int .i64 0))
                have AX43 := Lib.hid (farN3 (p := g8) AX42.out NE.out (.int .i64 D) (.int .i64 D) (.int .i64 0))
                have BX43 := Lib.hid (rn_set BX42.out ⟨D, D, 0⟩)
                refine hK.out _ _ LX43.out (fun _ => ?_)
                clear hK K r0 r1 r2 q0 q1 q2 AX42 BX42 LX42
                try simp only [Act.put, List.setIfInBounds_toArray, List.set_cons_zero, List.set_cons_succ]
                generalize (((X42.setCell ⟨g8, 0, none⟩ (.int .i64 D)).setCell ⟨g8, 1, none⟩ (.int .i64 D)).setCell ⟨g8, 2, none⟩ (.int .i64 0)) = X43 at *
                refine wpAnyH_done (by kernel_rfl) ?_ _
                refine NoPanic.normal ?_
                go_wp2_with fail
                go_meet
                exact ⟨g7, g8, rfl, rfl, AX43.out, BX43.out, LX43.out⟩
    · go_simp
      refine hK.out _ _ (new_alloc LX0.out _) (fun _ => ?_)
      clear hK K
      try simp only [Act.put, List.setIfInBounds_toArray, List.set_cons_zero, List.set_cons_succ]
      have N := Lib.hid (Blk.new X0 (rnV rnO) 23)
      have LX44 := Lib.hid (new_alloc LX0.out (.cells #[.int .i64 0, .int .i64 0, .int .i64 0] 23))
      have Hg8 := Lib.hid LX0.out.size
      replace N : Hid (Blk (X0.alloc (.cells #[.int .i64 0, .int .i64 0, .int .i64 0] 23)) X0.heap.size (rnV rnO) 23) := N
      generalize X0.heap.size = g8 at *
      generalize X0.alloc (.cells #[.int .i64 0, .int .i64 0, .int .i64 0] 23) = X44 at *
      have BX44 := N
      clear N LX0
      refine wpAnyH_ready (rs := [6, 13]) (by kernel_rfl) (by simp) ?_
      refine AllReadyH.cons (o := ⟨some 19, _, _, _, _, _⟩) rfl (fun K hK => ?_) (AllReadyH.cons (o := ⟨some 7, _, _, _, _, _⟩) rfl (fun K hK => ?_) AllReadyH.nil)
      · go_simp
        refine (GR.out _).mono ?_
        rintro e X45 ⟨rfl, Bq⟩
        have LX45 := Lib.hid (new_then LX44.out Bq)
        have BX45 := Lib.hid (BX44.out.kept Bq)
        refine hK.out _ _ LX45.out (fun _ => ?_)
        clear hK K Bq BX44 LX44
        try simp only [Act.put, List.setIfInBounds_toArray, List.set_cons_zero, List.set_cons_succ]
        refine wpAnyH_ready (rs := [12, 13]) (by kernel_rfl) (by simp) ?_
        refine AllReadyH.cons (o := ⟨some 25, _, _, _, _, _⟩) rfl (fun K hK => ?_) (AllReadyH.cons (o := ⟨some 7, _, _, _, _, _⟩) rfl (fun K hK => ?_) AllReadyH.nil)
        · go_simp
          refine (CU.out _).mono ?_
          rintro e X46 ⟨rfl, Bq⟩
          have LX46 := Lib.hid (new_then LX45.out Bq)
          have BX46 := Lib.hid (BX45.out.kept Bq)
          refine hK.out _ _ LX46.out (fun _ => ?_)
          clear hK K Bq BX45 LX45
          try simp only [Act.put, List.setIfInBounds_toArray, List.set_cons_zero, List.set_cons_succ]
          refine wpAnyH_ready (rs := [13]) (by kernel_rfl) (by simp) ?_
          refine AllReadyH.cons (o := ⟨some 7, _, _, _, _, _⟩) rfl (fun K hK => ?_) AllReadyH.nil
          · go_simp
            refine hK.out _ _ (new_alloc LX46.out _) (fun _ => ?_)
            clear hK K
            try simp only [Act.put, List.setIfInBounds_toArray, List.set_cons_zero, List.set_cons_succ]
            have N := Lib.hid (Blk.new X46 (rnV rnO) 23)
            have LX47 := Lib.hid (new_alloc LX46.out (.cells #[.int .i64 0, .int .i64 0, .int .i64 0] 23))
            have Hg7 := Lib.hid LX46.out.size
            have BX47 := Lib.hid (BX46.out.alloc (.cells #[.int .i64 0, .int .i64 0, .int .i64 0] 23))
            have NE := Lib.hid (Nat.ne_of_lt BX46.out.lt).symm
            replace N : Hid (Blk (X46.alloc (.cells #[.int .i64 0, .int .i64 0, .int .i64 0] 23)) X46.heap.size (rnV rnO) 23) := N
            generalize X46.heap.size = g7 at *
            generalize X46.alloc (.cells #[.int .i64 0, .int .i64 0, .int .i64 0] 23) = X47 at *
            have AX47 := N
            clear N LX46 BX46
            refine wpAnyH_ready (rs := [15]) (by kernel_rfl) (by simp) ?_
            refine AllReadyH.cons (o := ⟨none, _, _, _, _, _⟩) rfl (fun K hK => ?_) AllReadyH.nil
            · have r0 := AX47.out.cell 0 rfl
              have r1 := AX47.out.cell 1 rfl
              have r2 := AX47.out.cell 2 rfl
              have q0 := AX47.out.frozen 0
              have q1 := AX47.out.frozen 1
              have q2 := AX47.out.frozen 2
              go_simp
              have LX48 := Lib.hid (lowN3 (p := g7) LX47.out Hg7.out (.int .i64 G.c) (.int .i64 G.t) (.int .i64 G.k))
              have BX48 := Lib.hid (farN3 (p := g7) BX47.out NE.out.symm (.int .i64 G.c) (.int .i64 G.t) (.int .i64 G.k))
              have AX48 := Lib.hid (rn_set AX47.out G)
              refine hK.out _ _ LX48.out (fun _ => ?_)
              clear hK K r0 r1 r2 q0 q1 q2 AX47 BX47 LX47
              try simp only [Act.put, List.setIfInBounds_toArray, List.set_cons_zero, List.set_cons_succ]
              generalize (((X47.setCell ⟨g7, 0, none⟩ (.int .i64 G.c)).setCell ⟨g7, 1, none⟩ (.int .i64 G.t)).setCell ⟨g7, 2, none⟩ (.int .i64 G.k)) = X48 at *
              refine wpAnyH_ready (rs := [16]) (by kernel_rfl) (by simp) ?_
              refine AllReadyH.cons (o := ⟨none, _, _, _, _, _⟩) rfl (fun K hK => ?_) AllReadyH.nil
              · have r0 := BX48.out.cell 0 rfl
                have r1 := BX48.out.cell 1 rfl
                have r2 := BX48.out.cell 2 rfl
                have q0 := BX48.out.frozen 0
                have q1 := BX48.out.frozen 1
                have q2 := BX48.out.frozen 2
                go_simp
                have LX49 := Lib.hid (lowN3 (p := g8) LX48.out Hg8.out (.int .i64 D) (.int .i64 D) (.int .i64 0))
                have AX49 := Lib.hid (farN3 (p := g8) AX48.out NE.out (.int .i64 D) (.int .i64 D) (.int .i64 0))
                have BX49 := Lib.hid (rn_set BX48.out ⟨D, D, 0⟩)
                refine hK.out _ _ LX49.out (fun _ => ?_)
                clear hK K r0 r1 r2 q0 q1 q2 AX48 BX48 LX48
                try simp only [Act.put, List.setIfInBounds_toArray, List.set_cons_zero, List.set_cons_succ]
                generalize (((X48.setCell ⟨g8, 0, none⟩ (.int .i64 D)).setCell ⟨g8, 1, none⟩ (.int .i64 D)).setCell ⟨g8, 2, none⟩ (.int .i64 0)) = X49 at *
                refine wpAnyH_done (by kernel_rfl) ?_ _
                refine NoPanic.normal ?_
                go_wp2_with fail
                go_meet
                exact ⟨g7, g8, rfl, rfl, AX49.out, BX49.out, LX49.out⟩
        · go_simp
          refine hK.out _ _ (new_alloc LX45.out _) (fun _ => ?_)
          clear hK K
          try simp only [Act.put, List.setIfInBounds_toArray, List.set_cons_zero, List.set_cons_succ]
          have N := Lib.hid (Blk.new X45 (rnV rnO) 23)
          have LX50 := Lib.hid (new_alloc LX45.out (.cells #[.int .i64 0, .int .i64 0, .int .i64 0] 23))
          have Hg7 := Lib.hid LX45.out.size
          have BX50 := Lib.hid (BX45.out.alloc (.cells #[.int .i64 0, .int .i64 0, .int .i64 0] 23))
          have NE := Lib.hid (Nat.ne_of_lt BX45.out.lt).symm
          replace N : Hid (Blk (X45.alloc (.cells #[.int .i64 0, .int .i64 0, .int .i64 0] 23)) X45.heap.size (rnV rnO) 23) := N
          generalize X45.heap.size = g7 at *
          generalize X45.alloc (.cells #[.int .i64 0, .int .i64 0, .int .i64 0] 23) = X50 at *
          have AX50 := N
          clear N LX45 BX45
          refine wpAnyH_ready (rs := [12]) (by kernel_rfl) (by simp) ?_
          refine AllReadyH.cons (o := ⟨some 25, _, _, _, _, _⟩) rfl (fun K hK => ?_) AllReadyH.nil
          · go_simp
            refine (CU.out _).mono ?_
            rintro e X51 ⟨rfl, Bq⟩
            have LX51 := Lib.hid (new_then LX50.out Bq)
            have AX51 := Lib.hid (AX50.out.kept Bq)
            have BX51 := Lib.hid (BX50.out.kept Bq)
            refine hK.out _ _ LX51.out (fun _ => ?_)
            clear hK K Bq AX50 BX50 LX50
            try simp only [Act.put, List.setIfInBounds_toArray, List.set_cons_zero, List.set_cons_succ]
            refine wpAnyH_ready (rs := [15]) (by kernel_rfl) (by simp) ?_
            refine AllReadyH.cons (o := ⟨none, _, _, _, _, _⟩) rfl (fun K hK => ?_) AllReadyH.nil
            · have r0 := AX51.out.cell 0 rfl
              have r1 := AX51.out.cell 1 rfl
              have r2 := AX51.out.cell 2 rfl
              have q0 := AX51.out.frozen 0
              have q1 := AX51.out.frozen 1
              have q2 := AX51.out.frozen 2
              go_simp
              have LX52 := Lib.hid (lowN3 (p := g7) LX51.out Hg7.out (.int .i64 G.c) (.int .i64 G.t) (.int .i64 G.k))
              have BX52 := Lib.hid (farN3 (p := g7) BX51.out NE.out.symm (.int .i64 G.c) (.int .i64 G.t) (.int .i64 G.k))
              have AX52 := Lib.hid (rn_set AX51.out G)
              refine hK.out _ _ LX52.out (fun _ => ?_)
              clear hK K r0 r1 r2 q0 q1 q2 AX51 BX51 LX51
              try simp only [Act.put, List.setIfInBounds_toArray, List.set_cons_zero, List.set_cons_succ]
              generalize (((X51.setCell ⟨g7, 0, none⟩ (.int .i64 G.c)).setCell ⟨g7, 1, none⟩ (.int .i64 G.t)).setCell ⟨g7, 2, none⟩ (.int .i64 G.k)) = X52 at *
              refine wpAnyH_ready (rs := [16]) (by kernel_rfl) (by simp) ?_
              refine AllReadyH.cons (o := ⟨none, _, _, _, _, _⟩) rfl (fun K hK => ?_) AllReadyH.nil
              · have r0 := BX52.out.cell 0 rfl
                have r1 := BX52.out.cell 1 rfl
                have r2 := BX52.out.cell 2 rfl
                have q0 := BX52.out.frozen 0
                have q1 := BX52.out.frozen 1
                have q2 := BX52.out.frozen 2
                go_simp
                have LX53 := Lib.hid (lowN3 (p := g8) LX52.out Hg8.out (.int .i64 D) (.int .i64 D) (.int .i64 0))
                have AX53 := Lib.hid (farN3 (p := g8) AX52.out NE.out (.int .i64 D) (.int .i64 D) (.int .i64 0))
                have BX53 := Lib.hid (rn_set BX52.out ⟨D, D, 0⟩)
                refine hK.out _ _ LX53.out (fun _ => ?_)
                clear hK K r0 r1 r2 q0 q1 q2 AX52 BX52 LX52
                try simp only [Act.put, List.setIfInBounds_toArray, List.set_cons_zero, List.set_cons_succ]
                generalize (((X52.setCell ⟨g8, 0, none⟩ (.int .i64 D)).setCell ⟨g8, 1, none⟩ (.int .i64 D)).setCell ⟨g8, 2, none⟩ (.int .i64 0)) = X53 at *
                refine wpAnyH_done (by kernel_rfl) ?_ _
                refine NoPanic.normal ?_
                go_wp2_with fail
                go_meet
                exact ⟨g7, g8, rfl, rfl, AX53.out, BX53.out, LX53.out⟩
      · go_simp
        refine hK.out _ _ (new_alloc LX44.out _) (fun _ => ?_)
        clear hK K
        try simp only [Act.put, List.setIfInBounds_toArray, List.set_cons_zero, List.set_cons_succ]
        have N := Lib.hid (Blk.new X44 (rnV rnO) 23)
        have LX54 := Lib.hid (new_alloc LX44.out (.cells #[.int .i64 0, .int .i64 0, .int .i64 0] 23))
        have Hg7 := Lib.hid LX44.out.size
        have BX54 := Lib.hid (BX44.out.alloc (.cells #[.int .i64 0, .int .i64 0, .int .i64 0] 23))
        have NE := Lib.hid (Nat.ne_of_lt BX44.out.lt).symm
        replace N : Hid (Blk (X44.alloc (.cells #[.int .i64 0, .int .i64 0, .int .i64 0] 23)) X44.heap.size (rnV rnO) 23) := N
        generalize X44.heap.size = g7 at *
        generalize X44.alloc (.cells #[.int .i64 0, .int .i64 0, .int .i64 0] 23) = X54 at *
        have AX54 := N
        clear N LX44 BX44
        refine wpAnyH_ready (rs := [6]) (by kernel_rfl) (by simp) ?_
        refine AllReadyH.cons (o := ⟨some 19, _, _, _, _, _⟩) rfl (fun K hK => ?_) AllReadyH.nil
        · go_simp
          refine (GR.out _).mono ?_
          rintro e X55 ⟨rfl, Bq⟩
          have LX55 := Lib.hid (new_then LX54.out Bq)
          have AX55 := Lib.hid (AX54.out.kept Bq)
          have BX55 := Lib.hid (BX54.out.kept Bq)
          refine hK.out _ _ LX55.out (fun _ => ?_)
          clear hK K Bq AX54 BX54 LX54
          try simp only [Act.put, List.setIfInBounds_toArray, List.set_cons_zero, List.set_cons_succ]
          refine wpAnyH_ready (rs := [12]) (by kernel_rfl) (by simp) ?_
          refine AllReadyH.cons (o := ⟨some 25, _, _, _, _, _⟩) rfl (fun K hK => ?_) AllReadyH.nil
          · go_simp
            refine (CU.out _).mono ?_
            rintro e X56 ⟨rfl, Bq⟩
            have LX56 := Lib.hid (new_then LX55.out Bq)
            have AX56 := Lib.hid (AX55.out.kept Bq)
            have BX56 := Lib.hid (BX55.out.kept Bq)
            refine hK.out _ _ LX56.out (fun _ => ?_)
            clear hK K Bq AX55 BX55 LX55
            try simp only [Act.put, List.setIfInBounds_toArray, List.set_cons_zero, List.set_cons_succ]
            refine wpAnyH_ready (rs := [15]) (by kernel_rfl) (by simp) ?_
            refine AllReadyH.cons (o := ⟨none, _, _, _, _, _⟩) rfl (fun K hK => ?_) AllReadyH.nil
            · have r0 := AX56.out.cell 0 rfl
              have r1 := AX56.out.cell 1 rfl
              have r2 := AX56.out.cell 2 rfl
              have q0 := AX56.out.frozen 0
              have q1 := AX56.out.frozen 1
              have q2 := AX56.out.frozen 2
              go_simp
              have LX57 := Lib.hid (lowN3 (p := g7) LX56.out Hg7.out (.int .i64 G.c) (.int .i64 G.t) (.int .i64 G.k))
              have BX57 := Lib.hid (farN3 (p := g7) BX56.out NE.out.symm (.int .i64 G.c) (.int .i64 G.t) (.int .i64 G.k))
              have AX57 := Lib.hid (rn_set AX56.out G)
              refine hK.out _ _ LX57.out (fun _ => ?_)
              clear hK K r0 r1 r2 q0 q1 q2 AX56 BX56 LX56
              try simp only [Act.put, List.setIfInBounds_toArray, List.set_cons_zero, List.set_cons_succ]
              generalize (((X56.setCell ⟨g7, 0, none⟩ (.int .i64 G.c)).setCell ⟨g7, 1, none⟩ (.int .i64 G.t)).setCell ⟨g7, 2, none⟩ (.int .i64 G.k)) = X57 at *
              refine wpAnyH_ready (rs := [16]) (by kernel_rfl) (by simp) ?_
              refine AllReadyH.cons (o := ⟨none, _, _, _, _, _⟩) rfl (fun K hK => ?_) AllReadyH.nil
              · have r0 := BX57.out.cell 0 rfl
                have r1 := BX57.out.cell 1 rfl
                have r2 := BX57.out.cell 2 rfl
                have q0 := BX57.out.frozen 0
                have q1 := BX57.out.frozen 1
                have q2 := BX57.out.frozen 2
                go_simp
                have LX58 := Lib.hid (lowN3 (p := g8) LX57.out Hg8.out (.int .i64 D) (.int .i64 D) (.int .i64 0))
                have AX58 := Lib.hid (farN3 (p := g8) AX57.out NE.out (.int .i64 D) (.int .i64 D) (.int .i64 0))
                have BX58 := Lib.hid (rn_set BX57.out ⟨D, D, 0⟩)
                refine hK.out _ _ LX58.out (fun _ => ?_)
                clear hK K r0 r1 r2 q0 q1 q2 AX57 BX57 LX57
                try simp only [Act.put, List.setIfInBounds_toArray, List.set_cons_zero, List.set_cons_succ]
                generalize (((X57.setCell ⟨g8, 0, none⟩ (.int .i64 D)).setCell ⟨g8, 1, none⟩ (.int .i64 D)).setCell ⟨g8, 2, none⟩ (.int .i64 0)) = X58 at *
                refine wpAnyH_done (by kernel_rfl) ?_ _
                refine NoPanic.normal ?_
                go_wp2_with fail
                go_meet
                exact ⟨g7, g8, rfl, rfl, AX58.out, BX58.out, LX58.out⟩
  case rest =>
    obtain ⟨g7, g8, rfl, rfl, A, B, BL⟩ := hcut
    have e0 := cell_by (A.cell 0 rfl)
    have e1 := cell_by (B.cell 0 rfl)
    have e2 := cell_by (B.cell 1 rfl)
    have e3 := cell_by ((V.out.kept BL).cell 0 rfl)
    have e4 := cell_by ((T1.out.kept BL).cell 0 rfl)
    have L2 := Lib.hid (new_then L1.out BL)
    have wT := HWT.out.1
    have wT2 := HWT.out.2
    obtain ⟨m1, m2, m3⟩ := rnMin_is HM.out
    have i1 := HUP.out
    have i2 := HDN.out.2.1
    have i3 := HDN.out.2.2.1
    clear A B BL V T1 L1 c0 c1 c2 t0 t1 l1 l2 GR CU HUP HDN HM HWT
    go_upto_region 3 with fail
    refine wp_region_quiet_below (by kernel_rfl) (by kernel_rfl) ?_
    repeat (go_big_quiet_step (first
      | (go_at_call 15; refine calls_by_same (SZ.out _))
      | (go_at_call 12; refine calls_by (works24_any _))))
    refine wpQuiet_nil ?_
    intro wq hw'
    obtain ⟨⟨wr, Bq⟩, hw''⟩ := hw'
    subst hw''
    clear e0 e1 e2 e3 e4
    go_wp2_with fail
    go_ret
    exact ⟨rfl, new_then L2.out Bq⟩

set_option maxRecDepth 100000 in
theorem lifted (os : Os) (started : os.Started) (H : Type) (enc : TypeId × Value → H) :
    ReturnsInHanded {} Try.checked os 4 .any (Rows.renoStepsSpec.pre6 enc Try.prog Try.f4 Rows.renoStepsRow.domain false) (Rows.renoStepsSpec.post enc Try.prog Try.f4 false true false false) := by
  refine returnsInHanded_of_change (C := Try.checked) own started (by kernel_rfl) Try.func4
    (ChangeSpec.witness6 (enc := enc) (C := Try.checked) false ⟨#[], #[.agg #[.int .i64 0, .int .i64 0, .int .i64 0], .int .i64 0, .agg #[.int .i64 0, .int .i64 0]], []⟩ 8 (by kernel_rfl) (by kernel_rfl) (by kernel_rfl) (by kernel_rfl)) ?_
  intro W base args ds gs before hval0 hW hcnd _
  have hval : ∀ (j : Nat) t v, Try.f4.params[j]? = some t → args[j]? = some v → Value.okWide Try.prog W .any base t v := hval0
  have hW' := hW
  obtain ⟨p, q, hA0, hV, rfl, hfz, hnd⟩ := hW
  have hA : DataW.TrodAll enc Try.prog W 0 (fun _ => true) true Try.f4.params.toList args.toList ds p := hA0
  rw [Try.params4] at hA hval
  obtain ⟨v0, vs0, d0, ds0, p0, q0, hargs, rfl, rfl, h0, r0⟩ := trodAll_cons hA
  obtain ⟨v1, vs1, d1, ds1, p1, q1, rfl, rfl, rfl, h1, r1⟩ := trodAll_cons r0
  obtain ⟨v2, vs2, d2, ds2, p2, q2, rfl, rfl, rfl, h2, r2⟩ := trodAll_cons r1
  obtain ⟨rfl, rfl, rfl⟩ := trodAll_nil r2
  obtain rfl : args = #[v0, v1, v2] := by cases args; simp_all
  obtain ⟨rfl, rfl⟩ := trodVars_none hV
  have k0 := h0
  have lt0 : ∀ x ∈ p0, x.block < W.heap.size := by obtain ⟨m, hm⟩ := k0; exact DataW.trod_lt m _ _ _ hm
  obtain ⟨cs0, rfl, l0, L0⟩ := flat_of (n := 3) (ls := [(0, .inl .i64), (1, .inl .i64), (2, .inl .i64)]) (by kernel_rfl) (by kernel_rfl) (agg_of_struct Try.underlying23 (hval 0 23 v0 rfl rfl)) h0
  obtain ⟨a0x0, e0x0, w0x0⟩ := leaf_int (L0 (0, .inl .i64) (by simp))
  obtain ⟨a0x1, e0x1, w0x1⟩ := leaf_int (L0 (1, .inl .i64) (by simp))
  obtain ⟨a0x2, e0x2, w0x2⟩ := leaf_int (L0 (2, .inl .i64) (by simp))
  obtain rfl : cs0 = [.int .i64 a0x0, .int .i64 a0x1, .int .i64 a0x2] := list_is l0 rfl (by intro i hi; match i, hi with | 0, _ => exact e0x0 | 1, _ => exact e0x1 | 2, _ => exact e0x2)
  have k1 := h1
  have lt1 : ∀ x ∈ p1, x.block < W.heap.size := by obtain ⟨m, hm⟩ := k1; exact DataW.trod_lt m _ _ _ hm
  obtain ⟨a1, rfl, _, _, w1⟩ := open_int Try.underlying2 (hval 1 2 v1 rfl rfl) h1
  have k2 := h2
  have lt2 : ∀ x ∈ p2, x.block < W.heap.size := by obtain ⟨m, hm⟩ := k2; exact DataW.trod_lt m _ _ _ hm
  obtain ⟨cs2, rfl, l2, L2⟩ := flat_of (n := 2) (ls := [(0, .inl .i64), (1, .inl .i64)]) (by kernel_rfl) (by kernel_rfl) (agg_of_array Try.underlying29 (hval 2 29 v2 rfl rfl)) h2
  obtain ⟨a2x0, e2x0, w2x0⟩ := leaf_int (L2 (0, .inl .i64) (by simp))
  obtain ⟨a2x1, e2x1, w2x1⟩ := leaf_int (L2 (1, .inl .i64) (by simp))
  obtain rfl : cs2 = [.int .i64 a2x0, .int .i64 a2x1] := list_is l2 rfl (by intro i hi; match i, hi with | 0, _ => exact e2x0 | 1, _ => exact e2x1)
  clear hA0 hval0
  refine (walk a0x0 a0x1 a0x2 a1 a2x0 a2x1 W w0x0 w0x1 w0x2 w1 w2x0 w2x1).mono fun e W' ⟨he, bel⟩ => ?_
  subst he
  exact ⟨_, rfl, _, _, _, [], _, [], hW', trodAll_mk1 (shut_bool Try.underlying4 _), (trodAll_cons_mk (Below.trod laidOut (by kernel_rfl) (of_decide_eq_true (by kernel_rfl)) k0 bel lt0) (trodAll_cons_mk (Below.trod laidOut (by kernel_rfl) (of_decide_eq_true (by kernel_rfl)) k1 bel lt1) (trodAll_cons_mk (Below.trod laidOut (by kernel_rfl) (of_decide_eq_true (by kernel_rfl)) k2 bel lt2) trodAll_mk0))), rfl, bel.frame _, fun h => by cases h⟩

theorem over : Rows.renoStepsRow.holds Try.pinned (OpenSpec.ofChange Rows.renoStepsSpec) :=
  OpenClaim.holds_of_wide 4 Try.f4 rfl rfl rfl rfl rfl rfl rfl ⟨rfl, rfl, rfl, rfl, rfl⟩ rfl rfl rfl rfl rfl (by kernel_rfl) Try.func4 (by kernel_rfl)
    (of_decide_eq_true (by kernel_rfl)) (by unfold Func.isWrapper; first | (rw [if_pos (by decide +kernel)]; kernel_rfl) | (rw [if_neg (by decide +kernel)]; exact ⟨rfl, rfl⟩))
    (fun os started H enc _ => lifted os started H enc)
end renoSteps
theorem renoSteps_holds : Rows.RenoStepsSaid := renoSteps.over
end Go.Proofs.Ytbfghiocfognlaa
