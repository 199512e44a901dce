/- Sizes let go one by one when they may be: plain facts; the bucket and both rows in memory. -/
import Derived.Test.YtimipikabedjnaaPacG
import Derived.Test.YtimipikabedjnaaRowM
import Derived.Test.YtimipikabedjnaaCodB
namespace Go.Proofs.Ytimipikabedjnaa
open Go.ChangeShapes Go.WideShapes Go.ChangeAt Go.RowKit
set_option linter.unusedVariables false

/-- The sum of the first k. -/
def psP (l : List Int) (k : Nat) : Int := (l.take k).sum
theorem psP_zero (l : List Int) : psP l 0 = 0 := by simp [psP]
theorem psP_succ {l : List Int} {k : Nat} (h : k < l.length) : psP l (k + 1) = psP l k + l[k]?.getD 0 := by
  unfold psP
  rw [List.take_add_one, List.sum_append, List.getElem?_eq_getElem h]; simp
theorem psP_app {l : List Int} {k : Nat} (h : k ≤ l.length) (x : Int) : psP (l ++ [x]) k = psP l k := by
  unfold psP; rw [List.take_append_of_le_length h]
theorem psP_end {l : List Int} {k : Nat} (h : l.length = k) (x : Int) : psP (l ++ [x]) (k + 1) = psP l k + x := by
  subst h
  unfold psP
  rw [List.take_of_length_le (by simp), List.take_of_length_le (Nat.le_refl _), List.sum_append]; simp
theorem getP_app {l : List Int} {i : Nat} (h : i < l.length) (x : Int) : (l ++ [x])[i]?.getD 0 = l[i]?.getD 0 := by rw [List.getElem?_append_left h]
theorem getP_end {l : List Int} {k : Nat} (h : l.length = k) (x : Int) : (l ++ [x])[k]?.getD 0 = x := by
  subst h; simp

/-- What was let go so far: when, and how much; the bucket's level and time behind it. -/
structure PcPl (R U : Int) (ats sents : List Int) (L N : Int) (k : Nat) : Prop where
  la : ats.length = k
  ls : sents.length = k
  lev : 0 ≤ L ∧ L ≤ U * 1000000
  now : 0 ≤ N ∧ R * N ≤ (k : Int) * 69830967296
  mem : ∀ i, i < k → 0 ≤ ats[i]?.getD 0 ∧ ats[i]?.getD 0 ≤ N ∧ 0 ≤ sents[i]?.getD 0 ∧ sents[i]?.getD 0 ≤ 65536
  sum : ∀ i, i ≤ k → 0 ≤ psP sents i ∧ psP sents i ≤ (i : Int) * 65536
  run : ∀ i, i < k → (psP sents k - psP sents i) * 1000000 + L ≤ U * 1000000 + R * (N - ats[i]?.getD 0)
  good : ∀ i j, i ≤ j → j < k → (psP sents (j + 1) - psP sents i - U) * 1000000 ≤ R * (ats[j]?.getD 0 - ats[i]?.getD 0)
theorem pcPl_start (R : Int) {U : Int} (hU : 1 ≤ U) : PcPl R U [] [] 0 0 0 := by
  refine ⟨rfl, rfl, ⟨by omega, by omega⟩, ⟨by omega, by simp⟩, fun i h => by omega, fun i h => ?_, fun i h => by omega, fun i j h h' => by omega⟩
  obtain rfl : i = 0 := by omega
  simp [psP]
theorem mulP_ge {R x : Int} (hR : 1 ≤ R) (hx : 0 ≤ x) : x ≤ R * x := by
  have := Int.mul_le_mul_of_nonneg_right hR hx
  omega
theorem pcPl_bd {R U L N : Int} {ats sents : List Int} {k : Nat} (h : PcPl R U ats sents L N k) (hR : 1 ≤ R) (hk : k ≤ 40) : 0 ≤ N ∧ N ≤ 2793238691840 ∧ 0 ≤ R * N ∧ R * N ≤ 2793238691840 := by
  have h1 := h.now
  have h2 := mulP_ge hR h1.1
  have h3 := Int.mul_nonneg (show 0 ≤ R by omega) h1.1
  omega
theorem pcPl_next {R U L N : Int} {ats sents : List Int} {k : Nat} (h : PcPl R U ats sents L N k) (hR : 1 ≤ R ∧ R ≤ 4294967296) (hU : 1 ≤ U ∧ U ≤ 65536) (hk : k < 40) {s : Int} (hs : 0 ≤ s ∧ s ≤ U) :
    ∃ N' L', pcWhen ⟨R, U, L, N⟩ N s = N' ∧ pcSpend ⟨R, U, L, N⟩ N' s = ⟨R, U, L', N'⟩ ∧ PcPl R U (ats ++ [N']) (sents ++ [s]) L' N' (k + 1) ∧ 0 ≤ N' ∧ N' ≤ 35184372088832 := by
  have bN := pcPl_bd h hR.1 (by omega)
  have bL := h.lev
  obtain ⟨o1, o2, o3, o4⟩ := pcIn_own (c := ⟨R, U, L, N⟩) (show 1 ≤ R ∧ R ≤ 1099511627776 by omega) (show 1 ≤ U ∧ U ≤ 1099511627776 by omega)
    (by show -2305843009213693952 ≤ L ∧ L ≤ pcF U; unfold pcF; rw [show pcE U = U from clampP_in (by omega) (by omega)]; omega) (show 0 ≤ N ∧ N ≤ 1125899906842624 by omega)
  dsimp only at o1 o2 o3 o4
  have hF : pcF U = U * 1000000 := by unfold pcF; rw [o2]
  have hT : pcT ⟨R, U, L, N⟩ s = s * 1000000 := by
    unfold pcT pcZ
    dsimp only
    rw [o2, show clampI s 0 U = s from clampP_in hs.1 hs.2]
  have hM : pcM ⟨R, U, L, N⟩ N = N := by unfold pcM; dsimp only; rw [o4]; omega
  have hW : pcWhen ⟨R, U, L, N⟩ N s = max N (N + pcUp (s * 1000000 - L) R) := by
    unfold pcWhen; rw [hM, hT, o3]; dsimp only; rw [o4, o1]
  obtain ⟨k1, k2⟩ := pcUp_is (s * 1000000 - L) (show 0 < R by omega)
  obtain ⟨D, hD⟩ : ∃ D, max 0 (pcUp (s * 1000000 - L) R) = D := ⟨_, rfl⟩
  have hD0 : 0 ≤ D := by omega
  have hRD : 0 ≤ R * D ∧ R * D ≤ 69830967296 := by
    refine ⟨Int.mul_nonneg (by omega) hD0, ?_⟩
    generalize pcUp (s * 1000000 - L) R = u at *
    rcases Int.le_total u 0 with hu | hu
    · obtain rfl : D = 0 := by omega
      simp
    · obtain rfl : D = u := by omega
      rw [Int.mul_sub] at k1
      omega
  have hWD : pcWhen ⟨R, U, L, N⟩ N s = N + D := by rw [hW]; omega
  have hDD := mulP_ge hR.1 hD0
  have hMW : pcM ⟨R, U, L, N⟩ (N + D) = N + D := by
    unfold pcM
    dsimp only
    rw [o4, show pcN (N + D) = N + D from clampP_in (by omega) (by omega)]; omega
  have may := pcFirst_may (c := ⟨R, U, L, N⟩) (n := N) (s := s) (by rw [hWD]; omega)
  rw [hWD, hT] at may
  have hFl : pcFl ⟨R, U, L, N⟩ (N + D) = min (L + R * D) (U * 1000000) := by
    unfold pcFl
    rw [hMW, o3]; dsimp only
    rw [o1, o4, hF, show N + D - N = D by omega]
  refine ⟨N + D, pcFl ⟨R, U, L, N⟩ (N + D) - s * 1000000, hWD, ?_, ?_, by omega, by omega⟩
  · unfold pcSpend pcSl
    rw [hMW, hT]; dsimp only
    rw [o1, o2]
    congr 1
    omega
  · generalize pcFl ⟨R, U, L, N⟩ (N + D) = Y at *
    have hRN : R * (N + D) = R * N + R * D := Int.mul_add _ _ _
    have ha := h.la
    have hb := h.ls
    have e1 := psP_end hb s
    have run : ∀ i, i < k + 1 → (psP (sents ++ [s]) (k + 1) - psP (sents ++ [s]) i) * 1000000 + (Y - s * 1000000) ≤ U * 1000000 + R * (N + D - (ats ++ [N + D])[i]?.getD 0) := by
      intro i hi
      rw [e1, psP_app (show i ≤ sents.length by omega)]
      by_cases hik : i < k
      · have := h.run i hik
        rw [getP_app (show i < ats.length by omega), show N + D - ats[i]?.getD 0 = (N - ats[i]?.getD 0) + D by omega, Int.mul_add]
        omega
      · obtain rfl : i = k := by omega
        rw [getP_end ha, Int.sub_self, Int.mul_zero]
        omega
    refine ⟨by simp [ha], by simp [hb], by omega, ⟨by omega, ?_⟩, ?_, ?_, run, ?_⟩
    · have := h.now.2
      rw [hRN, show ((k + 1 : Nat) : Int) = (k : Int) + 1 from rfl, Int.add_mul]
      omega
    · intro i hi
      by_cases hik : i < k
      · have := h.mem i hik
        rw [getP_app (show i < ats.length by omega), getP_app (show i < sents.length by omega)]
        omega
      · obtain rfl : i = k := by omega
        rw [getP_end ha, getP_end hb]
        omega
    · intro i hi
      by_cases hik : i ≤ k
      · rw [psP_app (show i ≤ sents.length by omega)]
        exact h.sum i hik
      · obtain rfl : i = k + 1 := by omega
        have := h.sum k (Nat.le_refl _)
        rw [e1, show ((k + 1 : Nat) : Int) = (k : Int) + 1 from rfl, Int.add_mul]
        omega
    · intro i j hij hj
      by_cases hjk : j < k
      · have := h.good i j hij hjk
        rw [psP_app (show j + 1 ≤ sents.length by omega), psP_app (show i ≤ sents.length by omega), getP_app (show j < ats.length by omega), getP_app (show i < ats.length by omega)]
        exact this
      · obtain rfl : j = k := by omega
        have := run i (by omega)
        rw [getP_end ha]
        omega
/-- What the last loops reckon. -/
theorem pcPl_test {R U L N : Int} {ats sents : List Int} {k : Nat} (h : PcPl R U ats sents L N k) (hR : 1 ≤ R) (hk : k ≤ 40) {i j : Nat} (hij : i ≤ j) (hj : j < k) :
    ∃ X B Y Z : Int, psP sents j - psP sents i + sents[j]?.getD 0 = X ∧ psP sents (j + 1) - psP sents i = X ∧ (X - U) * 1000000 = B ∧ ats[j]?.getD 0 - ats[i]?.getD 0 = Y ∧ R * Y = Z ∧ ¬ Z < B ∧
      (-2621440 ≤ X ∧ X ≤ 2700000) ∧ (-2793238691840 ≤ Y ∧ Y ≤ 2793238691840) ∧ (-2793238691840 ≤ Z ∧ Z ≤ 2793238691840) ∧ -2621440 ≤ psP sents j - psP sents i ∧ psP sents j - psP sents i ≤ 2700000 := by
  have bN := pcPl_bd h hR hk
  have g := h.good i j hij hj
  have m1 := h.mem i (by omega)
  have m2 := h.mem j hj
  have s1 := h.sum i (by omega)
  have s2 := h.sum j (by omega)
  have s3 := h.sum (j + 1) (by omega)
  have e := psP_succ (l := sents) (k := j) (by rw [h.ls]; exact hj)
  have z1 : R * (ats[j]?.getD 0 - ats[i]?.getD 0) ≤ R * N := Int.mul_le_mul_of_nonneg_left (by omega) (by omega)
  have z2 : R * (-N) ≤ R * (ats[j]?.getD 0 - ats[i]?.getD 0) := Int.mul_le_mul_of_nonneg_left (by omega) (by omega)
  rw [Int.mul_neg] at z2
  refine ⟨psP sents (j + 1) - psP sents i, _, _, _, by omega, rfl, rfl, rfl, rfl, by omega, by omega, by omega, by omega, by omega, by omega⟩

theorem elP23 : IsElem .i64 38 2 8 := ⟨Try.underlying38, by kernel_rfl, by decide⟩
theorem out_pushP {W w' : World} {v : Value} (hg : W.grownBy w' v.ownBlock) : Out (fun k => v.ownBlock = some k) W w' :=
  ⟨hg.os, hg.tape, hg.output, hg.size, fun k hk hf => hg.block k hk (fun e => hf e.symm)⟩
abbrev OwnP (w : World) (base : Nat) (v : Value) (zs : List Int) : Prop := OwnK .i64 2 w base v zs
/-- The bucket, and both rows. -/
structure PlP (w wr : World) (c : Pc) (vA vB : Value) (la lb : List Int) : Prop where
  blk : Blk wr w.heap.size (pcV c) 23
  ra : OwnP wr (w.heap.size + 1) vA la
  rb : OwnP wr (w.heap.size + 1) vB lb
  apart : ∀ g, vA.ownBlock = some g → vB.ownBlock ≠ some g
  low : Below w.heap.size w wr
theorem plp_start (w : World) (c : Pc) : PlP w (w.alloc (.cells #[.int .i64 c.r, .int .i64 c.u, .int .i64 c.l, .int .i64 c.a] 23)) c (.slice none 0 0) (.slice none 0 0) [] [] :=
  ⟨Blk.new w (pcV c) _, OwnK.nil _ _ _ _, OwnK.nil _ _ _ _, (fun g h => by cases h), new_alloc (new_refl w) _⟩
theorem PlP.kept {w wr w1 : World} {c : Pc} {vA vB : Value} {la lb : List Int} (h : PlP w wr c vA vB la lb) (B : Below wr.heap.size wr w1) : PlP w w1 c vA vB la lb :=
  ⟨h.blk.kept B, h.ra.kept B, h.rb.kept B, h.apart, new_then h.low B⟩
theorem PlP.drawN {w wr : World} {c : Pc} {vA vB : Value} {la lb : List Int} (h : PlP w wr c vA vB la lb) (n : Nat) : PlP w (wr.drewN n) c vA vB la lb :=
  ⟨h.blk, h.ra.draw n, h.rb.draw n, h.apart, new_draw h.low n⟩
/-- The bucket is stored anew. -/
theorem PlP.setC {w wr : World} {c : Pc} {vA vB : Value} {la lb : List Int} (h : PlP w wr c vA vB la lb) (d : Pc) :
    PlP w ((((wr.setCell ⟨w.heap.size, 0, none⟩ (.int .i64 d.r)).setCell ⟨w.heap.size, 1, none⟩ (.int .i64 d.u)).setCell ⟨w.heap.size, 2, none⟩ (.int .i64 d.l)).setCell ⟨w.heap.size, 3, none⟩ (.int .i64 d.a)) d vA vB la lb := by
  have o : Out (fun k => k = w.heap.size) wr ((((wr.setCell ⟨w.heap.size, 0, none⟩ (.int .i64 d.r)).setCell ⟨w.heap.size, 1, none⟩ (.int .i64 d.u)).setCell ⟨w.heap.size, 2, none⟩ (.int .i64 d.l)).setCell ⟨w.heap.size, 3, none⟩ (.int .i64 d.a)) :=
    ((((Out.refl (fun k => k = w.heap.size) _).set (p := ⟨w.heap.size, 0, none⟩) (.inl rfl) _).set (p := ⟨w.heap.size, 1, none⟩) (.inl rfl) _).set (p := ⟨w.heap.size, 2, none⟩) (.inl rfl) _).set (p := ⟨w.heap.size, 3, none⟩) (.inl rfl) _
  refine ⟨pc_set h.blk d, h.ra.out o (fun g hg e => ?_), h.rb.out o (fun g hg e => ?_), h.apart, lowP4 h.low (Nat.le_refl _) _ _ _ _⟩
  · have := (World.ownsRow.lt h.ra g hg).1; omega
  · have := (World.ownsRow.lt h.rb g hg).1; omega
theorem plp_a {w W w' : World} {c : Pc} {vA vB : Value} {la lb : List Int} {o : Obj} {gA n cap : Nat} {y : Int} (h : PlP w W c vA vB la lb)
    (O : OwnP w' (w.heap.size + 1) (.slice (some ⟨gA, 0, none⟩) n cap) (la ++ [y])) (G : (W.alloc o).grownBy w' vA.ownBlock) (hat : vA.ownBlock = some gA ∨ gA = (W.alloc o).heap.size) :
    PlP w w' c (.slice (some ⟨gA, 0, none⟩) n cap) vB (la ++ [y]) lb := by
  have o := out_pushP G
  have q := fun g hg => World.ownsRow.lt h.ra g hg
  refine ⟨Blk.out (h.blk.alloc _) o (fun e => by have := (q _ e).1; omega), O, (h.rb.alloc _).out o (fun g hg e => h.apart g e hg), fun g hg hv => ?_, (new_alloc h.low _).trans (o.below (new_alloc h.low _).size (fun k hk => by have := (q _ hk).1; omega))⟩
  have e : gA = g := by simpa [Value.ownBlock] using hg
  subst e
  rcases hat with e | e
  · exact h.apart _ e hv
  · have := (World.ownsRow.lt h.rb _ hv).2
    rw [alloc_size] at e; omega
theorem plp_b {w W w' : World} {c : Pc} {vA vB : Value} {la lb : List Int} {o : Obj} {gB n cap : Nat} {y : Int} (h : PlP w W c vA vB la lb)
    (O : OwnP w' (w.heap.size + 1) (.slice (some ⟨gB, 0, none⟩) n cap) (lb ++ [y])) (G : (W.alloc o).grownBy w' vB.ownBlock) (hat : vB.ownBlock = some gB ∨ gB = (W.alloc o).heap.size) :
    PlP w w' c vA (.slice (some ⟨gB, 0, none⟩) n cap) la (lb ++ [y]) := by
  have o := out_pushP G
  have q := fun g hg => World.ownsRow.lt h.rb g hg
  refine ⟨Blk.out (h.blk.alloc _) o (fun e => by have := (q _ e).1; omega), (h.ra.alloc _).out o (fun g hg e => h.apart g hg e), O, fun g hg hv => ?_, (new_alloc h.low _).trans (o.below (new_alloc h.low _).size (fun k hk => by have := (q _ hk).1; omega))⟩
  have e : gB = g := by simpa [Value.ownBlock] using hv
  subst e
  rcases hat with e | e
  · exact h.apart _ hg e
  · have := (World.ownsRow.lt h.ra _ hg).2
    rw [alloc_size] at e; omega
end Go.Proofs.Ytimipikabedjnaa
