/- Package ring at int64: Keep, of the function that the law hands in. -/
import Derived.Test.YtamcakckbabeiaaRingH
import Derived.RangeFuncCalls
namespace Go.Proofs.Ytamcakckbabeiaa
namespace R8
open Go.RowKit Go.Shelf
set_option linter.unusedVariables false
attribute [local go_sem] Oper.semAt_some

/-- The function value that the law hands to Keep. -/
abbrev fEven : Value := .func (.func 18) #[] #[]

/-- Between two rounds: what stays lies in the variable at B6, and in a row of its own; nothing else that was there has turned. -/
def KI (w3 : World) (B6 : Nat) (pre : List Int) (W : World) : Prop := (∃ v, Blk W B6 [v] 25 ∧ Own W w3.heap.size v (pre.filter evn) ∧ (pre.filter evn = [] → v = .slice none 0 0)) ∧ Out (fun k => k = B6) w3 W
theorem ki_own {w3 : World} {B6 : Nat} (hB : B6 < w3.heap.size) : OwnFrom w3.heap.size (KI w3 B6) := by
  rintro pre A B row ⟨⟨v, hb, ho, hn⟩, o⟩ hg hr
  have hrow : ∀ r, row = some r → w3.heap.size ≤ r := fun r e => (hr r e).1
  refine ⟨⟨v, (hg.block B6 hb.lt (fun e => by have := hrow _ e.symm; omega)).trans hb, ⟨ho.1, ?_⟩, hn⟩, ?_⟩
  · rcases ho.2 with h' | ⟨g, cap, cur, h1, h2, h3, h4⟩
    · exact .inl h'
    · refine .inr ⟨g, cap, cur, h1, h2, ?_, h4⟩
      have hlt : g < A.heap.size := by
        rcases Nat.lt_or_ge g A.heap.size with h | h
        · exact h
        · rw [Array.getElem?_eq_none h] at h3; cases h3
      refine (hg.block g hlt (fun e => ?_)).trans h3
      obtain ⟨_, ob, hob, hnc⟩ := hr g e.symm
      rw [h3] at hob
      cases hob
      cases hnc
  · exact ⟨hg.os.trans o.os, hg.tape.trans o.tape, hg.output.trans o.output, Nat.le_trans o.size hg.size, fun k hk hf => (hg.block k (Nat.lt_of_lt_of_le hk o.size) (fun e => by have := hrow _ e.symm; omega)).trans (o.block k hk hf)⟩

theorem IsRing.rb {w : World} {b g most : Nat} {zs : List Int} (h : IsRing w b g zs most) : ∃ sv f, RB w b sv f zs.length most := by
  rcases h with ⟨h, rfl, hgl⟩ | ⟨n, c, f, cur, h⟩
  · exact ⟨_, _, h.1⟩
  · exact ⟨_, _, h.1⟩
theorem own_form {w : World} {base : Nat} {v : Value} {zs : List Int} (h : Own w base v zs) : ∃ A m c, v = .slice A m c ∧ zs.length = m := by
  rcases h.2 with ⟨h', h0⟩ | ⟨g, cap, cur, h1, h2, h3, h4⟩
  · exact ⟨_, _, _, h', h0⟩
  · exact ⟨_, _, _, h1, rfl⟩
/-- What an append and a store into the variable leave of a round's world. -/
theorem round_kept {W w1 : World} {n1 B6 : Nat} {v u : Value} {zs : List Int} {o : Obj} (hown : Own W n1 v zs) (hg : (W.alloc o).grownBy w1 v.ownBlock) : KeepsFrom n1 W (w1.setCell ⟨B6, 0, none⟩ u) := by
  refine (((KeepsOthers.alloc W o).trans (KeepsOthers.of_grownBy hg fun j ob e hob => ?_)).trans (KeepsOthers.setCell _ _ _)).from n1
  rcases (hown.alloc o).2 with ⟨h', _⟩ | ⟨g, cap, cur, h1, h2, h3, h4⟩
  · rw [h'] at e; cases e
  · rw [h1] at e
    cases e
    rw [h3] at hob
    cases hob
    rfl
theorem round_box {W w1 : World} {n1 B6 : Nat} {v u : Value} {zs : List Int} {o : Obj} {t : TypeId} (hown : Own W n1 v zs) (hg : (W.alloc o).grownBy w1 v.ownBlock) (hb : Blk W B6 [u] t) (hn : B6 < n1) : Blk w1 B6 [u] t :=
  (hg.block B6 (by have := hb.lt; simp; omega) (fun e => by have := World.ownsRow.lt hown B6 e.symm; omega)).trans (hb.alloc o)
theorem round_q {W w1 : World} {n1 B6 g : Nat} {v u : Value} {zs : List Int} {o : Obj} (hown : Own W n1 v zs) (hg : (W.alloc o).grownBy w1 v.ownBlock) (hn : g < n1) (hs : n1 ≤ W.heap.size) (hB : g ≠ B6) : Kq g W (w1.setCell ⟨B6, 0, none⟩ u) := by
  have h1 : (W.alloc o).heap[g]? = W.heap[g]? := Below.heap_alloc _ _ _ (by omega)
  have h2 := hg.block g (by simp; omega) (fun e => by have := World.ownsRow.lt hown g e.symm; omega)
  exact (Below.heap_setCell w1 ⟨B6, 0, none⟩ u g hB).trans (h2.trans h1)
theorem round_i {w3 W w1 : World} {B6 g' n' cap' : Nat} {v : Value} {pre : List Int} {x : Int} {o : Obj} (h3 : B6 < w3.heap.size) (hb : Blk W B6 [v] 25) (hown : Own W w3.heap.size v (pre.filter evn)) (ho : Out (fun k => k = B6) w3 W)
    (hx : evn x = true) (hown' : Own w1 w3.heap.size (.slice (some ⟨g', 0, none⟩) n' cap') (pre.filter evn ++ [x])) (hg : (W.alloc o).grownBy w1 v.ownBlock) : KI w3 B6 (pre ++ [x]) (w1.setCell ⟨B6, 0, none⟩ (.slice (some ⟨g', 0, none⟩) n' cap')) := by
  have hf : (pre ++ [x]).filter evn = pre.filter evn ++ [x] := by simp [hx]
  have hb1 : Blk w1 B6 [v] 25 := (hg.block B6 (by have := hb.lt; simp; omega) (fun e => by have := World.ownsRow.lt hown B6 e.symm; omega)).trans (hb.alloc o)
  have hB : Below w3.heap.size W w1 := below_push hown (v := v) ⟨hg.os, hg.tape, hg.output, Nat.le_trans (by simp) hg.size, fun k hk hr => (hg.block k (by simp; omega) hr).trans (Below.heap_alloc _ _ _ hk)⟩ ho.size
  refine ⟨⟨_, hb1.set 0 _, ?_, fun h => by rw [hf] at h; simp at h⟩, ?_⟩
  · rw [hf]; exact ownsRow_setCell_below hown' h3 _
  · exact Out.set (p := ⟨B6, 0, none⟩) (⟨hB.os.trans ho.os, hB.tape.trans ho.tape, hB.output.trans ho.output, Nat.le_trans ho.size hB.size, fun k hk hf => (hB.block k hk).trans (ho.block k hk hf)⟩) (.inl rfl) _

theorem three_still {W : World} {D b : Nat} {u v x : Value} (hK : W.heap[D]? = some (.deferred (some []))) : (((W.setCell ⟨b, 0, none⟩ u).setCell ⟨b, 1, none⟩ v).setCell ⟨b, 2, none⟩ x).drew.heap[D]? = some (.deferred (some [])) :=
  ((((KeepsOthers.setCell W ⟨b, 0, none⟩ u).trans (KeepsOthers.setCell _ ⟨b, 1, none⟩ v)).trans (KeepsOthers.setCell _ ⟨b, 2, none⟩ x)).trans (KeepsOthers.drew _)).same D _ hK rfl
theorem turned_self (zs : List Int) (n : Nat) (h : zs.length = n) : Turned n 0 zs zs := by
  intro i hi
  rw [Nat.zero_add, Nat.mod_eq_of_lt (by omega)]
theorem kept_turns {w w3 W : World} {b gr most L m c' D : Nat} {A : Option Addr} {sv : Value} {f0 : Nat} {ys : List Int} (hL : ys.length = L) (hM : (ys.filter evn).length = m) (BB : Below w.heap.size w w3) (hs3 : w.heap.size + 2 ≤ w3.heap.size) (hOut : Out (fun k => k = w.heap.size + 1) w3 W) (hD : w3.heap.size ≤ D)
    (hK : W.heap[D]? = some (.deferred (some []))) (hR : RB W b sv f0 ys.length most) (ho : Own W w3.heap.size (.slice A m c') (ys.filter evn)) (hnl : ys.filter evn = [] → Value.slice A m c' = .slice none 0 0) (hm : ys.length ≤ most ∧ most ≤ 65536) (hbw : b < w.heap.size) (hgr : gr < w.heap.size) :
    Turns w b gr (.int .i64 ((ys.length : Int) - ((ys.filter evn).length : Int))) (ys.filter evn) most (.returned (.int .i64 ((L : Int) - (m : Int))))
      ((((W.setCell ⟨b, 0, none⟩ (.slice A m c')).setCell ⟨b, 1, none⟩ (.int .i64 0)).setCell ⟨b, 2, none⟩ (.int .i64 (m : Int))).drew.putObj D (.deferred none)) := by
  obtain ⟨W1, hW1⟩ : ∃ W1, (((W.setCell ⟨b, 0, none⟩ (.slice A m c')).setCell ⟨b, 1, none⟩ (.int .i64 0)).setCell ⟨b, 2, none⟩ (.int .i64 (m : Int))).drew = W1 := ⟨_, rfl⟩
  have hK1 : W1.heap[D]? = some (.deferred (some [])) := by rw [← hW1]; exact three_still hK
  have R1 : RB W1 b (.slice A m c') 0 m most := by
    rw [← hW1]
    exact Blk.drew (((hR.set 0 (.slice A m c')).set 1 (.int .i64 0)).set 2 (.int .i64 (m : Int)))
  have O1 : Own W1 w3.heap.size (.slice A m c') (ys.filter evn) := by
    rw [← hW1]
    exact OwnK.drew (ownsRow_setCell_below (ownsRow_setCell_below (ownsRow_setCell_below ho (show (⟨b, 0, none⟩ : Addr).block < w3.heap.size by simp; omega) _) (show (⟨b, 1, none⟩ : Addr).block < w3.heap.size by simp; omega) _) (show (⟨b, 2, none⟩ : Addr).block < w3.heap.size by simp; omega) _)
  have Ot1 : Out (fun k => k = b) W W1 := by
    rw [← hW1]
    exact Out.drew (Out.set (p := ⟨b, 2, none⟩) (Out.set (p := ⟨b, 1, none⟩) (Out.set (p := ⟨b, 0, none⟩) (Out.refl (fun k => k = b) W) (.inl rfl) _) (.inl rfl) _) (.inl rfl) _)
  rw [hW1]
  clear hW1 hR ho
  have hg := grownBy_putObj' W1 D (.deferred none)
  have Op : Out (fun k => k = D) W1 (W1.putObj D (.deferred none)) := ⟨hg.os, hg.tape, hg.output, hg.size, fun k hk hf => hg.block k hk (fun e => hf (by cases e; rfl))⟩
  have R2 := R1.out Op (by omega)
  have O2 : Own (W1.putObj D (.deferred none)) w3.heap.size (.slice A m c') (ys.filter evn) := ownsRow_putObj O1 _ hK1 rfl
  have hml : m ≤ ys.length := by rw [← hM]; exact List.length_filter_le _ _
  have OT : Out (foot b gr) w (W1.putObj D (.deferred none)) := by
    have a1 : Out (foot b gr) w W := Out.trans (Out.of BB (foot b gr)) hOut (fun i hi e => by subst e; omega)
    have a2 : Out (foot b gr) w W1 := a1.trans Ot1 (fun i hi e => .inl e)
    exact a2.trans Op (fun i hi e => by subst e; omega)
  subst hL hM
  by_cases hz : ys.filter evn = []
  · have e := hnl hz
    rw [e, hz] at R2
    rw [hz]
    exact ⟨gr, rfl, .inl ⟨⟨R2, hm.2⟩, rfl, Nat.lt_of_lt_of_le hgr OT.size⟩, .inl rfl, OT⟩
  · have hpos : 0 < (ys.filter evn).length := List.length_pos_iff.2 hz
    obtain ⟨g', cap', e, hg1, hg2⟩ := World.ownsRow.form O2 hpos
    cases e
    obtain ⟨_, h2, h3, h4, cur, hcl, hcb, hct⟩ := O2.blk
    refine ⟨g', rfl, .inr ⟨_, c', 0, ys.filter evn, R2, ⟨cur.drop (ys.filter evn).length, ?_, by rw [List.length_drop]; omega⟩, rfl, by omega, hpos, h2, h3, by omega, hm.2, hpos, Nat.le_refl _, turned_self _ _ rfl⟩, .inr (by omega), OT⟩
    rw [← hct, List.take_append_drop]
    exact hcb

set_option maxRecDepth 100000 in
set_option maxHeartbeats 2000000 in
theorem keep_even (b gr : Nat) (zs : List Int) (most : Nat) (w : World) (h : IsRing w b gr zs most) :
    Calls Try.prog 17 #[.pointer (some ⟨b, 0, none⟩), fEven] w (Turns w b gr (.int .i64 ((zs.length : Int) - ((zs.filter evn).length : Int))) (zs.filter evn) most) := by
  have hnil : ∀ w : World, (binOp BinOp.eql 47 fEven .nilFunc).run Try.prog w = .ok (.bool false) w := fun _ => by kernel_rfl
  have c2 := h.c2
  have H := Lib.hid h
  have hbw := h.lt.1
  clear h
  obtain ⟨L, eL⟩ : ∃ L, zs.length = L := ⟨_, rfl⟩
  rw [eL] at c2
  have EL := Lib.hid eL
  clear eL
  refine (callsIn_wide (n := 4)).1 ?_
  refine callsIn_of_wp_marks Try.func17 rfl trivial ?_ rfl
  simp only [Try.ntmps17, List.size_toArray, List.length_cons, List.length_nil, Nat.reduceAdd, Nat.reduceSub, Array.replicate_succ, Array.replicate_zero, List.push_toArray, List.append_toArray, List.nil_append, List.cons_append]
  have BW := new_alloc (new_alloc (new_refl w) (.cells #[fEven] 47)) (.cells #[.slice none 0 0] 25)
  gi_wp2_with (refine ⟨trivial, ?_⟩; gi_at_call 29; refine (callsIn_wide.2 (all_ring b gr zs most _ (H.out.kept BW))).mono ?_; rintro e w3 ⟨Bs, g, c, rfl, hB1, hB2, hBc, hg1, hg2, hgc, B3⟩)
  have V3 : Blk w3 (w.heap.size + 1) [.slice none 0 0] 25 := Blk.kept (Blk.newAt (alloc_size w (.cells #[fEven] 47)) [.slice none 0 0] 25) B3
  have F3 : Blk w3 w.heap.size [fEven] 47 := Blk.kept (Blk.alloc (Blk.new w [fEven] 47) _) B3
  have R3 := Lib.hid ((H.out.kept BW).kept B3)
  have BB := Lib.hid (new_then BW B3)
  have hs3 : w.heap.size + 2 ≤ w3.heap.size := by have := B3.size; simp at this; omega
  have hg1' : w.heap.size + 2 ≤ g := by simp at hg1; omega
  have hm := H.out.le
  clear hB1 hg1 B3 BW hnil c2
  refine wpIn_rangeFunc_ownG rfl (by omega) (gf := 38) (lb := #[.pointer (some ⟨Bs, 0, none⟩)]) rfl trivial (enters_of Try.func38 (by kernel_rfl) rfl)
    (values_stops Fence.wide 3 trivial rfl (by omega) Bs g c zs (by omega) w3 hB2 hg2 hBc hgc) kq_t (kq_b hg2) (Below.refl _ _) (fun _ => rfl)
    (KI w3 (w.heap.size + 1)) (fun _ _ _ => False) (ki_own (by omega)) (fun _ _ _ _ _ hs _ _ => hs)
    ⟨⟨_, V3, OwnK.nil _ _ _ _, fun _ => rfl⟩, Out.refl _ _⟩
    (fun x => { tmps := #[.pointer (some ⟨b, 0, none⟩), fEven, undef, .pointer (some ⟨w.heap.size, 0, none⟩), .int .i64 0, .int .i64 (L : Int), .pointer (some ⟨w.heap.size + 1, 0, none⟩), .int .i64 x, .pointer (some ⟨b, 0, none⟩), .bool false, .bool false, fEven, .bool false, .bool false, .pointer (some ⟨b, 0, none⟩), .pointer (some ⟨b, 0, none⟩), .pointer (some ⟨b, 2, none⟩), .int .i64 (L : Int), .pointer (some ⟨b, 0, none⟩), .func (.func 38) #[] #[.pointer (some ⟨Bs, 0, none⟩)], .int .i64 x, undef, undef, undef, undef, undef, undef, undef, undef, undef, undef, undef, undef, undef, undef, undef, undef, undef, undef, undef, undef, undef, undef, undef, undef], defers := [] }) ?assign ?body ?done ?stop
  case assign =>
    intro l x W K hK
    gi_wp2
    exact hK
  case body =>
    rintro l pre x W ⟨⟨v, hb, ho, hnl⟩, hOut⟩ hlt
    have hpl : (pre.filter evn).length ≤ pre.length := List.length_filter_le _ _
    have hF := (F3.out hOut (by omega)).cell 0 rfl
    have hc := hb.cell 0 rfl
    have hsW := hOut.size
    obtain ⟨i0, hi, hz0, hz1, hz2⟩ := info_parts elem.info
    have hsay := saysNo_even x W
    cases hx : evn x
    · rw [hx] at hsay
      have HS := Lib.hid hsay
      clear hsay
      have HX := Lib.hid hx
      clear hx
      gi_wp2_with (refine ⟨trivial, ?_⟩; gi_at_call 30; refine (CallsIn.inRound l (callsIn_wide.2 HS.out)).mono ?_; rintro e w' ⟨rfl, rfl⟩)
      have hf : (pre ++ [x]).filter evn = pre.filter evn := by rw [List.filter_append, List.filter_cons, HX.out]; simp
      exact ⟨KeepsFrom.refl _ _, rfl, ⟨v, hb, by rw [hf]; exact ho, by rw [hf]; exact hnl⟩, hOut⟩
    · rw [hx] at hsay
      have HS := Lib.hid hsay
      clear hsay
      have HX := Lib.hid hx
      clear hx
      gi_wp2_with (first
        | (refine ⟨trivial, ?_⟩; gi_at_call 30; refine (CallsIn.inRound l (callsIn_wide.2 HS.out)).mono ?_; rintro e w' ⟨rfl, rfl⟩)
        | (gi_at_builtin; refine wpListIn_append_own _ rfl _ _ 25 rfl w3.heap.size 2 i0 (.int .i64 0) 1 8 Try.underlying25 hi hz0 hz1 hz2 rfl (by decide) _ _ _ rfl (OwnK.alloc ho _) ⟨W.heap.size, 0, none⟩ 1 1 [.int .i64 x] rfl rfl (cell_one_new _ _ _) (by simp [Value.oneCell']) (by unfold maxLen; omega) (by omega) (alloc_le hsW _) ?_; intro v' w1 hown' hgrow _; obtain ⟨g', cap', rfl, hgl, hgl'⟩ := World.ownsRow.form hown' (by omega); have hb1 := round_box ho hgrow hb (by omega); have hc1 := hb1.cell 0 rfl; have hf1 := hb1.frozen 0))
      have hown2 : Own w1 w3.heap.size (.slice (some ⟨g', 0, none⟩) ((pre.filter evn).length + 1) cap') (pre.filter evn ++ [x]) := by
        unfold Own OwnK
        rw [List.length_append, List.map_append]
        exact hown'
      exact ⟨round_kept ho hgrow, round_q ho hgrow hg2 hsW (by omega), round_i (by omega) hb ho hOut HX.out hown2 hgrow⟩
  case done =>
    rintro D ys W hD rfl ⟨⟨v, hb, ho, hnl⟩, hOut⟩ hK
    have hc := hb.cell 0 rfl
    have hgr := H.out.lt
    have RW := R3.out.out hOut (by omega) (by omega)
    obtain ⟨sv, f0, RB0⟩ := RW.rb
    have fz0 := RB0.frozen 0
    have fz1 := RB0.frozen 1
    have fz2 := RB0.frozen 2
    have z0 := RB0.c0
    have z1 := RB0.c1
    have z2 := RB0.c2
    obtain ⟨A, m, c', rfl, hm'⟩ := own_form ho
    have HM := Lib.hid hm'
    clear hm'
    have hb6 : ¬ b = w.heap.size + 1 := by omega
    have hb7 : ¬ w.heap.size + 1 = b := by omega
    gi_wp2_with fail
    refine wpIn_wide.2 ?_
    go_region_held3 (fun w' => w'.cell? ⟨w.heap.size + 1, 0, none⟩ = some (.slice A m c')) (go_keep) (fail)
    have hm1 : m ≤ L := by have := List.length_filter_le evn ys; rw [HM.out, EL.out] at this; exact this
    have hm2 : (m : Int) ≤ (L : Int) := by omega
    have hm3 : (L : Int) ≤ 65536 := by have := EL.out; omega
    have hm4 : (0 : Int) ≤ (m : Int) := by omega
    gi_wp2
    refine ⟨by simp, .inl ⟨_, _, rfl, run_takeDeferred (three_still hK), ?_⟩⟩
    refine ⟨_, results_tmp rfl _ _ _, ?_⟩
    exact kept_turns EL.out HM.out BB.out hs3 hOut hD hK RB0 ho hnl hm hbw hgr.2
  case stop =>
    rintro D c pre W _ _ h _
    exact h.elim

/-- Of a nil row: nothing. -/
theorem keep_nil (k : Nat) (w : World) :
    Calls Try.prog 17 #[.pointer none, .func (.func k) #[] #[]] w fun e w' => e = .returned (.int .i64 0) ∧ Below w.heap.size w w' := by
  go_enter Try.func17, Try.ntmps17
  go_wp2
  go_ret
  exact ⟨rfl, new_alloc (new_refl w) _⟩
theorem drop_nil (w : World) :
    Calls Try.prog 15 #[.pointer none, .int .i64 3] w fun e w' => e = .returned (.int .i64 0) ∧ w = w' := by
  go_enter Try.func15, Try.ntmps15
  go_wp2_with (go_at_call 14; refine (len_nil _).mono ?_; rintro e w' ⟨rfl, rfl⟩)
  go_loopg [12] 0 (fun gh vi wr => vi = .int .i64 0 ∧ w = wr)
  case atStart => exact ⟨rfl, rfl⟩
  case round =>
    obtain ⟨rfl, rfl⟩ := hrel
    go_wp2
    go_ret
    exact ⟨rfl, rfl⟩
theorem keep_evenL (b gr : Nat) (zs : List Int) (most : Nat) (x : Int) (w : World) (h : IsRing w b gr zs most) (hx : (zs.length : Int) - ((zs.filter evn).length : Int) = x) :
    Calls Try.prog 17 #[.pointer (some ⟨b, 0, none⟩), fEven] w (Turns w b gr (.int .i64 x) (zs.filter evn) most) := by
  subst hx; exact keep_even b gr zs most w h
theorem RAt.keep {w wr : World} {b M : Nat} {zs : List Int} (h : RAt w b M zs wr) :
    Calls Try.prog 17 #[.pointer (some ⟨b, 0, none⟩), fEven] wr (TurnsR w b M (.int .i64 ((zs.length : Int) - ((zs.filter evn).length : Int))) (zs.filter evn)) := by
  obtain ⟨gr, R, hg, hb, Bl⟩ := h
  exact (keep_even b gr zs M wr R).mono fun e w' h => turns_r hg hb Bl h
end R8
end Go.Proofs.Ytamcakckbabeiaa
