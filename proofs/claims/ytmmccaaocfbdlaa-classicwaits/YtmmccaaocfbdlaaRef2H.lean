/- The document's own MulDiv, by bits. -/
import Derived.Test.YtmmccaaocfbdlaaRef2G
import Derived.Test.YtmmccaaocfbdlaaWideC
namespace Go.Proofs.Ytmmccaaocfbdlaa
open Go.RowKit
set_option linter.unusedVariables false

theorem refMulDiv_bad (a b c : Int) (up : Bool) (w : World) (h : a < 0 ∨ b < 0 ∨ c ≤ 0) :
    Calls Try.prog 29 #[.int .i64 a, .int .i64 b, .int .i64 c, .bool up] w fun e w' => e = .returned (.tuple #[.int .i64 0, .int .i64 1]) ∧ Below w.heap.size w w' := by
  by_cases h1 : a < 0 <;> by_cases h2 : b < 0 <;> by_cases h3 : c ≤ 0
  all_goals first
    | omega
    | (go_enter Try.func29, Try.ntmps29
       go_wp2_with fail
       go_ret2
       exact ⟨rfl, new_refl w⟩)

theorem val_one (z : Int) : val [z] = z := by simp [val]
theorem num_of_bits {l : List Int} {q : Int} (e : val l = q) (h0 : 0 ≤ q) (h1 : q ≤ 9223372036854775807) : val (l.drop 0) % 18446744073709551616 = q := by
  rw [List.drop_zero, e]; omega

set_option maxHeartbeats 4000000 in
set_option maxRecDepth 100000 in
theorem refMulDiv_ok (a b c : Int) (up : Bool) (w : World) (ha : 0 ≤ a ∧ a ≤ 9223372036854775807) (hb : 0 ≤ b ∧ b ≤ 9223372036854775807) (hc : 0 < c ∧ c ≤ 9223372036854775807) :
    Calls Try.prog 29 #[.int .i64 a, .int .i64 b, .int .i64 c, .bool up] w fun e w' => e = .returned (.tuple #[.int .i64 (mdV a b c up), .int .i64 (mdE a b c up)]) ∧ Below w.heap.size w w' := by
  have qb := quo_bd a b c ha hb hc.1
  obtain ⟨q, eq⟩ : ∃ q, a * b / c = q := ⟨_, rfl⟩
  obtain ⟨r, er⟩ : ∃ r, a * b % c = r := ⟨_, rfl⟩
  rw [eq, er] at qb
  have EQ := Lib.hid (And.intro eq er)
  have nb : ¬ (a < 0 ∨ b < 0 ∨ c ≤ 0) := by omega
  have NB := Lib.hid nb
  have QB := Lib.hid qb.2.1
  have q0 := qb.1
  have r0 := qb.2.2
  clear eq er nb qb
  cases up with
  | false =>
    have V : mdQ a b c false = q := by unfold mdQ; rw [EQ.out.1]; simp
    by_cases ho : 9223372036854775807 < q
    · have R1 := Lib.hid (show 0 = mdV a b c false by unfold mdV; rw [if_neg NB.out, V, if_pos ho])
      have R2 := Lib.hid (show 8 = mdE a b c false by unfold mdE; rw [if_neg NB.out, V, if_pos ho])
      have hg : 0 < cmpI (q) 9223372036854775807 := by rw [cmp_gt]; exact ho
      clear V
      go_enter Try.func29, Try.ntmps29
      go_wp2_with (first
        | (go_at_call_of 35 (Value.int .u64 a); refine (refBits_any _ _ (by omega)).mono ?_; rintro e w1 ⟨ga, ca, la, rfl, OA, ba, va, B1⟩; have VA := Lib.hid va; clear va)
        | (go_at_call_of 35 (Value.int .u64 b); refine (refBits_any _ _ (by omega)).mono ?_; rintro e w2 ⟨gb, cb, lb, rfl, OB, bb, vb, B2⟩; have VB := Lib.hid vb; clear vb)
        | (go_at_call 34; refine (refMul2_any ga 64 ca gb 64 cb la lb _ (OA.kept B2).rd OB.rd ba bb (by omega) (by omega) (by omega)).mono ?_; rw [VA.out, VB.out]; rintro e w3 ⟨nm, gm, cm, lm, m0, m1, rfl, OM, bm, vm, B3⟩; have VM := Lib.hid vm; clear vm)
        | (go_at_call_of 35 (Value.int .u64 c); refine (refBits_any _ _ (by omega)).mono ?_; rintro e w4 ⟨gc, cc, lc, rfl, OC, bc, vc, B4⟩; have VC := Lib.hid vc; clear vc)
        | (go_at_call 33; refine (refDiv2_any gm nm cm gc 64 cc lm lc _ (OM.kept B4).rd OC.rd bm bc (by omega) (by omega) (by rw [VC.out]; omega)).mono ?_; rw [VM.out, VC.out]; rintro e w5 ⟨gq, cq, gr, nr, cr, qs, rs, rfl, nr0, nr1, OQ, bq, vq, OR, br, vr, B5⟩; rw [EQ.out.1] at vq; rw [EQ.out.2] at vr; have VQ := Lib.hid vq; have VR := Lib.hid vr; clear vq vr)
        | (go_at_call 35; refine (refBits_any _ _ (by omega)).mono ?_; rintro e w6 ⟨gx, cx, lx, rfl, OX, bx, vx, B6⟩; have VX := Lib.hid vx; clear vx)
        | (go_at_call 36; refine (refCmp_any gq nm cq gx 64 cx qs lx _ (OQ.rd.kept B6) OX.rd bq bx (by omega) (by omega)).mono ?_; rw [VQ.out, VX.out]; rintro e w7 ⟨rfl, rfl⟩)
        | (go_at_call 38; refine (refNum_any gq nm cq 0 0 qs _ (OQ.rd.kept B6) bq rfl (by omega) (by omega)).mono ?_; rw [num_of_bits VQ.out (by omega) (by omega)]; rintro e w8 ⟨rfl, rfl⟩))
      go_ret2
      exact ⟨ret_pair_i R1.out R2.out, new_then B1 (new_then B2 (new_then B3 (new_then B4 (new_then B5 B6))))⟩
    · have R1 := Lib.hid (show q = mdV a b c false by unfold mdV; rw [if_neg NB.out, V, if_neg ho])
      have R2 := Lib.hid (show 0 = mdE a b c false by unfold mdE; rw [if_neg NB.out, V, if_neg ho])
      have hg : ¬ 0 < cmpI (q) 9223372036854775807 := by rw [cmp_gt]; exact ho
      clear V
      go_enter Try.func29, Try.ntmps29
      go_wp2_with (first
        | (go_at_call_of 35 (Value.int .u64 a); refine (refBits_any _ _ (by omega)).mono ?_; rintro e w1 ⟨ga, ca, la, rfl, OA, ba, va, B1⟩; have VA := Lib.hid va; clear va)
        | (go_at_call_of 35 (Value.int .u64 b); refine (refBits_any _ _ (by omega)).mono ?_; rintro e w2 ⟨gb, cb, lb, rfl, OB, bb, vb, B2⟩; have VB := Lib.hid vb; clear vb)
        | (go_at_call 34; refine (refMul2_any ga 64 ca gb 64 cb la lb _ (OA.kept B2).rd OB.rd ba bb (by omega) (by omega) (by omega)).mono ?_; rw [VA.out, VB.out]; rintro e w3 ⟨nm, gm, cm, lm, m0, m1, rfl, OM, bm, vm, B3⟩; have VM := Lib.hid vm; clear vm)
        | (go_at_call_of 35 (Value.int .u64 c); refine (refBits_any _ _ (by omega)).mono ?_; rintro e w4 ⟨gc, cc, lc, rfl, OC, bc, vc, B4⟩; have VC := Lib.hid vc; clear vc)
        | (go_at_call 33; refine (refDiv2_any gm nm cm gc 64 cc lm lc _ (OM.kept B4).rd OC.rd bm bc (by omega) (by omega) (by rw [VC.out]; omega)).mono ?_; rw [VM.out, VC.out]; rintro e w5 ⟨gq, cq, gr, nr, cr, qs, rs, rfl, nr0, nr1, OQ, bq, vq, OR, br, vr, B5⟩; rw [EQ.out.1] at vq; rw [EQ.out.2] at vr; have VQ := Lib.hid vq; have VR := Lib.hid vr; clear vq vr)
        | (go_at_call 35; refine (refBits_any _ _ (by omega)).mono ?_; rintro e w6 ⟨gx, cx, lx, rfl, OX, bx, vx, B6⟩; have VX := Lib.hid vx; clear vx)
        | (go_at_call 36; refine (refCmp_any gq nm cq gx 64 cx qs lx _ (OQ.rd.kept B6) OX.rd bq bx (by omega) (by omega)).mono ?_; rw [VQ.out, VX.out]; rintro e w7 ⟨rfl, rfl⟩)
        | (go_at_call 38; refine (refNum_any gq nm cq 0 0 qs _ (OQ.rd.kept B6) bq rfl (by omega) (by omega)).mono ?_; rw [num_of_bits VQ.out (by omega) (by omega)]; rintro e w8 ⟨rfl, rfl⟩))
      go_ret2
      exact ⟨ret_pair_i R1.out R2.out, new_then B1 (new_then B2 (new_then B3 (new_then B4 (new_then B5 B6))))⟩
  | true =>
    by_cases hr : 0 < r
    · have hcr : 0 < cmpI r 0 := (cmp_gt _ _).2 hr
      have V : mdQ a b c true = q + 1 := by unfold mdQ; rw [EQ.out.1, EQ.out.2, if_pos ⟨rfl, hr⟩]
      by_cases ho : 9223372036854775807 < q + 1
      · have R1 := Lib.hid (show 0 = mdV a b c true by unfold mdV; rw [if_neg NB.out, V, if_pos ho])
        have R2 := Lib.hid (show 8 = mdE a b c true by unfold mdE; rw [if_neg NB.out, V, if_pos ho])
        have hg : 0 < cmpI (q + 1) 9223372036854775807 := by rw [cmp_gt]; exact ho
        clear V
        go_enter Try.func29, Try.ntmps29
        go_wp2_with (first
          | (go_at_call_of 35 (Value.int .u64 a); refine (refBits_any _ _ (by omega)).mono ?_; rintro e w1 ⟨ga, ca, la, rfl, OA, ba, va, B1⟩; have VA := Lib.hid va; clear va)
          | (go_at_call_of 35 (Value.int .u64 b); refine (refBits_any _ _ (by omega)).mono ?_; rintro e w2 ⟨gb, cb, lb, rfl, OB, bb, vb, B2⟩; have VB := Lib.hid vb; clear vb)
          | (go_at_call 34; refine (refMul2_any ga 64 ca gb 64 cb la lb _ (OA.kept B2).rd OB.rd ba bb (by omega) (by omega) (by omega)).mono ?_; rw [VA.out, VB.out]; rintro e w3 ⟨nm, gm, cm, lm, m0, m1, rfl, OM, bm, vm, B3⟩; have VM := Lib.hid vm; clear vm)
          | (go_at_call_of 35 (Value.int .u64 c); refine (refBits_any _ _ (by omega)).mono ?_; rintro e w4 ⟨gc, cc, lc, rfl, OC, bc, vc, B4⟩; have VC := Lib.hid vc; clear vc)
          | (go_at_call 33; refine (refDiv2_any gm nm cm gc 64 cc lm lc _ (OM.kept B4).rd OC.rd bm bc (by omega) (by omega) (by rw [VC.out]; omega)).mono ?_; rw [VM.out, VC.out]; rintro e w5 ⟨gq, cq, gr, nr, cr, qs, rs, rfl, nr0, nr1, OQ, bq, vq, OR, br, vr, B5⟩; rw [EQ.out.1] at vq; rw [EQ.out.2] at vr; have VQ := Lib.hid vq; have VR := Lib.hid vr; clear vq vr)
          | (go_at_call_of 36 (Value.slice (some ⟨gr, 0, none⟩) nr cr); refine (refCmp_any gr nr cr w5.heap.size 1 1 rs [0] _ (OR.rd.alloc _) (Own.one w5 0).rd br (bits_one (.inl rfl)) (by omega) (by omega)).mono ?_; rw [VR.out, val_one]; rintro e w51 ⟨rfl, rfl⟩)
          | (go_at_call 37; refine (refAdd2_any gq nm cq (w5.heap.size + 1) 1 1 nm qs [1] _ ((OQ.rd.alloc _).alloc _) (Own.one' (by simp) 1).rd bq (bits_one (.inr rfl)) (by omega) (by omega)).mono ?_; rw [VQ.out, val_one]; rintro e w52 ⟨gt, ct, ts, rfl, OT, bt, vt, B52⟩; have VT := Lib.hid vt; clear vt)
          | (go_at_call 35; refine (refBits_any _ _ (by omega)).mono ?_; rintro e w6 ⟨gx, cx, lx, rfl, OX, bx, vx, B6⟩; have VX := Lib.hid vx; clear vx)
          | (go_at_call 36; refine (refCmp_any gt (nm + 1) ct gx 64 cx ts lx _ (OT.rd.kept B6) OX.rd bt bx (by omega) (by omega)).mono ?_; rw [VT.out, VX.out]; rintro e w7 ⟨rfl, rfl⟩)
          | (go_at_call 38; refine (refNum_any gt (nm + 1) ct 0 0 ts _ (OT.rd.kept B6) bt rfl (by omega) (by omega)).mono ?_; rw [num_of_bits VT.out (by omega) (by omega)]; rintro e w8 ⟨rfl, rfl⟩))
        go_ret2
        exact ⟨ret_pair_i R1.out R2.out, new_then B1 (new_then B2 (new_then B3 (new_then B4 (new_then B5 (new_then (new_alloc (new_alloc (new_refl w5) _) _) (new_then B52 B6))))))⟩
      · have R1 := Lib.hid (show q + 1 = mdV a b c true by unfold mdV; rw [if_neg NB.out, V, if_neg ho])
        have R2 := Lib.hid (show 0 = mdE a b c true by unfold mdE; rw [if_neg NB.out, V, if_neg ho])
        have hg : ¬ 0 < cmpI (q + 1) 9223372036854775807 := by rw [cmp_gt]; exact ho
        clear V
        go_enter Try.func29, Try.ntmps29
        go_wp2_with (first
          | (go_at_call_of 35 (Value.int .u64 a); refine (refBits_any _ _ (by omega)).mono ?_; rintro e w1 ⟨ga, ca, la, rfl, OA, ba, va, B1⟩; have VA := Lib.hid va; clear va)
          | (go_at_call_of 35 (Value.int .u64 b); refine (refBits_any _ _ (by omega)).mono ?_; rintro e w2 ⟨gb, cb, lb, rfl, OB, bb, vb, B2⟩; have VB := Lib.hid vb; clear vb)
          | (go_at_call 34; refine (refMul2_any ga 64 ca gb 64 cb la lb _ (OA.kept B2).rd OB.rd ba bb (by omega) (by omega) (by omega)).mono ?_; rw [VA.out, VB.out]; rintro e w3 ⟨nm, gm, cm, lm, m0, m1, rfl, OM, bm, vm, B3⟩; have VM := Lib.hid vm; clear vm)
          | (go_at_call_of 35 (Value.int .u64 c); refine (refBits_any _ _ (by omega)).mono ?_; rintro e w4 ⟨gc, cc, lc, rfl, OC, bc, vc, B4⟩; have VC := Lib.hid vc; clear vc)
          | (go_at_call 33; refine (refDiv2_any gm nm cm gc 64 cc lm lc _ (OM.kept B4).rd OC.rd bm bc (by omega) (by omega) (by rw [VC.out]; omega)).mono ?_; rw [VM.out, VC.out]; rintro e w5 ⟨gq, cq, gr, nr, cr, qs, rs, rfl, nr0, nr1, OQ, bq, vq, OR, br, vr, B5⟩; rw [EQ.out.1] at vq; rw [EQ.out.2] at vr; have VQ := Lib.hid vq; have VR := Lib.hid vr; clear vq vr)
          | (go_at_call_of 36 (Value.slice (some ⟨gr, 0, none⟩) nr cr); refine (refCmp_any gr nr cr w5.heap.size 1 1 rs [0] _ (OR.rd.alloc _) (Own.one w5 0).rd br (bits_one (.inl rfl)) (by omega) (by omega)).mono ?_; rw [VR.out, val_one]; rintro e w51 ⟨rfl, rfl⟩)
          | (go_at_call 37; refine (refAdd2_any gq nm cq (w5.heap.size + 1) 1 1 nm qs [1] _ ((OQ.rd.alloc _).alloc _) (Own.one' (by simp) 1).rd bq (bits_one (.inr rfl)) (by omega) (by omega)).mono ?_; rw [VQ.out, val_one]; rintro e w52 ⟨gt, ct, ts, rfl, OT, bt, vt, B52⟩; have VT := Lib.hid vt; clear vt)
          | (go_at_call 35; refine (refBits_any _ _ (by omega)).mono ?_; rintro e w6 ⟨gx, cx, lx, rfl, OX, bx, vx, B6⟩; have VX := Lib.hid vx; clear vx)
          | (go_at_call 36; refine (refCmp_any gt (nm + 1) ct gx 64 cx ts lx _ (OT.rd.kept B6) OX.rd bt bx (by omega) (by omega)).mono ?_; rw [VT.out, VX.out]; rintro e w7 ⟨rfl, rfl⟩)
          | (go_at_call 38; refine (refNum_any gt (nm + 1) ct 0 0 ts _ (OT.rd.kept B6) bt rfl (by omega) (by omega)).mono ?_; rw [num_of_bits VT.out (by omega) (by omega)]; rintro e w8 ⟨rfl, rfl⟩))
        go_ret2
        exact ⟨ret_pair_i R1.out R2.out, new_then B1 (new_then B2 (new_then B3 (new_then B4 (new_then B5 (new_then (new_alloc (new_alloc (new_refl w5) _) _) (new_then B52 B6))))))⟩
    · have hcr : ¬ 0 < cmpI r 0 := by rw [cmp_gt]; exact hr
      have V : mdQ a b c true = q := by unfold mdQ; rw [EQ.out.1, EQ.out.2, if_neg (by simp; omega)]; omega
      by_cases ho : 9223372036854775807 < q
      · have R1 := Lib.hid (show 0 = mdV a b c true by unfold mdV; rw [if_neg NB.out, V, if_pos ho])
        have R2 := Lib.hid (show 8 = mdE a b c true by unfold mdE; rw [if_neg NB.out, V, if_pos ho])
        have hg : 0 < cmpI (q) 9223372036854775807 := by rw [cmp_gt]; exact ho
        clear V
        go_enter Try.func29, Try.ntmps29
        go_wp2_with (first
          | (go_at_call_of 35 (Value.int .u64 a); refine (refBits_any _ _ (by omega)).mono ?_; rintro e w1 ⟨ga, ca, la, rfl, OA, ba, va, B1⟩; have VA := Lib.hid va; clear va)
          | (go_at_call_of 35 (Value.int .u64 b); refine (refBits_any _ _ (by omega)).mono ?_; rintro e w2 ⟨gb, cb, lb, rfl, OB, bb, vb, B2⟩; have VB := Lib.hid vb; clear vb)
          | (go_at_call 34; refine (refMul2_any ga 64 ca gb 64 cb la lb _ (OA.kept B2).rd OB.rd ba bb (by omega) (by omega) (by omega)).mono ?_; rw [VA.out, VB.out]; rintro e w3 ⟨nm, gm, cm, lm, m0, m1, rfl, OM, bm, vm, B3⟩; have VM := Lib.hid vm; clear vm)
          | (go_at_call_of 35 (Value.int .u64 c); refine (refBits_any _ _ (by omega)).mono ?_; rintro e w4 ⟨gc, cc, lc, rfl, OC, bc, vc, B4⟩; have VC := Lib.hid vc; clear vc)
          | (go_at_call 33; refine (refDiv2_any gm nm cm gc 64 cc lm lc _ (OM.kept B4).rd OC.rd bm bc (by omega) (by omega) (by rw [VC.out]; omega)).mono ?_; rw [VM.out, VC.out]; rintro e w5 ⟨gq, cq, gr, nr, cr, qs, rs, rfl, nr0, nr1, OQ, bq, vq, OR, br, vr, B5⟩; rw [EQ.out.1] at vq; rw [EQ.out.2] at vr; have VQ := Lib.hid vq; have VR := Lib.hid vr; clear vq vr)
          | (go_at_call_of 36 (Value.slice (some ⟨gr, 0, none⟩) nr cr); refine (refCmp_any gr nr cr w5.heap.size 1 1 rs [0] _ (OR.rd.alloc _) (Own.one w5 0).rd br (bits_one (.inl rfl)) (by omega) (by omega)).mono ?_; rw [VR.out, val_one]; rintro e w51 ⟨rfl, rfl⟩)
          | (go_at_call 35; refine (refBits_any _ _ (by omega)).mono ?_; rintro e w6 ⟨gx, cx, lx, rfl, OX, bx, vx, B6⟩; have VX := Lib.hid vx; clear vx)
          | (go_at_call 36; refine (refCmp_any gq nm cq gx 64 cx qs lx _ ((OQ.rd.alloc _).kept B6) OX.rd bq bx (by omega) (by omega)).mono ?_; rw [VQ.out, VX.out]; rintro e w7 ⟨rfl, rfl⟩)
          | (go_at_call 38; refine (refNum_any gq nm cq 0 0 qs _ ((OQ.rd.alloc _).kept B6) bq rfl (by omega) (by omega)).mono ?_; rw [num_of_bits VQ.out (by omega) (by omega)]; rintro e w8 ⟨rfl, rfl⟩))
        go_ret2
        exact ⟨ret_pair_i R1.out R2.out, new_then B1 (new_then B2 (new_then B3 (new_then B4 (new_then B5 (new_then (new_alloc (new_refl w5) _) B6)))))⟩
      · have R1 := Lib.hid (show q = mdV a b c true by unfold mdV; rw [if_neg NB.out, V, if_neg ho])
        have R2 := Lib.hid (show 0 = mdE a b c true by unfold mdE; rw [if_neg NB.out, V, if_neg ho])
        have hg : ¬ 0 < cmpI (q) 9223372036854775807 := by rw [cmp_gt]; exact ho
        clear V
        go_enter Try.func29, Try.ntmps29
        go_wp2_with (first
          | (go_at_call_of 35 (Value.int .u64 a); refine (refBits_any _ _ (by omega)).mono ?_; rintro e w1 ⟨ga, ca, la, rfl, OA, ba, va, B1⟩; have VA := Lib.hid va; clear va)
          | (go_at_call_of 35 (Value.int .u64 b); refine (refBits_any _ _ (by omega)).mono ?_; rintro e w2 ⟨gb, cb, lb, rfl, OB, bb, vb, B2⟩; have VB := Lib.hid vb; clear vb)
          | (go_at_call 34; refine (refMul2_any ga 64 ca gb 64 cb la lb _ (OA.kept B2).rd OB.rd ba bb (by omega) (by omega) (by omega)).mono ?_; rw [VA.out, VB.out]; rintro e w3 ⟨nm, gm, cm, lm, m0, m1, rfl, OM, bm, vm, B3⟩; have VM := Lib.hid vm; clear vm)
          | (go_at_call_of 35 (Value.int .u64 c); refine (refBits_any _ _ (by omega)).mono ?_; rintro e w4 ⟨gc, cc, lc, rfl, OC, bc, vc, B4⟩; have VC := Lib.hid vc; clear vc)
          | (go_at_call 33; refine (refDiv2_any gm nm cm gc 64 cc lm lc _ (OM.kept B4).rd OC.rd bm bc (by omega) (by omega) (by rw [VC.out]; omega)).mono ?_; rw [VM.out, VC.out]; rintro e w5 ⟨gq, cq, gr, nr, cr, qs, rs, rfl, nr0, nr1, OQ, bq, vq, OR, br, vr, B5⟩; rw [EQ.out.1] at vq; rw [EQ.out.2] at vr; have VQ := Lib.hid vq; have VR := Lib.hid vr; clear vq vr)
          | (go_at_call_of 36 (Value.slice (some ⟨gr, 0, none⟩) nr cr); refine (refCmp_any gr nr cr w5.heap.size 1 1 rs [0] _ (OR.rd.alloc _) (Own.one w5 0).rd br (bits_one (.inl rfl)) (by omega) (by omega)).mono ?_; rw [VR.out, val_one]; rintro e w51 ⟨rfl, rfl⟩)
          | (go_at_call 35; refine (refBits_any _ _ (by omega)).mono ?_; rintro e w6 ⟨gx, cx, lx, rfl, OX, bx, vx, B6⟩; have VX := Lib.hid vx; clear vx)
          | (go_at_call 36; refine (refCmp_any gq nm cq gx 64 cx qs lx _ ((OQ.rd.alloc _).kept B6) OX.rd bq bx (by omega) (by omega)).mono ?_; rw [VQ.out, VX.out]; rintro e w7 ⟨rfl, rfl⟩)
          | (go_at_call 38; refine (refNum_any gq nm cq 0 0 qs _ ((OQ.rd.alloc _).kept B6) bq rfl (by omega) (by omega)).mono ?_; rw [num_of_bits VQ.out (by omega) (by omega)]; rintro e w8 ⟨rfl, rfl⟩))
        go_ret2
        exact ⟨ret_pair_i R1.out R2.out, new_then B1 (new_then B2 (new_then B3 (new_then B4 (new_then B5 (new_then (new_alloc (new_refl w5) _) B6)))))⟩

theorem refMulDiv_any (a b c : Int) (up : Bool) (w : World) (ha : -9223372036854775808 ≤ a ∧ a ≤ 9223372036854775807) (hb : -9223372036854775808 ≤ b ∧ b ≤ 9223372036854775807) (hc : -9223372036854775808 ≤ c ∧ c ≤ 9223372036854775807) :
    Calls Try.prog 29 #[.int .i64 a, .int .i64 b, .int .i64 c, .bool up] w fun e w' => e = .returned (.tuple #[.int .i64 (mdV a b c up), .int .i64 (mdE a b c up)]) ∧ Below w.heap.size w w' := by
  by_cases h : a < 0 ∨ b < 0 ∨ c ≤ 0
  · have e1 : mdV a b c up = 0 := by unfold mdV; rw [if_pos h]
    have e2 : mdE a b c up = 1 := by unfold mdE; rw [if_pos h]
    rw [e1, e2]
    exact refMulDiv_bad a b c up w h
  · exact refMulDiv_ok a b c up w (by omega) (by omega) (by omega)
end Go.Proofs.Ytmmccaaocfbdlaa
