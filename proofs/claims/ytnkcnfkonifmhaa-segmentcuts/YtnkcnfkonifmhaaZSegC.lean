/- The document's Encode of layer 13. -/
import Derived.Test.YtnkcnfkonifmhaaZSegB
import Derived.Test.YtnkcnfkonifmhaaZOptJ
namespace Go.Proofs.Ytnkcnfkonifmhaa
open Go.RowKit
set_option linter.unusedVariables false

/-- 'append(out, s...)', s a text, as a step of a region that draws its order. -/
theorem step_strB {ops : Array Oper} {o : Oper} {a : Act} {K : Act → World → Prop} {Q : Exit → Act → World → Prop} {X : Prop} {W : World} (hgd : o.guard = none) (sl x : Operand)
    (ho : o.op = .call { callee := .builtin .append, args := #[sl, x], argTypes := #[32, 9] })
    (base : Nat) (v : Value) (zs : List Int) (s : ByteArray) (hs : a.eval sl = v) (hx : a.eval x = .string s) (hown : OwnB W base v zs) (hlen : zs.length + s.size ≤ 1000000000) (hbase : base ≤ W.heap.size)
    (h : ∀ v' w', OwnB w' base v' (zs ++ sb s) → W.grownBy w' v.ownBlock → K (a.put o.dst v') w') :
    if Region.wanted o (yielded ops a.tmps) = true then Oper.wp Try.prog o a W K Q else X := by
  have hw : Region.wanted o (yielded ops a.tmps) = true := by simp [Region.wanted, hgd]
  rw [if_pos hw]
  obtain ⟨i0, hi, hz0, hz1, hz2⟩ := info_parts elB.info
  obtain ⟨v', w', hr, h2, h3, _⟩ := Lib.run_append_own_string (P := Try.prog) (w := W) base 32 9 o.type 5 i0 elB.und (by kernel_rfl) hi hz0 hz1 hz2 v zs.length (zs.map (Value.int .u8)) hown s (by unfold maxLen; omega) (by omega) hbase
  unfold Oper.wp execOp
  simp only [ho, resolve, invoke, builtin, Sem.run_bind, Sem.run_pure, Result.andThen_ok, List.map_toArray, List.map_cons, List.map_nil, hs, hx, hr]
  refine h v' w' ?_ h3
  unfold OwnB OwnK
  rw [List.map_append, List.length_append, sb_len, ← strCells_sb]
  exact h2
/-- A list grows behind a world. -/
def RefI (W : World) (zs : List Int) (n : Nat) (v : Value) (wx : World) : Prop := ∃ g c, v = .slice (some ⟨g, 0, none⟩) n c ∧ OwnB wx W.heap.size (.slice (some ⟨g, 0, none⟩) n c) zs ∧ Below W.heap.size W wx
theorem ref_i {W wx : World} {zs : List Int} {n : Nat} {v : Value} (O : OwnB wx W.heap.size v zs) (B : Below W.heap.size W wx) (hn : zs.length = n) (h0 : 0 < n) : RefI W zs n v wx := by
  obtain ⟨g, c, rfl, _, _⟩ := O.some hn h0
  exact ⟨g, c, rfl, O, B⟩
set_option maxRecDepth 100000 in
set_option maxHeartbeats 4000000 in
theorem refEncS_any (x : Ad) (h : Hd) (ok : HdOk h) (A : Option Addr) (n c : Nat) (xs : List OC) (d : ByteArray) (w : World) (hxa : x.ok) (hx : OptsAt w A n xs) (hn : n ≤ 100) (hnc : n ≤ c) (hd : d.size ≤ 1000) :
    Calls Try.prog 10 #[.agg #[.int .u8 x.a, .int .u8 x.b, .int .u8 x.c, .int .u8 x.d], .agg #[.int .u8 x.e, .int .u8 x.f, .int .u8 x.g, .int .u8 x.h], .agg #[.int .u16 h.src, .int .u16 h.dst, .int .u32 h.seq, .int .u32 h.ack, .int .u8 h.off, .int .u8 h.ace, .int .u8 h.fl, .int .u16 h.win, .int .u16 h.sum, .int .u16 h.urg, .slice A n c, .string d]] w (EncS w (encG x h (xs.map OC.o) (sb d))) := by
  obtain ⟨os, hos⟩ : ∃ os, xs.map OC.o = os := ⟨_, rfl⟩
  have A0 := At.new w [.int .u8 x.a, .int .u8 x.b, .int .u8 x.c, .int .u8 x.d] 22
  have A1 := At.newAt (alloc_size w (.cells #[.int .u8 x.a, .int .u8 x.b, .int .u8 x.c, .int .u8 x.d] 22)) [.int .u8 x.e, .int .u8 x.f, .int .u8 x.g, .int .u8 x.h] 22
  have L0 := new_alloc (new_alloc (new_refl w) (.cells #[.int .u8 x.a, .int .u8 x.b, .int .u8 x.c, .int .u8 x.d] 22)) (.cells #[.int .u8 x.e, .int .u8 x.f, .int .u8 x.g, .int .u8 x.h] 22)
  have hs2 : ((w.alloc (.cells #[.int .u8 x.a, .int .u8 x.b, .int .u8 x.c, .int .u8 x.d] 22)).alloc (.cells #[.int .u8 x.e, .int .u8 x.f, .int .u8 x.g, .int .u8 x.h] 22)).heap.size = w.heap.size + 1 + 1 := by rw [alloc_size, alloc_size]
  replace A0 := (A0.alloc (.cells #[.int .u8 x.e, .int .u8 x.f, .int .u8 x.g, .int .u8 x.h] 22)).alloc (.cells #[.int .u16 h.src, .int .u16 h.dst, .int .u32 h.seq, .int .u32 h.ack, .int .u8 h.off, .int .u8 h.ace, .int .u8 h.fl, .int .u16 h.win, .int .u16 h.sum, .int .u16 h.urg, .slice A n c, .string d] 30)
  replace A1 := A1.alloc (.cells #[.int .u16 h.src, .int .u16 h.dst, .int .u32 h.seq, .int .u32 h.ack, .int .u8 h.off, .int .u8 h.ace, .int .u8 h.fl, .int .u16 h.win, .int .u16 h.sum, .int .u16 h.urg, .slice A n c, .string d] 30)
  have A2 := At.newAt hs2 (segV h A n c d) 30
  replace L0 := new_alloc L0 (.cells #[.int .u16 h.src, .int .u16 h.dst, .int .u32 h.seq, .int .u32 h.ack, .int .u8 h.off, .int .u8 h.ace, .int .u8 h.fl, .int .u16 h.win, .int .u16 h.sum, .int .u16 h.urg, .slice A n c, .string d] 30)
  clear hs2
  have OK := Lib.hid ok
  have HXA := Lib.hid hxa
  have HD := Lib.hid hd
  have HX := Lib.hid hx
  have HN := Lib.hid hn
  have HNC := Lib.hid hnc
  have HOS := Lib.hid hos
  clear ok hxa hd hx hn hnc hos
  go_enter Try.func10, Try.ntmps10
  go_upto_region 1 with (fail)
  generalize hW : ((w.alloc (.cells #[.int .u8 x.a, .int .u8 x.b, .int .u8 x.c, .int .u8 x.d] 22)).alloc (.cells #[.int .u8 x.e, .int .u8 x.f, .int .u8 x.g, .int .u8 x.h] 22)).alloc (.cells #[.int .u16 h.src, .int .u16 h.dst, .int .u32 h.seq, .int .u32 h.ack, .int .u8 h.off, .int .u8 h.ace, .int .u8 h.fl, .int .u16 h.win, .int .u16 h.sum, .int .u16 h.urg, .slice A n c, .string d] 30) = W at A0 A1 A2 L0 ⊢
  clear hW
  have cA := A2.cell 10 rfl
  have cD := A2.cell 11 rfl
  have PR := Lib.hid (refPrint_any A n c xs W (HX.out.kept L0) HN.out HNC.out)
  rw [HOS.out] at PR
  clear HX
  by_cases hck : chkO [] os 0 = 0
  · have hp := PR.out
    unfold PrnTo at hp
    rw [hck] at hp
    have HP := Lib.hid hp
    clear hp PR
    have HCK := Lib.hid hck
    clear hck
    go_upto_region 2 with (first
      | (go_at_call 23; refine HP.out.mono ?_; rintro e w2 ⟨A5, n5, k5, rfl, O2, B2⟩))
    obtain ⟨O2, hl5, h40, h4⟩ := prn_ok HCK.out O2
    have HO := Lib.hid O2.src
    have HL5 := Lib.hid hl5
    have H40 := Lib.hid h40
    have L2 := new_then L0 B2
    have K0 := A0.kept B2
    have K1 := A1.kept B2
    have K2 := A2.kept B2
    clear O2 cA cD A0 A1 A2 L0 B2 HP
    have cD := K2.cell 11 rfl
    obtain ⟨o, ho⟩ : ∃ o : Int, 5 + ((n5 / 4 : Nat) : Int) = o := ⟨_, rfl⟩
    have e1 : (n5 : Int).tdiv 4 = o - 5 := by rw [Int.tdiv_eq_ediv_of_nonneg (by omega)]; omega
    have e4 : (n5 : Int) / 4 = o - 5 := by omega
    have e2 : wrap64 o = o := by unfold wrap64; omega
    have e0 : wrap64 (o - 5) = o - 5 := by unfold wrap64; omega
    have e5 : 5 + (o - 5) = o := by omega
    have e3 : o % 256 = o := by omega
    have hd5 : ¬ (65000 : Int) < (d.size : Int) := by have := HD.out; omega
    have HOO := Lib.hid ho
    have HU : Hid (HdOk { h with off := o, sum := 0 }) := Lib.hid ⟨OK.out.src, OK.out.dst, OK.out.seq, OK.out.ack, by show 0 ≤ o ∧ o ≤ 255; omega, OK.out.ace, OK.out.fl, OK.out.win, by show (0 : Int) ≤ 0 ∧ (0 : Int) ≤ 65535; omega, OK.out.urg⟩
    have hm : ∃ m : Nat, 20 + n5 + d.size = m := ⟨_, rfl⟩
    obtain ⟨m, hm⟩ := hm
    have HM := Lib.hid hm
    have hE : ¬ (65000 < (sb d).length) := by rw [sb_len]; have := HD.out; omega
    have hoff : ∀ z : Int, offG h (padO (allO os)).length z = { h with off := o, sum := z } := fun z => by rw [hl5]; unfold offG; rw [ho]
    have HE1 : Hid (¬ (7 < h.ace ∨ 63 < h.fl) → encG x h os (sb d) = (segB { h with off := o, sum := ckS (pseG x m ++ segB { h with off := o, sum := 0 } (padO (allO os)) (sb d)) } (padO (allO os)) (sb d), 0)) := Lib.hid (fun h7 => by
      unfold encG
      rw [if_neg (by simp [HCK.out]), if_neg hE, if_neg h7, hoff, hoff, hl5, sb_len, hm])
    have HE2 : Hid ((7 < h.ace ∨ 63 < h.fl) → encG x h os (sb d) = ([], 2)) := Lib.hid (fun h7 => by
      unfold encG
      rw [if_neg (by simp [HCK.out]), if_neg hE, if_pos h7])
    clear hm hE hoff ho h40 h4 hl5
    have c0 := K2.cell 0 rfl
    have c1 := K2.cell 1 rfl
    have c2 := K2.cell 2 rfl
    have c3 := K2.cell 3 rfl
    have c4 := K2.cell 4 rfl
    have c5 := K2.cell 5 rfl
    have c6 := K2.cell 6 rfl
    have c7 := K2.cell 7 rfl
    have c8 := K2.cell 8 rfl
    have c9 := K2.cell 9 rfl
    go_upto_region 9 with (fail)
    clear c0 c1 c2 c3 c4 c5 c6 c7 c8 c9 e0 e1 e2 e3 e4 e5 hd5 cD
    have BH := Blk.new w2 [.int .u16 h.src, .int .u16 h.dst, .int .u32 h.seq, .int .u32 h.ack, .int .u8 o, .int .u8 h.ace, .int .u8 h.fl, .int .u16 h.win, .int .u16 0, .int .u16 h.urg] 27
    have R3 := new_alloc (new_refl w2) (.cells #[.int .u16 h.src, .int .u16 h.dst, .int .u32 h.seq, .int .u32 h.ack, .int .u8 o, .int .u8 h.ace, .int .u8 h.fl, .int .u16 h.win, .int .u16 0, .int .u16 h.urg] 27)
    generalize w2.alloc (.cells #[.int .u16 h.src, .int .u16 h.dst, .int .u32 h.seq, .int .u32 h.ack, .int .u8 o, .int .u8 h.ace, .int .u8 h.fl, .int .u16 h.win, .int .u16 0, .int .u16 h.urg] 27) = W3 at BH R3 ⊢
    have b0 := BH.cell 0 rfl
    have b1 := BH.cell 1 rfl
    have b2 := BH.cell 2 rfl
    have b3 := BH.cell 3 rfl
    have b4 := BH.cell 4 rfl
    have b5 := BH.cell 5 rfl
    have b6 := BH.cell 6 rfl
    have b7 := BH.cell 7 rfl
    have b8 := BH.cell 8 rfl
    have b9 := BH.cell 9 rfl
    have cD := (K2.kept R3).cell 11 rfl
    by_cases h7 : 7 < h.ace ∨ 63 < h.fl
    · have HE := Lib.hid (HE2.out h7)
      have hf : Hid (¬ fitF { h with off := o, sum := 0 }) := Lib.hid (fun hf => by have h3 : h.ace ≤ 7 := hf.2.2.1; have h4 : h.fl ≤ 63 := hf.2.2.2; omega)
      clear h7
      go_wp2_with (first
        | (go_at_call 24; refine (refEncode_no { h with off := o, sum := 0 } HU.out _ hf.out).mono ?_; rintro e w4 ⟨rfl, B4⟩))
      go_ret2
      exact encS_err (by rw [HOS.out]; exact HE.out) (new_then L2 (new_then R3 B4))
    · have HE := Lib.hid (HE1.out h7)
      have hf : Hid (fitF { h with off := o, sum := 0 }) := Lib.hid ⟨by show 5 ≤ o; have := HOO.out; omega, by show o ≤ 15; have := HOO.out; have := H40.out; omega, by show h.ace ≤ 7; omega, by show h.fl ≤ 63; omega⟩
      clear h7
      go_upto_region 12 with (first
        | (go_at_call 24; refine (refEncode_yes { h with off := o, sum := 0 } HU.out _ hf.out).mono ?_; rintro e w4 ⟨g4, k4, rfl, O4, B4⟩))
      clear b0 b1 b2 b3 b4 b5 b6 b7 b8 b9 cD
      have hby : Hid (bytS (segB { h with off := o, sum := 0 } (padO (allO os)) (sb d))) := Lib.hid (byt_app (hdF_byt HU.out hf.out) (byt_app (bytP HCK.out) (bytD d)))
      have hsl : Hid ((segB { h with off := o, sum := 0 } (padO (allO os)) (sb d)).length = m ∧ 0 < m) := Lib.hid (by rw [segB_len, HL5.out, sb_len, HM.out]; have := HM.out; omega)
      have hsm : Hid (m ≤ 100000) := Lib.hid (by have := HM.out; have := H40.out; have := HD.out; omega)
      have q1 : Hid ((hdF { h with off := o, sum := 0 }).length + (padO (allO os)).length ≤ 1000000000) := Lib.hid (by rw [hdF_len, HL5.out]; have := H40.out; omega)
      have q2 : Hid ((hdF { h with off := o, sum := 0 } ++ padO (allO os)).length + d.size ≤ 1000000000) := Lib.hid (by rw [List.length_append, hdF_len, HL5.out]; have := H40.out; have := HD.out; omega)
      go_cut [11] (fun v wx => RefI W3 (segB { h with off := o, sum := 0 } (padO (allO os)) (sb d)) m v wx)
      case first =>
        have cD := ((K2.kept R3).kept B4).cell 11 rfl
        have HS4 := Lib.hid ((HO.out.kept R3).kept B4)
        have HK := Lib.hid (K2.kept R3).1
        have HC3 := Lib.hid ((K2.kept R3).cell 11 rfl)
        clear K0 K1 K2 BH R3 HO
        go_region_held3 (fun w' => w'.cell? ⟨w.heap.size + 1 + 1, 11, none⟩ = some (.string d))
          (first | go_keep | exact cell_low B6 HK.out HC3.out | exact cell_low B5 HK.out HC3.out)
          (first
            | (refine step_strB (o := ⟨some 47, _, _, _, _, _⟩) rfl _ _ rfl W3.heap.size _ (hdF { h with off := o, sum := 0 } ++ padO (allO os)) d rfl rfl O5 q2.out B5.size ?_
               intro v6 w6 O6 G6
               have B6 := B5.trans (below_push O5 G6 B5.size))
            | (refine step_catK elB (o := ⟨some 44, _, _, _, _, _⟩) rfl _ _ rfl W3.heap.size _ (hdF { h with off := o, sum := 0 }) A5 n5 k5 (padO (allO os)) rfl rfl HS4.out O4.drew q1.out B4.size _ rfl ?_
               intro v5 w5 O5 G5 hat5
               have B5 := (new_drew B4).trans (below_push O4.drew G5 B4.size)))
        all_goals
          clear cD
          rw [List.append_assoc] at O6
          go_wp2_with fail
          go_meet
          case rel => exact ref_i O6 B6 hsl.out.1 hsl.out.2
      case rest =>
        obtain ⟨g6, k6, rfl, O6, B6⟩ := hcut
        have K04 := (K0.kept R3).kept B6
        have K14 := (K1.kept R3).kept B6
        have a0 := K04.cell 0 rfl
        have a1 := K04.cell 1 rfl
        have a2 := K04.cell 2 rfl
        have a3 := K04.cell 3 rfl
        have a4 := K14.cell 0 rfl
        have a5 := K14.cell 1 rfl
        have a6 := K14.cell 2 rfl
        have a7 := K14.cell 3 rfl
        have BH6 := BH.kept B6
        have HW := Lib.hid B6
        have P6 := Lib.hid O6.src
        have hqm : Hid (-9223372036854775808 ≤ (m : Int) ∧ (m : Int) ≤ 9223372036854775807) := Lib.hid (by have := hsm.out; omega)
        obtain ⟨C, hC⟩ : ∃ C, ckS (pseG x m ++ segB { h with off := o, sum := 0 } (padO (allO os)) (sb d)) = C := ⟨_, rfl⟩
        have HC := Lib.hid hC
        have q3 : Hid ((pseG x m).length + (segB { h with off := o, sum := 0 } (padO (allO os)) (sb d)).length ≤ 1000000000) := Lib.hid (by rw [pseG_len, hsl.out.1]; have := hsm.out; omega)
        have q4 : Hid ((pseG x m ++ segB { h with off := o, sum := 0 } (padO (allO os)) (sb d)).length = 12 + m ∧ 0 < 12 + m) := Lib.hid (by rw [List.length_append, pseG_len, hsl.out.1]; omega)
        have q5 : Hid (12 + m ≤ 100000) := Lib.hid (by have := HM.out; have := H40.out; have := HD.out; omega)
        have q6 : Hid (bytS (pseG x m ++ segB { h with off := o, sum := 0 } (padO (allO os)) (sb d))) := Lib.hid (byt_app (pseG_byt HXA.out m) hby.out)
        clear hC O6 B6 BH K04 K14
        go_upto_region 14 with (first
          | (go_at_call 26; refine (refPseudo_any x.a x.b x.c x.d x.e x.f x.g x.h 6 m _ hqm.out).mono ?_; rintro e w7 ⟨g7, k7, rfl, O7, B7⟩)
          | (go_at_call 25; refine (refSum10_any (some ⟨g8, 0, none⟩) (12 + m) k8 g8 _ w8 (own_ls O8) q4.out.1 q6.out q5.out).mono ?_; rw [HC.out]; rintro e w9 ⟨rfl, rfl⟩)
          | (at_builtin; refine wp_catK elB (by rfl) _ _ (by rfl) wc.heap.size _ (pseG x m) (some ⟨g6, 0, none⟩) m k6 (segB { h with off := o, sum := 0 } (padO (allO os)) (sb d)) (by rfl) (by rfl) (P6.out.kept B7) O7 q3.out B7.size ?_; intro v8 w8 O8 G8 hat8; have B8 := B7.trans (below_push O7 G8 B7.size); have BH8 := BH6.kept B8; have f8 := BH8.frozen 8; have b8 := BH8.cell 8 rfl; have l8 := BH8.lt; obtain ⟨g8, k8, rfl, _, _⟩ := O8.some q4.out.1 q4.out.2))
        clear a0 a1 a2 a3 a4 a5 a6 a7 f8 b8
        have BH9 := BH8.set 8 (.int .u16 C)
        have R9 := new_set (p := ⟨w2.heap.size, 8, none⟩) (new_then (new_then R3 HW.out) B8) (Nat.le_refl _) (.int .u16 C)
        generalize w8.setCell ⟨w2.heap.size, 8, none⟩ (.int .u16 C) = W9 at BH9 R9 ⊢
        clear BH8 BH6 B7 B8 O7 O8 G8 hat8 P6 l8 HW
        have b0 := BH9.cell 0 rfl
        have b1 := BH9.cell 1 rfl
        have b2 := BH9.cell 2 rfl
        have b3 := BH9.cell 3 rfl
        have b4 := BH9.cell 4 rfl
        have b5 := BH9.cell 5 rfl
        have b6 := BH9.cell 6 rfl
        have b7 := BH9.cell 7 rfl
        have b8 := BH9.cell 8 rfl
        have b9 := BH9.cell 9 rfl
        have hcb : 0 ≤ C ∧ C ≤ 65535 := by rw [← HC.out]; exact sum_bd q6.out
        have HU2 : Hid (HdOk { h with off := o, sum := C }) := Lib.hid ⟨HU.out.src, HU.out.dst, HU.out.seq, HU.out.ack, HU.out.off, HU.out.ace, HU.out.fl, HU.out.win, hcb, HU.out.urg⟩
        have hf2 : Hid (fitF { h with off := o, sum := C }) := Lib.hid hf.out
        have q7 : Hid ((hdF { h with off := o, sum := C }).length + (padO (allO os)).length ≤ 1000000000) := Lib.hid q1.out
        have q8 : Hid ((hdF { h with off := o, sum := C } ++ padO (allO os)).length + d.size ≤ 1000000000) := Lib.hid q2.out
        have q9 : Hid ((segB { h with off := o, sum := C } (padO (allO os)) (sb d)).length = m ∧ 0 < m) := Lib.hid hsl.out
        clear hcb
        go_upto_region 15 with (first
          | (go_at_call 24; refine (refEncode_yes { h with off := o, sum := C } HU2.out _ hf2.out).mono ?_; rintro e w10 ⟨g10, k10, rfl, O10, B10⟩))
        clear b0 b1 b2 b3 b4 b5 b6 b7 b8 b9
        have cD := ((K2.kept R9).kept B10).cell 11 rfl
        have HS10 := Lib.hid ((HO.out.kept R9).kept B10)
        have HK := Lib.hid (K2.kept R9).1
        have HC9 := Lib.hid ((K2.kept R9).cell 11 rfl)
        have HL2 := Lib.hid L2
        have HR9 := Lib.hid R9
        clear K0 K1 K2 R3 R9 L2 HO BH9
        go_region_held3 (fun w' => w'.cell? ⟨w.heap.size + 1 + 1, 11, none⟩ = some (.string d))
          (first | go_keep | exact cell_low B12 HK.out HC9.out | exact cell_low B11 HK.out HC9.out)
          (first
            | (refine step_strB (o := ⟨some 67, _, _, _, _, _⟩) rfl _ _ rfl W9.heap.size _ (hdF { h with off := o, sum := C } ++ padO (allO os)) d rfl rfl O11 q8.out B11.size ?_
               intro v12 w12 O12 G12
               have B12 := B11.trans (below_push O11 G12 B11.size))
            | (refine step_catK elB (o := ⟨some 64, _, _, _, _, _⟩) rfl _ _ rfl W9.heap.size _ (hdF { h with off := o, sum := C }) A5 n5 k5 (padO (allO os)) rfl rfl HS10.out O10.drew q7.out B10.size _ rfl ?_
               intro v11 w11 O11 G11 hat11
               have B11 := (new_drew B10).trans (below_push O10.drew G11 B10.size)))
        all_goals
          clear cD
          rw [List.append_assoc] at O12
          go_wp2_with fail
          obtain ⟨g12, k12, rfl, _, _⟩ := O12.some q9.out.1 q9.out.2
          go_ret2
          rw [HOS.out, HE.out, HC.out]
          exact ⟨_, m, k12, rfl, O12.mono (Nat.le_trans HL2.out.size HR9.out.size), new_then HL2.out (new_then HR9.out B12)⟩
  · have hp := PR.out
    unfold PrnTo at hp
    have hpr : prO os = [] := by rw [prO, if_neg hck]
    rw [hpr] at hp
    have hE : encG x h os (sb d) = ([], chkO [] os 0) := by unfold encG; rw [if_pos hck]
    have HP := Lib.hid hp
    clear hp PR hpr
    have hck' : (chkO [] os 0 == 0) = false := by simp [hck]
    generalize chkO [] os 0 = q at *
    have HE := Lib.hid hE
    clear hE hck
    go_wp2_with (first
      | (go_at_call 23; refine HP.out.mono ?_; rintro e w2 ⟨A5, n5, k5, rfl, O2, B2⟩))
    go_ret2
    exact encS_err (by rw [HOS.out]; exact HE.out) (new_then L0 B2)
end Go.Proofs.Ytnkcnfkonifmhaa
