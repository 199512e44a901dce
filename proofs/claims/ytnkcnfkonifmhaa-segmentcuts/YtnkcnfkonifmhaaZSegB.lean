/- Package segment: Encode. -/
import Derived.Test.YtnkcnfkonifmhaaZSegA
namespace Go.Proofs.Ytnkcnfkonifmhaa
open Go.RowKit
set_option linter.unusedVariables false

/-- What Encode tells: bytes of its own, or none, and what is wrong. -/
def EncS (w : World) (T : List Int × Int) (e : Ending) (w' : World) : Prop :=
  ∃ A n c, e = .returned (.tuple #[.slice A n c, .int .i64 T.2]) ∧ OwnB w' w.heap.size (.slice A n c) T.1 ∧ Below w.heap.size w w'
theorem encS_err {w w' : World} {T : List Int × Int} {q : Int} (h : T = ([], q)) (B : Below w.heap.size w w') : EncS w T (.returned (.tuple #[.slice none 0 0, .int .i64 q])) w' := by
  subst h
  exact ⟨none, 0, 0, rfl, OwnK.nil _ _ _ _, B⟩
theorem own_len {w : World} {base n c : Nat} {A : Option Addr} {zs : List Int} (h : OwnB w base (.slice A n c) zs) : zs.length = n := by
  rcases h.form with ⟨e, rfl⟩ | ⟨g, c', e⟩
  · simp at e; obtain ⟨_, rfl, _⟩ := e; rfl
  · simp at e; exact e.2.1.symm
theorem own_lsA {w : World} {base n c : Nat} {A : Option Addr} {zs : List Int} (h : OwnB w base (.slice A n c) zs) : ∃ g, LsK .u8 w g A zs := by
  rcases h.form with ⟨e, rfl⟩ | ⟨g, c', e⟩
  · exact ⟨0, .inl rfl⟩
  · simp at e
    obtain ⟨rfl, rfl, rfl⟩ := e
    exact ⟨g, own_ls h⟩
theorem prn_ok {w : World} {base n c : Nat} {A : Option Addr} {os : List Opt} (hc : chkO [] os 0 = 0) (h : OwnB w base (.slice A n c) (prO os)) : OwnB w base (.slice A n c) (padO (allO os)) ∧ (padO (allO os)).length = n ∧ n ≤ 40 ∧ n % 4 = 0 := by
  have e : prO os = padO (allO os) := by rw [prO, if_pos hc]
  rw [e] at h
  obtain ⟨_, hall⟩ := chk_ok os [] 0 hc
  have hl := own_len h
  refine ⟨h, hl, ?_, ?_⟩
  · rw [← hl, padO, List.length_append, List.length_replicate]; omega
  · rw [← hl]; exact (padO_len _).1
theorem seg_low {h : Hd} {o c : Int} : hdV { h with off := o, sum := c } = (hdV { h with off := o, sum := 0 }).set 8 (.int .u16 c) := rfl
theorem bytD (d : ByteArray) : bytS (sb d) := sb_byte d
set_option maxRecDepth 100000 in
set_option maxHeartbeats 4000000 in
theorem encS_any (x : Ad) (h : Hd) (ok : HdOk h) (A : Option Addr) (n c : Nat) (xs : List OC) (d : ByteArray) (w : World) (hxa : x.ok) (hx : OptsAt w A n xs) (hn : n ≤ 100) (hd : d.size ≤ 1000) :
    Calls Try.prog 9 #[.agg #[.int .u8 x.a, .int .u8 x.b, .int .u8 x.c, .int .u8 x.d], .agg #[.int .u8 x.e, .int .u8 x.f, .int .u8 x.g, .int .u8 x.h], .agg #[.int .u16 h.src, .int .u16 h.dst, .int .u32 h.seq, .int .u32 h.ack, .int .u8 h.off, .int .u8 h.ace, .int .u8 h.fl, .int .u16 h.win, .int .u16 h.sum, .int .u16 h.urg, .slice A n c, .string d]] w (EncS w (encG x h (xs.map OC.o) (sb d))) := by
  obtain ⟨os, hos⟩ : ∃ os, xs.map OC.o = os := ⟨_, rfl⟩
  have A0 := At.new w [.int .u8 x.a, .int .u8 x.b, .int .u8 x.c, .int .u8 x.d] 22
  have A1 := At.newAt (alloc_size w (.cells #[.int .u8 x.a, .int .u8 x.b, .int .u8 x.c, .int .u8 x.d] 22)) [.int .u8 x.e, .int .u8 x.f, .int .u8 x.g, .int .u8 x.h] 22
  have L0 := new_alloc (new_alloc (new_refl w) (.cells #[.int .u8 x.a, .int .u8 x.b, .int .u8 x.c, .int .u8 x.d] 22)) (.cells #[.int .u8 x.e, .int .u8 x.f, .int .u8 x.g, .int .u8 x.h] 22)
  have hs2 : ((w.alloc (.cells #[.int .u8 x.a, .int .u8 x.b, .int .u8 x.c, .int .u8 x.d] 22)).alloc (.cells #[.int .u8 x.e, .int .u8 x.f, .int .u8 x.g, .int .u8 x.h] 22)).heap.size = w.heap.size + 1 + 1 := by rw [alloc_size, alloc_size]
  replace A0 := (A0.alloc (.cells #[.int .u8 x.e, .int .u8 x.f, .int .u8 x.g, .int .u8 x.h] 22)).alloc (.cells #[.int .u16 h.src, .int .u16 h.dst, .int .u32 h.seq, .int .u32 h.ack, .int .u8 h.off, .int .u8 h.ace, .int .u8 h.fl, .int .u16 h.win, .int .u16 h.sum, .int .u16 h.urg, .slice A n c, .string d] 30)
  replace A1 := A1.alloc (.cells #[.int .u16 h.src, .int .u16 h.dst, .int .u32 h.seq, .int .u32 h.ack, .int .u8 h.off, .int .u8 h.ace, .int .u8 h.fl, .int .u16 h.win, .int .u16 h.sum, .int .u16 h.urg, .slice A n c, .string d] 30)
  have A2 := At.newAt hs2 (segV h A n c d) 30
  replace L0 := new_alloc L0 (.cells #[.int .u16 h.src, .int .u16 h.dst, .int .u32 h.seq, .int .u32 h.ack, .int .u8 h.off, .int .u8 h.ace, .int .u8 h.fl, .int .u16 h.win, .int .u16 h.sum, .int .u16 h.urg, .slice A n c, .string d] 30)
  clear hs2
  have OK := Lib.hid ok
  have HXA := Lib.hid hxa
  have HD := Lib.hid hd
  have HX := Lib.hid hx
  have HN := Lib.hid hn
  have HOS := Lib.hid hos
  clear ok hxa hd hx hn hos
  go_enter Try.func9, Try.ntmps9
  go_upto_region 1 with (fail)
  generalize hW : ((w.alloc (.cells #[.int .u8 x.a, .int .u8 x.b, .int .u8 x.c, .int .u8 x.d] 22)).alloc (.cells #[.int .u8 x.e, .int .u8 x.f, .int .u8 x.g, .int .u8 x.h] 22)).alloc (.cells #[.int .u16 h.src, .int .u16 h.dst, .int .u32 h.seq, .int .u32 h.ack, .int .u8 h.off, .int .u8 h.ace, .int .u8 h.fl, .int .u16 h.win, .int .u16 h.sum, .int .u16 h.urg, .slice A n c, .string d] 30) = W at A0 A1 A2 L0 ⊢
  clear hW
  have cA := A2.cell 10 rfl
  have cD := A2.cell 11 rfl
  have PR := Lib.hid (print_any A n c xs W (HX.out.kept L0) HN.out)
  rw [HOS.out] at PR
  clear HX
  by_cases hck : chkO [] os 0 = 0
  · have hp := PR.out
    unfold PrnTo at hp
    rw [hck] at hp
    have HP := Lib.hid hp
    clear hp PR
    have HCK := Lib.hid hck
    clear hck
    go_upto_region 2 with (first
      | (go_at_call 19; refine HP.out.mono ?_; rintro e w2 ⟨A5, n5, k5, rfl, O2, B2⟩))
    obtain ⟨O2, hl5, h40, h4⟩ := prn_ok HCK.out O2
    have HO := Lib.hid O2.src
    have HL5 := Lib.hid hl5
    have H40 := Lib.hid h40
    have L2 := new_then L0 B2
    have K0 := A0.kept B2
    have K1 := A1.kept B2
    have K2 := A2.kept B2
    clear O2 cA cD A0 A1 A2 L0 B2 HP
    have cD := K2.cell 11 rfl
    obtain ⟨o, ho⟩ : ∃ o : Int, 5 + ((n5 / 4 : Nat) : Int) = o := ⟨_, rfl⟩
    have e1 : (20 + (n5 : Int)).tdiv 4 = o := by rw [Int.tdiv_eq_ediv_of_nonneg (by omega)]; omega
    have e2 : wrap64 o = o := by unfold wrap64; omega
    have e0 : wrap64 (20 + (n5 : Int)) = 20 + (n5 : Int) := by unfold wrap64; omega
    have e3 : o % 256 = o := by omega
    have hd5 : ¬ (65000 : Int) < (d.size : Int) := by have := HD.out; omega
    have HOO := Lib.hid ho
    have HU : Hid (HdOk { h with off := o, sum := 0 }) := Lib.hid ⟨OK.out.src, OK.out.dst, OK.out.seq, OK.out.ack, by show 0 ≤ o ∧ o ≤ 255; omega, OK.out.ace, OK.out.fl, OK.out.win, by show (0 : Int) ≤ 0 ∧ (0 : Int) ≤ 65535; omega, OK.out.urg⟩
    have hm : ∃ m : Nat, 20 + n5 + d.size = m := ⟨_, rfl⟩
    obtain ⟨m, hm⟩ := hm
    have HM := Lib.hid hm
    have hE : ¬ (65000 < (sb d).length) := by rw [sb_len]; have := HD.out; omega
    have hoff : ∀ z : Int, offG h (padO (allO os)).length z = { h with off := o, sum := z } := fun z => by rw [hl5]; unfold offG; rw [ho]
    have HE1 : Hid (¬ (7 < h.ace ∨ 63 < h.fl) → encG x h os (sb d) = (segB { h with off := o, sum := ckS (pseG x m ++ segB { h with off := o, sum := 0 } (padO (allO os)) (sb d)) } (padO (allO os)) (sb d), 0)) := Lib.hid (fun h7 => by
      unfold encG
      rw [if_neg (by simp [HCK.out]), if_neg hE, if_neg h7, hoff, hoff, hl5, sb_len, hm])
    have HE2 : Hid ((7 < h.ace ∨ 63 < h.fl) → encG x h os (sb d) = ([], 2)) := Lib.hid (fun h7 => by
      unfold encG
      rw [if_neg (by simp [HCK.out]), if_neg hE, if_pos h7])
    clear hm hE hoff ho h40 h4 hl5
    have c0 := K2.cell 0 rfl
    have c1 := K2.cell 1 rfl
    have c2 := K2.cell 2 rfl
    have c3 := K2.cell 3 rfl
    have c4 := K2.cell 4 rfl
    have c5 := K2.cell 5 rfl
    have c6 := K2.cell 6 rfl
    have c7 := K2.cell 7 rfl
    have c8 := K2.cell 8 rfl
    have c9 := K2.cell 9 rfl
    go_upto_region 9 with (fail)
    clear c0 c1 c2 c3 c4 c5 c6 c7 c8 c9 e0 e1 e2 e3 hd5 cD
    have BH := Blk.new w2 [.int .u16 h.src, .int .u16 h.dst, .int .u32 h.seq, .int .u32 h.ack, .int .u8 o, .int .u8 h.ace, .int .u8 h.fl, .int .u16 h.win, .int .u16 0, .int .u16 h.urg] 27
    have R3 := new_alloc (new_refl w2) (.cells #[.int .u16 h.src, .int .u16 h.dst, .int .u32 h.seq, .int .u32 h.ack, .int .u8 o, .int .u8 h.ace, .int .u8 h.fl, .int .u16 h.win, .int .u16 0, .int .u16 h.urg] 27)
    generalize w2.alloc (.cells #[.int .u16 h.src, .int .u16 h.dst, .int .u32 h.seq, .int .u32 h.ack, .int .u8 o, .int .u8 h.ace, .int .u8 h.fl, .int .u16 h.win, .int .u16 0, .int .u16 h.urg] 27) = W3 at BH R3 ⊢
    have b0 := BH.cell 0 rfl
    have b1 := BH.cell 1 rfl
    have b2 := BH.cell 2 rfl
    have b3 := BH.cell 3 rfl
    have b4 := BH.cell 4 rfl
    have b5 := BH.cell 5 rfl
    have b6 := BH.cell 6 rfl
    have b7 := BH.cell 7 rfl
    have b8 := BH.cell 8 rfl
    have b9 := BH.cell 9 rfl
    have cD := (K2.kept R3).cell 11 rfl
    by_cases h7 : 7 < h.ace ∨ 63 < h.fl
    · have HE := Lib.hid (HE2.out h7)
      have hf : Hid (¬ fitF { h with off := o, sum := 0 }) := Lib.hid (fun hf => by have h3 : h.ace ≤ 7 := hf.2.2.1; have h4 : h.fl ≤ 63 := hf.2.2.2; omega)
      clear h7
      go_wp2_with (first
        | (go_at_call 20; refine (join_no { h with off := o, sum := 0 } HU.out A5 n5 k5 d _ hf.out).mono ?_; rintro e w4 ⟨rfl, B4⟩))
      go_ret2
      exact encS_err (by rw [HOS.out]; exact HE.out) (new_then L2 (new_then R3 B4))
    · have HE := Lib.hid (HE1.out h7)
      have hf : Hid (fitF { h with off := o, sum := 0 }) := Lib.hid ⟨by show 5 ≤ o; have := HOO.out; omega, by show o ≤ 15; have := HOO.out; have := H40.out; omega, by show h.ace ≤ 7; omega, by show h.fl ≤ 63; omega⟩
      clear h7
      go_upto_region 12 with (first
        | (go_at_call 20; refine (join_yes { h with off := o, sum := 0 } HU.out A5 n5 k5 m (padO (allO os)) d _ hf.out (HO.out.kept R3) (Nat.le_trans H40.out (by decide)) HD.out HM.out).mono ?_; rintro e w4 ⟨g4, k4, rfl, O4, B4⟩))
      clear b0 b1 b2 b3 b4 b5 b6 b7 b8 b9 cD
      have R4 := new_then R3 B4
      replace O4 := O4.mono R3.size
      have BH4 := BH.kept B4
      have a0 := (K0.kept R4).cell 0 rfl
      have a1 := (K0.kept R4).cell 1 rfl
      have a2 := (K0.kept R4).cell 2 rfl
      have a3 := (K0.kept R4).cell 3 rfl
      have a4 := (K1.kept R4).cell 0 rfl
      have a5 := (K1.kept R4).cell 1 rfl
      have a6 := (K1.kept R4).cell 2 rfl
      have a7 := (K1.kept R4).cell 3 rfl
      have hby : Hid (bytS (segB { h with off := o, sum := 0 } (padO (allO os)) (sb d))) := Lib.hid (byt_app (hdF_byt HU.out hf.out) (byt_app (bytP HCK.out) (bytD d)))
      have hsl : Hid ((segB { h with off := o, sum := 0 } (padO (allO os)) (sb d)).length = m) := Lib.hid (own_len O4)
      have hsm : Hid (m ≤ 100000) := Lib.hid (by have := HM.out; have := H40.out; have := HD.out; omega)
      have hsn : Hid (m ≤ 1000000) := Lib.hid (by have := hsm.out; omega)
      have P4 := Lib.hid (own_ls O4)
      obtain ⟨C, hC⟩ : ∃ C, ckS (pseG x m ++ segB { h with off := o, sum := 0 } (padO (allO os)) (sb d)) = C := ⟨_, rfl⟩
      have HC := Lib.hid hC
      clear hC O4 R3 BH B4
      go_upto_region 13 with (first
        | (go_at_call 22; refine (ahead_any x (some ⟨g4, 0, none⟩) m k4 _ hsn.out).mono ?_; rintro e w5 ⟨g5, q5, rfl, O5, B5⟩; have BH5 := BH4.kept B5; have f8 := BH5.frozen 8; have b8 := BH5.cell 8 rfl; have l8 := BH5.lt)
        | (go_at_call 21; refine (sum_seg x m k4 q5 g4 g5 _ C w5 _ _ rfl HC.out (P4.out.kept B5) hsl.out hby.out (own_ls O5) HXA.out hsm.out).mono ?_; rintro e w6 ⟨rfl, rfl⟩))
      clear a0 a1 a2 a3 a4 a5 a6 a7 f8 b8
      have BH6 := (BH5.set 8 (.int .u16 C)).alloc (.cells #[.slice (some ⟨g5, 0, none⟩) 12 q5, .slice (some ⟨g4, 0, none⟩) m k4] 32)
      have R6 := new_alloc (new_set (p := ⟨w2.heap.size, 8, none⟩) (new_then R4 B5) (Nat.le_refl _) (.int .u16 C)) (.cells #[.slice (some ⟨g5, 0, none⟩) 12 q5, .slice (some ⟨g4, 0, none⟩) m k4] 32)
      generalize (w5.setCell ⟨w2.heap.size, 8, none⟩ (.int .u16 C)).alloc (.cells #[.slice (some ⟨g5, 0, none⟩) 12 q5, .slice (some ⟨g4, 0, none⟩) m k4] 32) = W6 at BH6 R6 ⊢
      clear B5 BH5 BH4 O5 P4 l8 R4
      have b0 := BH6.cell 0 rfl
      have b1 := BH6.cell 1 rfl
      have b2 := BH6.cell 2 rfl
      have b3 := BH6.cell 3 rfl
      have b4 := BH6.cell 4 rfl
      have b5 := BH6.cell 5 rfl
      have b6 := BH6.cell 6 rfl
      have b7 := BH6.cell 7 rfl
      have b8 := BH6.cell 8 rfl
      have b9 := BH6.cell 9 rfl
      have cD := (K2.kept R6).cell 11 rfl
      have hcb : 0 ≤ C ∧ C ≤ 65535 := by rw [← HC.out]; exact sum_bd (byt_app (pseG_byt HXA.out m) hby.out)
      have HU2 : Hid (HdOk { h with off := o, sum := C }) := Lib.hid ⟨HU.out.src, HU.out.dst, HU.out.seq, HU.out.ack, HU.out.off, HU.out.ace, HU.out.fl, HU.out.win, hcb, HU.out.urg⟩
      have hf2 : Hid (fitF { h with off := o, sum := C }) := Lib.hid hf.out
      clear hcb
      go_wp2_with (first
        | (go_at_call 20; refine (join_yes { h with off := o, sum := C } HU2.out A5 n5 k5 m (padO (allO os)) d _ hf2.out (HO.out.kept R6) (Nat.le_trans H40.out (by decide)) HD.out HM.out).mono ?_; rintro e w7 ⟨g7, k7, rfl, O7, B7⟩))
      go_ret2
      rw [HOS.out, HE.out, HC.out]
      exact ⟨_, m, k7, rfl, O7.mono (Nat.le_trans L2.size R6.size), new_then L2 (new_then R6 B7)⟩
  · have hp := PR.out
    unfold PrnTo at hp
    have hpr : prO os = [] := by rw [prO, if_neg hck]
    rw [hpr] at hp
    have hE : encG x h os (sb d) = ([], chkO [] os 0) := by unfold encG; rw [if_pos hck]
    have HP := Lib.hid hp
    clear hp PR hpr
    have hck' : (chkO [] os 0 == 0) = false := by simp [hck]
    generalize chkO [] os 0 = q at *
    have HE := Lib.hid hE
    clear hE hck
    go_wp2_with (first
      | (go_at_call 19; refine HP.out.mono ?_; rintro e w2 ⟨A5, n5, k5, rfl, O2, B2⟩))
    go_ret2
    exact encS_err (by rw [HOS.out]; exact HE.out) (new_then L0 B2)
end Go.Proofs.Ytnkcnfkonifmhaa
