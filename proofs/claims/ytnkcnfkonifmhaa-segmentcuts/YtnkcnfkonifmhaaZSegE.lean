/- The document's Decode of layer 13. -/
import Derived.Test.YtnkcnfkonifmhaaZSegD
import Derived.Test.YtnkcnfkonifmhaaZOptU
namespace Go.Proofs.Ytnkcnfkonifmhaa
open Go.RowKit
set_option linter.unusedVariables false

theorem ls_src {w : World} {g L c : Nat} {A : Option Addr} {zs : List Int} (h : LsK .u8 w g A zs) (hL : zs.length = L) (h0 : 0 < L) : Src .u8 w A L c zs := by
  rcases h with rfl | ⟨off, rfl, h⟩
  · simp at hL; omega
  · refine ⟨hL.symm, .inr ⟨_, rfl, fun j hj => ?_⟩⟩
    have := h j hj
    unfold Addr.add
    split
    · simp_all
    · simpa using this
theorem add_some {g off k : Nat} {c : Nat} {A AD : Option Addr} (hA : A = some ⟨g, off, none⟩) (h : (if c = k then A else Option.map (fun x => x.add k) A) = AD) : ∃ o, AD = some ⟨g, o, none⟩ := by
  subst hA
  rw [← h]
  split
  · exact ⟨off, rfl⟩
  · unfold Addr.add
    by_cases hk : k = 0
    · exact ⟨off, by simp [hk]⟩
    · exact ⟨off + k, by simp [hk]⟩
set_option maxRecDepth 100000 in
set_option maxHeartbeats 4000000 in
theorem refDecS_short (x : Ad) (A : Option Addr) (L c : Nat) (w : World) (hL : L < 20) :
    Calls Try.prog 14 #[.agg #[.int .u8 x.a, .int .u8 x.b, .int .u8 x.c, .int .u8 x.d], .agg #[.int .u8 x.e, .int .u8 x.f, .int .u8 x.g, .int .u8 x.h], .slice A L c] w (DecS w ((zeroH, [], []), 3)) := by
  have HL := Lib.hid hL
  clear hL
  have A0 := ((At.new w [.int .u8 x.a, .int .u8 x.b, .int .u8 x.c, .int .u8 x.d] 22).alloc (.cells #[.int .u8 x.e, .int .u8 x.f, .int .u8 x.g, .int .u8 x.h] 22)).alloc (.cells #[.int .u16 0, .int .u16 0, .int .u32 0, .int .u32 0, .int .u8 0, .int .u8 0, .int .u8 0, .int .u16 0, .int .u16 0, .int .u16 0, .slice none 0 0, .string ⟨#[]⟩] 30)
  have A1 := (At.newAt (alloc_size w (.cells #[.int .u8 x.a, .int .u8 x.b, .int .u8 x.c, .int .u8 x.d] 22)) [.int .u8 x.e, .int .u8 x.f, .int .u8 x.g, .int .u8 x.h] 22).alloc (.cells #[.int .u16 0, .int .u16 0, .int .u32 0, .int .u32 0, .int .u8 0, .int .u8 0, .int .u8 0, .int .u16 0, .int .u16 0, .int .u16 0, .slice none 0 0, .string ⟨#[]⟩] 30)
  have hs2 : ((w.alloc (.cells #[.int .u8 x.a, .int .u8 x.b, .int .u8 x.c, .int .u8 x.d] 22)).alloc (.cells #[.int .u8 x.e, .int .u8 x.f, .int .u8 x.g, .int .u8 x.h] 22)).heap.size = w.heap.size + 1 + 1 := by rw [alloc_size, alloc_size]
  have BR := Blk.newAt hs2 [.int .u16 0, .int .u16 0, .int .u32 0, .int .u32 0, .int .u8 0, .int .u8 0, .int .u8 0, .int .u16 0, .int .u16 0, .int .u16 0, .slice none 0 0, .string ⟨#[]⟩] 30
  have L0 := new_alloc (new_alloc (new_alloc (new_refl w) (.cells #[.int .u8 x.a, .int .u8 x.b, .int .u8 x.c, .int .u8 x.d] 22)) (.cells #[.int .u8 x.e, .int .u8 x.f, .int .u8 x.g, .int .u8 x.h] 22)) (.cells #[.int .u16 0, .int .u16 0, .int .u32 0, .int .u32 0, .int .u8 0, .int .u8 0, .int .u8 0, .int .u16 0, .int .u16 0, .int .u16 0, .slice none 0 0, .string ⟨#[]⟩] 30)
  clear hs2
  have hbl := Lib.hid BR
  go_enter Try.func14, Try.ntmps14
  go_upto_region 1 with (fail)
  generalize ((w.alloc (.cells #[.int .u8 x.a, .int .u8 x.b, .int .u8 x.c, .int .u8 x.d] 22)).alloc (.cells #[.int .u8 x.e, .int .u8 x.f, .int .u8 x.g, .int .u8 x.h] 22)).alloc (.cells #[.int .u16 0, .int .u16 0, .int .u32 0, .int .u32 0, .int .u8 0, .int .u8 0, .int .u8 0, .int .u16 0, .int .u16 0, .int .u16 0, .slice none 0 0, .string ⟨#[]⟩] 30) = W at A0 A1 BR hbl L0 ⊢

  go_upto_region 2 with (first
    | (go_at_call 32; refine (refDecode_short A L c _ HL.out).mono ?_; rintro e w2 ⟨rfl, B2⟩; replace BR := BR.kept B2))
  have R2 := new_then L0 B2
  have R3 := new_alloc R2 (.cells #[.int .u16 zeroH.src, .int .u16 zeroH.dst, .int .u32 zeroH.seq, .int .u32 zeroH.ack, .int .u8 zeroH.off, .int .u8 zeroH.ace, .int .u8 zeroH.fl, .int .u16 zeroH.win, .int .u16 zeroH.sum, .int .u16 zeroH.urg] 27)
  replace BR := BR.alloc (.cells #[.int .u16 zeroH.src, .int .u16 zeroH.dst, .int .u32 zeroH.seq, .int .u32 zeroH.ack, .int .u8 zeroH.off, .int .u8 zeroH.ace, .int .u8 zeroH.fl, .int .u16 zeroH.win, .int .u16 zeroH.sum, .int .u16 zeroH.urg] 27)
  generalize w2.alloc (.cells #[.int .u16 zeroH.src, .int .u16 zeroH.dst, .int .u32 zeroH.seq, .int .u32 zeroH.ack, .int .u8 zeroH.off, .int .u8 zeroH.ace, .int .u8 zeroH.fl, .int .u16 zeroH.win, .int .u16 zeroH.sum, .int .u16 zeroH.urg] 27) = W3 at BR R3 ⊢
  have r0 := BR.cell 0 rfl
  have r1 := BR.cell 1 rfl
  have r2 := BR.cell 2 rfl
  have r3 := BR.cell 3 rfl
  have r4 := BR.cell 4 rfl
  have r5 := BR.cell 5 rfl
  have r6 := BR.cell 6 rfl
  have r7 := BR.cell 7 rfl
  have r8 := BR.cell 8 rfl
  have r9 := BR.cell 9 rfl
  have r10 := BR.cell 10 rfl
  have r11 := BR.cell 11 rfl
  have rf := fun i => BR.frozen i

  go_wp2_with fail
  clear r0 r1 r2 r3 r4 r5 r6 r7 r8 r9 r10 r11 rf
  have BZ := blk12 BR (.int .u16 0) (.int .u16 0) (.int .u32 0) (.int .u32 0) (.int .u8 0) (.int .u8 0) (.int .u8 0) (.int .u16 0) (.int .u16 0) (.int .u16 0) (.slice none 0 0) (.string ⟨#[]⟩)
  have LZ := low12 (R3) (show w.heap.size ≤ w.heap.size + 1 + 1 by omega) (.int .u16 0) (.int .u16 0) (.int .u32 0) (.int .u32 0) (.int .u8 0) (.int .u8 0) (.int .u8 0) (.int .u16 0) (.int .u16 0) (.int .u16 0) (.slice none 0 0) (.string ⟨#[]⟩)
  generalize ((((((((((((W3.setCell ⟨w.heap.size + 1 + 1, 0, none⟩ (.int .u16 0)).setCell ⟨w.heap.size + 1 + 1, 1, none⟩ (.int .u16 0)).setCell ⟨w.heap.size + 1 + 1, 2, none⟩ (.int .u32 0)).setCell ⟨w.heap.size + 1 + 1, 3, none⟩ (.int .u32 0)).setCell ⟨w.heap.size + 1 + 1, 4, none⟩ (.int .u8 0)).setCell ⟨w.heap.size + 1 + 1, 5, none⟩ (.int .u8 0)).setCell ⟨w.heap.size + 1 + 1, 6, none⟩ (.int .u8 0)).setCell ⟨w.heap.size + 1 + 1, 7, none⟩ (.int .u16 0)).setCell ⟨w.heap.size + 1 + 1, 8, none⟩ (.int .u16 0)).setCell ⟨w.heap.size + 1 + 1, 9, none⟩ (.int .u16 0)).setCell ⟨w.heap.size + 1 + 1, 10, none⟩ (.slice none 0 0)).setCell ⟨w.heap.size + 1 + 1, 11, none⟩ (.string ⟨#[]⟩)) = WZ at BZ LZ ⊢
  have r0 := BZ.cell 0 rfl
  have r1 := BZ.cell 1 rfl
  have r2 := BZ.cell 2 rfl
  have r3 := BZ.cell 3 rfl
  have r4 := BZ.cell 4 rfl
  have r5 := BZ.cell 5 rfl
  have r6 := BZ.cell 6 rfl
  have r7 := BZ.cell 7 rfl
  have r8 := BZ.cell 8 rfl
  have r9 := BZ.cell 9 rfl
  have r10 := BZ.cell 10 rfl
  have r11 := BZ.cell 11 rfl
  exact bodyPost_ret (v := .tuple #[.agg #[.int .u16 0, .int .u16 0, .int .u32 0, .int .u32 0, .int .u8 0, .int .u8 0, .int .u8 0, .int .u16 0, .int .u16 0, .int .u16 0, .slice none 0 0, .string ⟨#[]⟩], .int .i64 3]) (by simp [results, Try.results14, go_sem, r0, r1, r2, r3, r4, r5, r6, r7, r8, r9, r10, r11]) rfl (decS_err rfl LZ)
set_option maxRecDepth 100000 in
set_option maxHeartbeats 4000000 in
theorem refDecS_not (x : Ad) (g off L c : Nat) (bs : List Int) (w : World) (h : LsK .u8 w g (some ⟨g, off, none⟩) bs) (hL : bs.length = L) (hb : bytS bs) (hL1 : 20 ≤ L) (hL2 : L ≤ 1000) (hn : ¬ isF bs) :
    Calls Try.prog 14 #[.agg #[.int .u8 x.a, .int .u8 x.b, .int .u8 x.c, .int .u8 x.d], .agg #[.int .u8 x.e, .int .u8 x.f, .int .u8 x.g, .int .u8 x.h], .slice (some ⟨g, off, none⟩) L c] w (DecS w ((zeroH, [], []), 5)) := by
  have HD := Lib.hid (fun w' (B : Below w.heap.size w w') => refDecode_not g off L c bs w' (h.kept B) hL hb hL1 (by omega) hn)
  clear hL h hb hL1 hL2 hn
  have A0 := ((At.new w [.int .u8 x.a, .int .u8 x.b, .int .u8 x.c, .int .u8 x.d] 22).alloc (.cells #[.int .u8 x.e, .int .u8 x.f, .int .u8 x.g, .int .u8 x.h] 22)).alloc (.cells #[.int .u16 0, .int .u16 0, .int .u32 0, .int .u32 0, .int .u8 0, .int .u8 0, .int .u8 0, .int .u16 0, .int .u16 0, .int .u16 0, .slice none 0 0, .string ⟨#[]⟩] 30)
  have A1 := (At.newAt (alloc_size w (.cells #[.int .u8 x.a, .int .u8 x.b, .int .u8 x.c, .int .u8 x.d] 22)) [.int .u8 x.e, .int .u8 x.f, .int .u8 x.g, .int .u8 x.h] 22).alloc (.cells #[.int .u16 0, .int .u16 0, .int .u32 0, .int .u32 0, .int .u8 0, .int .u8 0, .int .u8 0, .int .u16 0, .int .u16 0, .int .u16 0, .slice none 0 0, .string ⟨#[]⟩] 30)
  have hs2 : ((w.alloc (.cells #[.int .u8 x.a, .int .u8 x.b, .int .u8 x.c, .int .u8 x.d] 22)).alloc (.cells #[.int .u8 x.e, .int .u8 x.f, .int .u8 x.g, .int .u8 x.h] 22)).heap.size = w.heap.size + 1 + 1 := by rw [alloc_size, alloc_size]
  have BR := Blk.newAt hs2 [.int .u16 0, .int .u16 0, .int .u32 0, .int .u32 0, .int .u8 0, .int .u8 0, .int .u8 0, .int .u16 0, .int .u16 0, .int .u16 0, .slice none 0 0, .string ⟨#[]⟩] 30
  have L0 := new_alloc (new_alloc (new_alloc (new_refl w) (.cells #[.int .u8 x.a, .int .u8 x.b, .int .u8 x.c, .int .u8 x.d] 22)) (.cells #[.int .u8 x.e, .int .u8 x.f, .int .u8 x.g, .int .u8 x.h] 22)) (.cells #[.int .u16 0, .int .u16 0, .int .u32 0, .int .u32 0, .int .u8 0, .int .u8 0, .int .u8 0, .int .u16 0, .int .u16 0, .int .u16 0, .slice none 0 0, .string ⟨#[]⟩] 30)
  clear hs2
  have hbl := Lib.hid BR
  go_enter Try.func14, Try.ntmps14
  go_upto_region 1 with (fail)
  generalize ((w.alloc (.cells #[.int .u8 x.a, .int .u8 x.b, .int .u8 x.c, .int .u8 x.d] 22)).alloc (.cells #[.int .u8 x.e, .int .u8 x.f, .int .u8 x.g, .int .u8 x.h] 22)).alloc (.cells #[.int .u16 0, .int .u16 0, .int .u32 0, .int .u32 0, .int .u8 0, .int .u8 0, .int .u8 0, .int .u16 0, .int .u16 0, .int .u16 0, .slice none 0 0, .string ⟨#[]⟩] 30) = W at A0 A1 BR hbl L0 ⊢

  go_upto_region 2 with (first
    | (go_at_call 32; refine (HD.out _ L0).mono ?_; rintro e w2 ⟨rfl, B2⟩; replace BR := BR.kept B2))
  have R2 := new_then L0 B2
  have R3 := new_alloc R2 (.cells #[.int .u16 zeroH.src, .int .u16 zeroH.dst, .int .u32 zeroH.seq, .int .u32 zeroH.ack, .int .u8 zeroH.off, .int .u8 zeroH.ace, .int .u8 zeroH.fl, .int .u16 zeroH.win, .int .u16 zeroH.sum, .int .u16 zeroH.urg] 27)
  replace BR := BR.alloc (.cells #[.int .u16 zeroH.src, .int .u16 zeroH.dst, .int .u32 zeroH.seq, .int .u32 zeroH.ack, .int .u8 zeroH.off, .int .u8 zeroH.ace, .int .u8 zeroH.fl, .int .u16 zeroH.win, .int .u16 zeroH.sum, .int .u16 zeroH.urg] 27)
  generalize w2.alloc (.cells #[.int .u16 zeroH.src, .int .u16 zeroH.dst, .int .u32 zeroH.seq, .int .u32 zeroH.ack, .int .u8 zeroH.off, .int .u8 zeroH.ace, .int .u8 zeroH.fl, .int .u16 zeroH.win, .int .u16 zeroH.sum, .int .u16 zeroH.urg] 27) = W3 at BR R3 ⊢
  have r0 := BR.cell 0 rfl
  have r1 := BR.cell 1 rfl
  have r2 := BR.cell 2 rfl
  have r3 := BR.cell 3 rfl
  have r4 := BR.cell 4 rfl
  have r5 := BR.cell 5 rfl
  have r6 := BR.cell 6 rfl
  have r7 := BR.cell 7 rfl
  have r8 := BR.cell 8 rfl
  have r9 := BR.cell 9 rfl
  have r10 := BR.cell 10 rfl
  have r11 := BR.cell 11 rfl
  have rf := fun i => BR.frozen i

  go_wp2_with fail
  clear r0 r1 r2 r3 r4 r5 r6 r7 r8 r9 r10 r11 rf
  have BZ := blk12 BR (.int .u16 0) (.int .u16 0) (.int .u32 0) (.int .u32 0) (.int .u8 0) (.int .u8 0) (.int .u8 0) (.int .u16 0) (.int .u16 0) (.int .u16 0) (.slice none 0 0) (.string ⟨#[]⟩)
  have LZ := low12 (R3) (show w.heap.size ≤ w.heap.size + 1 + 1 by omega) (.int .u16 0) (.int .u16 0) (.int .u32 0) (.int .u32 0) (.int .u8 0) (.int .u8 0) (.int .u8 0) (.int .u16 0) (.int .u16 0) (.int .u16 0) (.slice none 0 0) (.string ⟨#[]⟩)
  generalize ((((((((((((W3.setCell ⟨w.heap.size + 1 + 1, 0, none⟩ (.int .u16 0)).setCell ⟨w.heap.size + 1 + 1, 1, none⟩ (.int .u16 0)).setCell ⟨w.heap.size + 1 + 1, 2, none⟩ (.int .u32 0)).setCell ⟨w.heap.size + 1 + 1, 3, none⟩ (.int .u32 0)).setCell ⟨w.heap.size + 1 + 1, 4, none⟩ (.int .u8 0)).setCell ⟨w.heap.size + 1 + 1, 5, none⟩ (.int .u8 0)).setCell ⟨w.heap.size + 1 + 1, 6, none⟩ (.int .u8 0)).setCell ⟨w.heap.size + 1 + 1, 7, none⟩ (.int .u16 0)).setCell ⟨w.heap.size + 1 + 1, 8, none⟩ (.int .u16 0)).setCell ⟨w.heap.size + 1 + 1, 9, none⟩ (.int .u16 0)).setCell ⟨w.heap.size + 1 + 1, 10, none⟩ (.slice none 0 0)).setCell ⟨w.heap.size + 1 + 1, 11, none⟩ (.string ⟨#[]⟩)) = WZ at BZ LZ ⊢
  have r0 := BZ.cell 0 rfl
  have r1 := BZ.cell 1 rfl
  have r2 := BZ.cell 2 rfl
  have r3 := BZ.cell 3 rfl
  have r4 := BZ.cell 4 rfl
  have r5 := BZ.cell 5 rfl
  have r6 := BZ.cell 6 rfl
  have r7 := BZ.cell 7 rfl
  have r8 := BZ.cell 8 rfl
  have r9 := BZ.cell 9 rfl
  have r10 := BZ.cell 10 rfl
  have r11 := BZ.cell 11 rfl
  exact bodyPost_ret (v := .tuple #[.agg #[.int .u16 0, .int .u16 0, .int .u32 0, .int .u32 0, .int .u8 0, .int .u8 0, .int .u8 0, .int .u16 0, .int .u16 0, .int .u16 0, .slice none 0 0, .string ⟨#[]⟩], .int .i64 5]) (by simp [results, Try.results14, go_sem, r0, r1, r2, r3, r4, r5, r6, r7, r8, r9, r10, r11]) rfl (decS_err rfl LZ)

set_option maxRecDepth 100000 in
set_option maxHeartbeats 8000000 in
theorem refDecS_yes (x : Ad) (hx : x.ok) (A : Option Addr) (g off L c : Nat) (bs : List Int) (w : World) (hA : A = some ⟨g, off, none⟩) (h : LsK .u8 w g (some ⟨g, off, none⟩) bs) (hL : bs.length = L) (hb : bytS bs) (hL1 : 20 ≤ L) (hL2 : L ≤ 1000) (hc : L ≤ c) (hc2 : c ≤ 9223372036854775807) (hn : isF bs) :
    Calls Try.prog 14 #[.agg #[.int .u8 x.a, .int .u8 x.b, .int .u8 x.c, .int .u8 x.d], .agg #[.int .u8 x.e, .int .u8 x.f, .int .u8 x.g, .int .u8 x.h], .slice A L c] w (DecS w (decG x bs)) := by
  obtain ⟨hd, hhd⟩ : ∃ hd, decF bs = hd := ⟨_, rfl⟩
  have hoff : hd.off = bF bs 12 / 16 := by rw [← hhd]; rfl
  have hob := bF_bd hb hL (i := 12) (by omega)
  obtain ⟨kb, hkb⟩ : ∃ kb : Nat, 4 * (bF bs 12 / 16) = (kb : Int) := ⟨(4 * (bF bs 12 / 16)).toNat, by omega⟩
  have hn1 := hn.1
  have o0 : 0 ≤ hd.off := by omega
  have o1 : hd.off ≤ 15 := by omega
  have e1 : 4 * hd.off = (kb : Int) := by rw [hoff]; exact hkb
  have hk1 : 20 ≤ kb := by omega
  have hk2 : kb ≤ 60 := by omega
  have hDY : ∀ w' (B : Below w.heap.size w w'), Calls Try.prog 32 #[.slice A L c] w' (DecTo w' hd 0) := fun w' B => by rw [← hhd, hA]; exact refDecode_yes g off L c bs w' (h.kept B) hL hb hL1 (by omega) hc hn
  have HD := Lib.hid hDY
  have HE : Hid (decG x bs = if (L : Int) < (kb : Int) then ((zeroH, [], []), 3) else if ckS (pseG x L ++ bs) ≠ 0 then ((zeroH, [], []), 6) else if (parA ((bs.drop 20).take (kb - 20))).2 ≠ 0 then ((zeroH, [], []), (parA ((bs.drop 20).take (kb - 20))).2) else ((hd, (parA ((bs.drop 20).take (kb - 20))).1, bs.drop kb), 0)) := Lib.hid (by
    unfold decG
    rw [if_neg (by omega), if_neg (by have := hn.2; omega), hkb, hL, if_neg (show ¬ 65535 < L by omega), hhd, show ((kb : Int)).toNat = kb by omega])
  have HLS : Hid (LsK .u8 w g A bs) := Lib.hid (by rw [hA]; exact h)
  have HA := Lib.hid hA
  have HB := Lib.hid hb
  have HL := Lib.hid hL
  have HL2 := Lib.hid hL2
  have HL1 := Lib.hid hL1
  have HC := Lib.hid hc
  have HC2 := Lib.hid hc2
  have HX := Lib.hid hx
  have l2 : ¬ (65535 : Int) < (L : Int) := by omega
  clear hhd hoff hob hkb hn1 hDY h hb hL hc hc2 hx hn hL1 hL2 hA
  have A0 := ((At.new w [.int .u8 x.a, .int .u8 x.b, .int .u8 x.c, .int .u8 x.d] 22).alloc (.cells #[.int .u8 x.e, .int .u8 x.f, .int .u8 x.g, .int .u8 x.h] 22)).alloc (.cells #[.int .u16 0, .int .u16 0, .int .u32 0, .int .u32 0, .int .u8 0, .int .u8 0, .int .u8 0, .int .u16 0, .int .u16 0, .int .u16 0, .slice none 0 0, .string ⟨#[]⟩] 30)
  have A1 := (At.newAt (alloc_size w (.cells #[.int .u8 x.a, .int .u8 x.b, .int .u8 x.c, .int .u8 x.d] 22)) [.int .u8 x.e, .int .u8 x.f, .int .u8 x.g, .int .u8 x.h] 22).alloc (.cells #[.int .u16 0, .int .u16 0, .int .u32 0, .int .u32 0, .int .u8 0, .int .u8 0, .int .u8 0, .int .u16 0, .int .u16 0, .int .u16 0, .slice none 0 0, .string ⟨#[]⟩] 30)
  have hs2 : ((w.alloc (.cells #[.int .u8 x.a, .int .u8 x.b, .int .u8 x.c, .int .u8 x.d] 22)).alloc (.cells #[.int .u8 x.e, .int .u8 x.f, .int .u8 x.g, .int .u8 x.h] 22)).heap.size = w.heap.size + 1 + 1 := by rw [alloc_size, alloc_size]
  have BR := Blk.newAt hs2 [.int .u16 0, .int .u16 0, .int .u32 0, .int .u32 0, .int .u8 0, .int .u8 0, .int .u8 0, .int .u16 0, .int .u16 0, .int .u16 0, .slice none 0 0, .string ⟨#[]⟩] 30
  have L0 := new_alloc (new_alloc (new_alloc (new_refl w) (.cells #[.int .u8 x.a, .int .u8 x.b, .int .u8 x.c, .int .u8 x.d] 22)) (.cells #[.int .u8 x.e, .int .u8 x.f, .int .u8 x.g, .int .u8 x.h] 22)) (.cells #[.int .u16 0, .int .u16 0, .int .u32 0, .int .u32 0, .int .u8 0, .int .u8 0, .int .u8 0, .int .u16 0, .int .u16 0, .int .u16 0, .slice none 0 0, .string ⟨#[]⟩] 30)
  clear hs2
  have hbl := Lib.hid BR
  go_enter Try.func14, Try.ntmps14
  go_upto_region 1 with (fail)
  generalize ((w.alloc (.cells #[.int .u8 x.a, .int .u8 x.b, .int .u8 x.c, .int .u8 x.d] 22)).alloc (.cells #[.int .u8 x.e, .int .u8 x.f, .int .u8 x.g, .int .u8 x.h] 22)).alloc (.cells #[.int .u16 0, .int .u16 0, .int .u32 0, .int .u32 0, .int .u8 0, .int .u8 0, .int .u8 0, .int .u16 0, .int .u16 0, .int .u16 0, .slice none 0 0, .string ⟨#[]⟩] 30) = W at A0 A1 BR hbl L0 ⊢

  go_upto_region 2 with (first
    | (go_at_call 32; refine (HD.out _ L0).mono ?_; rintro e w2 ⟨rfl, B2⟩; replace BR := BR.kept B2))
  have R2 := new_then L0 B2
  have R3 := new_alloc R2 (.cells #[.int .u16 hd.src, .int .u16 hd.dst, .int .u32 hd.seq, .int .u32 hd.ack, .int .u8 hd.off, .int .u8 hd.ace, .int .u8 hd.fl, .int .u16 hd.win, .int .u16 hd.sum, .int .u16 hd.urg] 27)
  replace BR := BR.alloc (.cells #[.int .u16 hd.src, .int .u16 hd.dst, .int .u32 hd.seq, .int .u32 hd.ack, .int .u8 hd.off, .int .u8 hd.ace, .int .u8 hd.fl, .int .u16 hd.win, .int .u16 hd.sum, .int .u16 hd.urg] 27)
  replace A0 := (A0.kept B2).alloc (.cells #[.int .u16 hd.src, .int .u16 hd.dst, .int .u32 hd.seq, .int .u32 hd.ack, .int .u8 hd.off, .int .u8 hd.ace, .int .u8 hd.fl, .int .u16 hd.win, .int .u16 hd.sum, .int .u16 hd.urg] 27)
  replace A1 := (A1.kept B2).alloc (.cells #[.int .u16 hd.src, .int .u16 hd.dst, .int .u32 hd.seq, .int .u32 hd.ack, .int .u8 hd.off, .int .u8 hd.ace, .int .u8 hd.fl, .int .u16 hd.win, .int .u16 hd.sum, .int .u16 hd.urg] 27)
  have BH := Blk.new w2 [.int .u16 hd.src, .int .u16 hd.dst, .int .u32 hd.seq, .int .u32 hd.ack, .int .u8 hd.off, .int .u8 hd.ace, .int .u8 hd.fl, .int .u16 hd.win, .int .u16 hd.sum, .int .u16 hd.urg] 27
  have hbr : Hid (¬ w.heap.size + 1 + 1 = w2.heap.size) := Lib.hid (by have := (hbl.out.kept B2).lt; omega)
  generalize w2.alloc (.cells #[.int .u16 hd.src, .int .u16 hd.dst, .int .u32 hd.seq, .int .u32 hd.ack, .int .u8 hd.off, .int .u8 hd.ace, .int .u8 hd.fl, .int .u16 hd.win, .int .u16 hd.sum, .int .u16 hd.urg] 27) = W3 at BR R3 A0 A1 BH ⊢
  clear B2 R2 hbl L0
  have b4 := BH.cell 4 rfl
  by_cases hs : (L : Int) < (kb : Int)
  · have HQ : Hid (decG x bs = ((zeroH, [], []), 3)) := Lib.hid (by rw [HE.out, if_pos hs])
    have r0 := BR.cell 0 rfl
    have r1 := BR.cell 1 rfl
    have r2 := BR.cell 2 rfl
    have r3 := BR.cell 3 rfl
    have r4 := BR.cell 4 rfl
    have r5 := BR.cell 5 rfl
    have r6 := BR.cell 6 rfl
    have r7 := BR.cell 7 rfl
    have r8 := BR.cell 8 rfl
    have r9 := BR.cell 9 rfl
    have r10 := BR.cell 10 rfl
    have r11 := BR.cell 11 rfl
    have rf := fun i => BR.frozen i
  
    go_wp2_with fail
    clear b4
    clear r0 r1 r2 r3 r4 r5 r6 r7 r8 r9 r10 r11 rf
    have BZ := blk12 BR (.int .u16 0) (.int .u16 0) (.int .u32 0) (.int .u32 0) (.int .u8 0) (.int .u8 0) (.int .u8 0) (.int .u16 0) (.int .u16 0) (.int .u16 0) (.slice none 0 0) (.string ⟨#[]⟩)
    have LZ := low12 (R3) (show w.heap.size ≤ w.heap.size + 1 + 1 by omega) (.int .u16 0) (.int .u16 0) (.int .u32 0) (.int .u32 0) (.int .u8 0) (.int .u8 0) (.int .u8 0) (.int .u16 0) (.int .u16 0) (.int .u16 0) (.slice none 0 0) (.string ⟨#[]⟩)
    generalize ((((((((((((W3.setCell ⟨w.heap.size + 1 + 1, 0, none⟩ (.int .u16 0)).setCell ⟨w.heap.size + 1 + 1, 1, none⟩ (.int .u16 0)).setCell ⟨w.heap.size + 1 + 1, 2, none⟩ (.int .u32 0)).setCell ⟨w.heap.size + 1 + 1, 3, none⟩ (.int .u32 0)).setCell ⟨w.heap.size + 1 + 1, 4, none⟩ (.int .u8 0)).setCell ⟨w.heap.size + 1 + 1, 5, none⟩ (.int .u8 0)).setCell ⟨w.heap.size + 1 + 1, 6, none⟩ (.int .u8 0)).setCell ⟨w.heap.size + 1 + 1, 7, none⟩ (.int .u16 0)).setCell ⟨w.heap.size + 1 + 1, 8, none⟩ (.int .u16 0)).setCell ⟨w.heap.size + 1 + 1, 9, none⟩ (.int .u16 0)).setCell ⟨w.heap.size + 1 + 1, 10, none⟩ (.slice none 0 0)).setCell ⟨w.heap.size + 1 + 1, 11, none⟩ (.string ⟨#[]⟩)) = WZ at BZ LZ ⊢
    have r0 := BZ.cell 0 rfl
    have r1 := BZ.cell 1 rfl
    have r2 := BZ.cell 2 rfl
    have r3 := BZ.cell 3 rfl
    have r4 := BZ.cell 4 rfl
    have r5 := BZ.cell 5 rfl
    have r6 := BZ.cell 6 rfl
    have r7 := BZ.cell 7 rfl
    have r8 := BZ.cell 8 rfl
    have r9 := BZ.cell 9 rfl
    have r10 := BZ.cell 10 rfl
    have r11 := BZ.cell 11 rfl
    exact bodyPost_ret (v := .tuple #[.agg #[.int .u16 0, .int .u16 0, .int .u32 0, .int .u32 0, .int .u8 0, .int .u8 0, .int .u8 0, .int .u16 0, .int .u16 0, .int .u16 0, .slice none 0 0, .string ⟨#[]⟩], .int .i64 3]) (by simp [results, Try.results14, go_sem, r0, r1, r2, r3, r4, r5, r6, r7, r8, r9, r10, r11]) rfl (decS_err HQ.out LZ)
  · have a0 := A0.cell 0 rfl
    have a1 := A0.cell 1 rfl
    have a2 := A0.cell 2 rfl
    have a3 := A0.cell 3 rfl
    have a4 := A1.cell 0 rfl
    have a5 := A1.cell 1 rfl
    have a6 := A1.cell 2 rfl
    have a7 := A1.cell 3 rfl
    obtain ⟨np, hnp⟩ : ∃ np, kb - 20 = np := ⟨_, rfl⟩
    obtain ⟨nd, hnd⟩ : ∃ nd, L - kb = nd := ⟨_, rfl⟩
    rw [hnp] at HE
    have hkL : kb ≤ L := by omega
    have HT1 := Lib.hid hk1
    have HT2 := Lib.hid hk2
    have HT3 := Lib.hid hkL
    have HNP := Lib.hid hnp
    have HND := Lib.hid hnd
    have H6 : Hid (-9223372036854775808 ≤ (L : Int) ∧ (L : Int) ≤ 9223372036854775807) := Lib.hid (by have := HL2.out; omega)
    have q3 : Hid ((pseG x L).length + bs.length ≤ 1000000000) := Lib.hid (by rw [pseG_len, HL.out]; have := HL2.out; omega)
    have q4 : Hid ((pseG x L ++ bs).length = 12 + L ∧ 0 < 12 + L) := Lib.hid (by rw [List.length_append, pseG_len, HL.out]; omega)
    have q5 : Hid (12 + L ≤ 100000) := Lib.hid (by have := HL2.out; omega)
    have q6 : Hid (bytS (pseG x L ++ bs)) := Lib.hid (byt_app (pseG_byt HX.out L) HB.out)
    have PS := Lib.hid (ls_src (c := c) (HLS.out.kept R3) HL.out (show 0 < L by have := HL1.out; omega))
    by_cases hv : ckS (pseG x L ++ bs) = 0
    · have hE2 := HE.out
      rw [if_neg hs, if_neg (by simp [hv])] at hE2
      have HE2 := Lib.hid hE2
      have HVD := Lib.hid hv
      clear hE2 hv hnp hnd hkL
      go_upto_region 10 with (first
        | (go_at_call 26; refine (refPseudo_any x.a x.b x.c x.d x.e x.f x.g x.h 6 L _ H6.out).mono ?_; rintro e w5 ⟨g5, p5, rfl, O5, B5⟩)
        | (go_at_call 25; refine (refSum10_any (some ⟨g8, 0, none⟩) (12 + L) k8 g8 _ w8 (own_ls O8) q4.out.1 q6.out q5.out).mono ?_; rw [HVD.out]; rintro e w9 ⟨rfl, rfl⟩)
        | (at_builtin; refine wp_catK elB (by rfl) _ _ (by rfl) W3.heap.size _ (pseG x L) A L c bs (by rfl) (by rfl) (PS.out.kept B5) O5 q3.out B5.size ?_; intro v8 w8 O8 G8 hat8; have S8 := B5.trans (below_push O5 G8 B5.size); obtain ⟨g8, k8, rfl, _, _⟩ := O8.some q4.out.1 q4.out.2))
      clear a0 a1 a2 a3 a4 a5 a6 a7
      have R5 := new_then R3 S8
      replace BR := BR.kept S8
      replace BH := BH.kept S8
      clear O5 B5 S8 A0 A1 R3 O8 G8 hat8 PS b4
      generalize w8 = W5 at R5 BR BH ⊢
      have b4 := BH.cell 4 rfl
      obtain ⟨cp, hcp⟩ : ∃ cp, c - 20 = cp := ⟨_, rfl⟩
      obtain ⟨cd, hcd⟩ : ∃ cd, c - kb = cd := ⟨_, rfl⟩
      obtain ⟨AP, hAP⟩ : ∃ AP, (if c = 20 then A else Option.map (fun x => x.add 20) A) = AP := ⟨_, rfl⟩
      obtain ⟨AD, hAD⟩ : ∃ AD, (if c = kb then A else Option.map (fun x => x.add kb) A) = AD := ⟨_, rfl⟩
      have hAP2 : (if c = 20 then A else Option.map (fun x : Addr => ({ block := x.block, off := x.off + 20 } : Addr)) A) = AP := by rw [← hAP]; simp [Addr.add]
      have hAD2 : (if c = kb then A else Option.map (fun x : Addr => ({ block := x.block, off := x.off + kb } : Addr)) A) = AD := by rw [← hAD]; simp [Addr.add, show ¬ kb = 0 by omega]
      obtain ⟨oD, hoD⟩ := add_some HA.out hAD
      have HOD := Lib.hid hoD
      clear hoD
      have PL := Lib.hid (ls_take (ls_rest (HLS.out.kept R5) HL.out HL1.out HC.out hAP) np)
      have DL := Lib.hid (ls_rest (HLS.out.kept R5) HL.out HT3.out HC.out hAD)
      have hpl : ((bs.drop 20).take np).length = np := by rw [List.length_take, List.length_drop, HL.out]; have := HT3.out; have := HNP.out; omega
      have HDL : Hid ((bs.drop kb).length = nd) := Lib.hid (by rw [List.length_drop, HL.out]; exact HND.out)
      have HPP := Lib.hid (refParse12_far AP g np cp _ W5 PL.out hpl (byt_take (byt_drop HB.out 20) np) (by have := HNP.out; have := HT3.out; have := HC.out; omega) (by have := HNP.out; have := HT2.out; omega))
      have hnp := HNP.out
      have hnd := HND.out
      have k1 : (20 : Int) ≤ (kb : Int) := by have := HT1.out; omega
      have k2 : (kb : Int) ≤ (c : Int) := by have := HT3.out; have := HC.out; omega
      have k3 : (kb : Int) ≤ (L : Int) := by have := HT3.out; omega
      have k4 : (L : Int) ≤ (c : Int) := by have := HC.out; omega
      clear hpl hs
      generalize parA ((bs.drop 20).take np) = T at HPP HE2
      obtain ⟨ms, q⟩ := T
      by_cases hq : q = 0
      · subst hq
        have hE3 := HE2.out
        rw [if_neg (by simp)] at hE3
        have HE3 := Lib.hid hE3
        clear hE3
        go_upto_region 13 with (first
          | (go_at_call 33; refine HPP.out.mono ?_; rintro e w6 ⟨A6, n6, c6, ys, rfl, X6, m6, l6, d6, B6, rw6, f6⟩))
        have R6 := new_then R5 B6
        replace BR := BR.kept B6
        have HTX : (convert 32 9 (.slice AD nd cd)).run Try.prog w6.drew = .ok (.string (strOfNums (bs.drop kb))) w6.drew := by
          have h := (DL.out.kept B6).draw 1
          rw [HOD.out] at h ⊢
          exact text_ls (w := w6.drew) (c := cd) (show LsK .u8 w6.drew g (some ⟨g, oD, none⟩) (bs.drop kb) from h) HDL.out
        have b0 := (BH.kept B6).cell 0 rfl
        have b1 := (BH.kept B6).cell 1 rfl
        have b2 := (BH.kept B6).cell 2 rfl
        have b3 := (BH.kept B6).cell 3 rfl
        have b4 := (BH.kept B6).cell 4 rfl
        have b5 := (BH.kept B6).cell 5 rfl
        have b6 := (BH.kept B6).cell 6 rfl
        have b7 := (BH.kept B6).cell 7 rfl
        have b8 := (BH.kept B6).cell 8 rfl
        have b9 := (BH.kept B6).cell 9 rfl
        have v1 : IntKind.i64.wrap hd.off = hd.off := by rw [IntKind.wrap_i64]; omega
        have v2 : IntKind.i64.wrap (kb : Int) = (kb : Int) := by rw [IntKind.wrap_i64]; omega
        have v3 : (0 : Int) ≤ (kb : Int) := by omega
        go_still_tail 10, (by kernel_rfl)
        clear v1 v2 v3 b0 b1 b2 b3 b4 b5 b6 b7 b8 b9 HTX
        change wpList _ _ _ _ _ w6.drew
        have BD := BR.drew
        have RD := new_drew R6
        have XD := X6.drew 1
        have rD : RowFar w6.drew A6 ys := rw6
        have fD : ∀ y ∈ ys, FarO w6.drew y := f6
        change OptsAt w6.drew A6 n6 ys at XD
        clear BR BH R6 X6 rw6 f6 B6 R5
        generalize w6.drew = W3 at BD RD XD rD fD ⊢
        have r0 := BD.cell 0 rfl
        have r1 := BD.cell 1 rfl
        have r2 := BD.cell 2 rfl
        have r3 := BD.cell 3 rfl
        have r4 := BD.cell 4 rfl
        have r5 := BD.cell 5 rfl
        have r6 := BD.cell 6 rfl
        have r7 := BD.cell 7 rfl
        have r8 := BD.cell 8 rfl
        have r9 := BD.cell 9 rfl
        have r10 := BD.cell 10 rfl
        have r11 := BD.cell 11 rfl
        have rf := fun i => BD.frozen i
      
        go_wp2_with fail
        clear r0 r1 r2 r3 r4 r5 r6 r7 r8 r9 r10 r11 rf
        have BZ := blk12 BD (.int .u16 hd.src) (.int .u16 hd.dst) (.int .u32 hd.seq) (.int .u32 hd.ack) (.int .u8 hd.off) (.int .u8 hd.ace) (.int .u8 hd.fl) (.int .u16 hd.win) (.int .u16 hd.sum) (.int .u16 hd.urg) (.slice A6 n6 c6) (.string (strOfNums (bs.drop kb)))
        have LZ := low12 RD (show w.heap.size ≤ w.heap.size + 1 + 1 by omega) (.int .u16 hd.src) (.int .u16 hd.dst) (.int .u32 hd.seq) (.int .u32 hd.ack) (.int .u8 hd.off) (.int .u8 hd.ace) (.int .u8 hd.fl) (.int .u16 hd.win) (.int .u16 hd.sum) (.int .u16 hd.urg) (.slice A6 n6 c6) (.string (strOfNums (bs.drop kb)))
        have XZ := XD.out rD fD (out12 (g := w.heap.size + 1 + 1) (.int .u16 hd.src) (.int .u16 hd.dst) (.int .u32 hd.seq) (.int .u32 hd.ack) (.int .u8 hd.off) (.int .u8 hd.ace) (.int .u8 hd.fl) (.int .u16 hd.win) (.int .u16 hd.sum) (.int .u16 hd.urg) (.slice A6 n6 c6) (.string (strOfNums (bs.drop kb)))) (fun j t => ty_far t BD (by decide)) (fun j t => ty_far t BD (by decide))
        generalize ((((((((((((W3.setCell ⟨w.heap.size + 1 + 1, 0, none⟩ (.int .u16 hd.src)).setCell ⟨w.heap.size + 1 + 1, 1, none⟩ (.int .u16 hd.dst)).setCell ⟨w.heap.size + 1 + 1, 2, none⟩ (.int .u32 hd.seq)).setCell ⟨w.heap.size + 1 + 1, 3, none⟩ (.int .u32 hd.ack)).setCell ⟨w.heap.size + 1 + 1, 4, none⟩ (.int .u8 hd.off)).setCell ⟨w.heap.size + 1 + 1, 5, none⟩ (.int .u8 hd.ace)).setCell ⟨w.heap.size + 1 + 1, 6, none⟩ (.int .u8 hd.fl)).setCell ⟨w.heap.size + 1 + 1, 7, none⟩ (.int .u16 hd.win)).setCell ⟨w.heap.size + 1 + 1, 8, none⟩ (.int .u16 hd.sum)).setCell ⟨w.heap.size + 1 + 1, 9, none⟩ (.int .u16 hd.urg)).setCell ⟨w.heap.size + 1 + 1, 10, none⟩ (.slice A6 n6 c6)).setCell ⟨w.heap.size + 1 + 1, 11, none⟩ (.string (strOfNums (bs.drop kb)))) = WZ at BZ LZ XZ ⊢
        have r0 := BZ.cell 0 rfl
        have r1 := BZ.cell 1 rfl
        have r2 := BZ.cell 2 rfl
        have r3 := BZ.cell 3 rfl
        have r4 := BZ.cell 4 rfl
        have r5 := BZ.cell 5 rfl
        have r6 := BZ.cell 6 rfl
        have r7 := BZ.cell 7 rfl
        have r8 := BZ.cell 8 rfl
        have r9 := BZ.cell 9 rfl
        have r10 := BZ.cell 10 rfl
        have r11 := BZ.cell 11 rfl
        exact bodyPost_ret (v := .tuple #[.agg #[.int .u16 hd.src, .int .u16 hd.dst, .int .u32 hd.seq, .int .u32 hd.ack, .int .u8 hd.off, .int .u8 hd.ace, .int .u8 hd.fl, .int .u16 hd.win, .int .u16 hd.sum, .int .u16 hd.urg, .slice A6 n6 c6, .string (strOfNums (bs.drop kb))], .int .i64 0]) (by simp [results, Try.results14, go_sem, r0, r1, r2, r3, r4, r5, r6, r7, r8, r9, r10, r11]) rfl (by rw [HE3.out]; exact ⟨A6, n6, c6, ys, rfl, XZ, m6, l6, d6, LZ⟩)
      · go_upto_region 12 with (first
          | (go_at_call 33; refine HPP.out.mono ?_; rintro e W3 ⟨A6, n6, c6, ys, rfl, X6, m6, l6, d6, B6, rw6, f6⟩))
        have R6 := new_then R5 B6
        have hE3 := HE2.out
        rw [if_pos (by simpa using hq)] at hE3
        have HE3 := Lib.hid hE3
        clear hE3
        replace BR := BR.kept B6
        have r0 := BR.cell 0 rfl
        have r1 := BR.cell 1 rfl
        have r2 := BR.cell 2 rfl
        have r3 := BR.cell 3 rfl
        have r4 := BR.cell 4 rfl
        have r5 := BR.cell 5 rfl
        have r6 := BR.cell 6 rfl
        have r7 := BR.cell 7 rfl
        have r8 := BR.cell 8 rfl
        have r9 := BR.cell 9 rfl
        have r10 := BR.cell 10 rfl
        have r11 := BR.cell 11 rfl
        have rf := fun i => BR.frozen i
      
        go_wp2_with fail
        clear r0 r1 r2 r3 r4 r5 r6 r7 r8 r9 r10 r11 rf
        have BZ := blk12 BR (.int .u16 0) (.int .u16 0) (.int .u32 0) (.int .u32 0) (.int .u8 0) (.int .u8 0) (.int .u8 0) (.int .u16 0) (.int .u16 0) (.int .u16 0) (.slice none 0 0) (.string ⟨#[]⟩)
        have LZ := low12 (R6) (show w.heap.size ≤ w.heap.size + 1 + 1 by omega) (.int .u16 0) (.int .u16 0) (.int .u32 0) (.int .u32 0) (.int .u8 0) (.int .u8 0) (.int .u8 0) (.int .u16 0) (.int .u16 0) (.int .u16 0) (.slice none 0 0) (.string ⟨#[]⟩)
        generalize ((((((((((((W3.setCell ⟨w.heap.size + 1 + 1, 0, none⟩ (.int .u16 0)).setCell ⟨w.heap.size + 1 + 1, 1, none⟩ (.int .u16 0)).setCell ⟨w.heap.size + 1 + 1, 2, none⟩ (.int .u32 0)).setCell ⟨w.heap.size + 1 + 1, 3, none⟩ (.int .u32 0)).setCell ⟨w.heap.size + 1 + 1, 4, none⟩ (.int .u8 0)).setCell ⟨w.heap.size + 1 + 1, 5, none⟩ (.int .u8 0)).setCell ⟨w.heap.size + 1 + 1, 6, none⟩ (.int .u8 0)).setCell ⟨w.heap.size + 1 + 1, 7, none⟩ (.int .u16 0)).setCell ⟨w.heap.size + 1 + 1, 8, none⟩ (.int .u16 0)).setCell ⟨w.heap.size + 1 + 1, 9, none⟩ (.int .u16 0)).setCell ⟨w.heap.size + 1 + 1, 10, none⟩ (.slice none 0 0)).setCell ⟨w.heap.size + 1 + 1, 11, none⟩ (.string ⟨#[]⟩)) = WZ at BZ LZ ⊢
        have r0 := BZ.cell 0 rfl
        have r1 := BZ.cell 1 rfl
        have r2 := BZ.cell 2 rfl
        have r3 := BZ.cell 3 rfl
        have r4 := BZ.cell 4 rfl
        have r5 := BZ.cell 5 rfl
        have r6 := BZ.cell 6 rfl
        have r7 := BZ.cell 7 rfl
        have r8 := BZ.cell 8 rfl
        have r9 := BZ.cell 9 rfl
        have r10 := BZ.cell 10 rfl
        have r11 := BZ.cell 11 rfl
        exact bodyPost_ret (v := .tuple #[.agg #[.int .u16 0, .int .u16 0, .int .u32 0, .int .u32 0, .int .u8 0, .int .u8 0, .int .u8 0, .int .u16 0, .int .u16 0, .int .u16 0, .slice none 0 0, .string ⟨#[]⟩], .int .i64 q]) (by simp [results, Try.results14, go_sem, r0, r1, r2, r3, r4, r5, r6, r7, r8, r9, r10, r11]) rfl (decS_err HE3.out LZ)
    · have HQ : Hid (decG x bs = ((zeroH, [], []), 6)) := Lib.hid (by rw [HE.out, if_neg hs, if_pos hv])
      obtain ⟨C, hC⟩ : ∃ C, ckS (pseG x L ++ bs) = C := ⟨_, rfl⟩
      rw [hC] at hv
      have hv2 : (C == 0) = false := by simp [hv]
      have HVD := Lib.hid hC
      clear hC hnp hnd hkL
      go_upto_region 9 with (first
        | (go_at_call 26; refine (refPseudo_any x.a x.b x.c x.d x.e x.f x.g x.h 6 L _ H6.out).mono ?_; rintro e w5 ⟨g5, p5, rfl, O5, B5⟩)
        | (go_at_call 25; refine (refSum10_any (some ⟨g8, 0, none⟩) (12 + L) k8 g8 _ w8 (own_ls O8) q4.out.1 q6.out q5.out).mono ?_; rw [HVD.out]; rintro e w9 ⟨rfl, rfl⟩)
        | (at_builtin; refine wp_catK elB (by rfl) _ _ (by rfl) W3.heap.size _ (pseG x L) A L c bs (by rfl) (by rfl) (PS.out.kept B5) O5 q3.out B5.size ?_; intro v8 w8 O8 G8 hat8; have S8 := B5.trans (below_push O5 G8 B5.size); obtain ⟨g8, k8, rfl, _, _⟩ := O8.some q4.out.1 q4.out.2))
      clear a0 a1 a2 a3 a4 a5 a6 a7
      have R5 := new_then R3 S8
      replace BR := BR.kept S8
      clear O5 B5 S8 A0 A1 R3 O8 G8 hat8 PS b4 BH
      generalize w8 = W3 at R5 BR ⊢
      have r0 := BR.cell 0 rfl
      have r1 := BR.cell 1 rfl
      have r2 := BR.cell 2 rfl
      have r3 := BR.cell 3 rfl
      have r4 := BR.cell 4 rfl
      have r5 := BR.cell 5 rfl
      have r6 := BR.cell 6 rfl
      have r7 := BR.cell 7 rfl
      have r8 := BR.cell 8 rfl
      have r9 := BR.cell 9 rfl
      have r10 := BR.cell 10 rfl
      have r11 := BR.cell 11 rfl
      have rf := fun i => BR.frozen i
    
      go_wp2_with fail
      clear r0 r1 r2 r3 r4 r5 r6 r7 r8 r9 r10 r11 rf
      have BZ := blk12 BR (.int .u16 0) (.int .u16 0) (.int .u32 0) (.int .u32 0) (.int .u8 0) (.int .u8 0) (.int .u8 0) (.int .u16 0) (.int .u16 0) (.int .u16 0) (.slice none 0 0) (.string ⟨#[]⟩)
      have LZ := low12 (R5) (show w.heap.size ≤ w.heap.size + 1 + 1 by omega) (.int .u16 0) (.int .u16 0) (.int .u32 0) (.int .u32 0) (.int .u8 0) (.int .u8 0) (.int .u8 0) (.int .u16 0) (.int .u16 0) (.int .u16 0) (.slice none 0 0) (.string ⟨#[]⟩)
      generalize ((((((((((((W3.setCell ⟨w.heap.size + 1 + 1, 0, none⟩ (.int .u16 0)).setCell ⟨w.heap.size + 1 + 1, 1, none⟩ (.int .u16 0)).setCell ⟨w.heap.size + 1 + 1, 2, none⟩ (.int .u32 0)).setCell ⟨w.heap.size + 1 + 1, 3, none⟩ (.int .u32 0)).setCell ⟨w.heap.size + 1 + 1, 4, none⟩ (.int .u8 0)).setCell ⟨w.heap.size + 1 + 1, 5, none⟩ (.int .u8 0)).setCell ⟨w.heap.size + 1 + 1, 6, none⟩ (.int .u8 0)).setCell ⟨w.heap.size + 1 + 1, 7, none⟩ (.int .u16 0)).setCell ⟨w.heap.size + 1 + 1, 8, none⟩ (.int .u16 0)).setCell ⟨w.heap.size + 1 + 1, 9, none⟩ (.int .u16 0)).setCell ⟨w.heap.size + 1 + 1, 10, none⟩ (.slice none 0 0)).setCell ⟨w.heap.size + 1 + 1, 11, none⟩ (.string ⟨#[]⟩)) = WZ at BZ LZ ⊢
      have r0 := BZ.cell 0 rfl
      have r1 := BZ.cell 1 rfl
      have r2 := BZ.cell 2 rfl
      have r3 := BZ.cell 3 rfl
      have r4 := BZ.cell 4 rfl
      have r5 := BZ.cell 5 rfl
      have r6 := BZ.cell 6 rfl
      have r7 := BZ.cell 7 rfl
      have r8 := BZ.cell 8 rfl
      have r9 := BZ.cell 9 rfl
      have r10 := BZ.cell 10 rfl
      have r11 := BZ.cell 11 rfl
      exact bodyPost_ret (v := .tuple #[.agg #[.int .u16 0, .int .u16 0, .int .u32 0, .int .u32 0, .int .u8 0, .int .u8 0, .int .u8 0, .int .u16 0, .int .u16 0, .int .u16 0, .slice none 0 0, .string ⟨#[]⟩], .int .i64 6]) (by simp [results, Try.results14, go_sem, r0, r1, r2, r3, r4, r5, r6, r7, r8, r9, r10, r11]) rfl (decS_err HQ.out LZ)

theorem refDecS_any (x : Ad) (hx : x.ok) (A : Option Addr) (g L c : Nat) (bs : List Int) (w : World) (h : LsK .u8 w g A bs) (hL : bs.length = L) (hb : bytS bs) (hL2 : L ≤ 1000) (hc : L ≤ c) (hc2 : c ≤ 9223372036854775807) :
    Calls Try.prog 14 #[.agg #[.int .u8 x.a, .int .u8 x.b, .int .u8 x.c, .int .u8 x.d], .agg #[.int .u8 x.e, .int .u8 x.f, .int .u8 x.g, .int .u8 x.h], .slice A L c] w (DecS w (decG x bs)) := by
  by_cases hl : L < 20
  · have e : decG x bs = ((zeroH, [], []), 3) := by unfold decG; rw [if_pos (by omega)]
    rw [e]
    exact refDecS_short x A L c w hl
  · rcases h with rfl | ⟨off, rfl, h⟩
    · simp at hL; omega
    · have h' : LsK .u8 w g (some ⟨g, off, none⟩) bs := .inr ⟨off, rfl, h⟩
      by_cases hn : isF bs
      · exact refDecS_yes x hx _ g off L c bs w rfl h' hL hb (by omega) hL2 hc hc2 hn
      · have e : decG x bs = ((zeroH, [], []), 5) := by unfold decG; rw [if_neg (by omega), if_pos (by exact hn)]
        rw [e]
        exact refDecS_not x g off L c bs w h' hL hb (by omega) hL2 hn
end Go.Proofs.Ytnkcnfkonifmhaa
