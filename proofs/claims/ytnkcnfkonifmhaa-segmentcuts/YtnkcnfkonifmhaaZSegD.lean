/- Package segment: piece, Decode. -/
import Derived.Test.YtnkcnfkonifmhaaZSegA
import Derived.Test.YtnkcnfkonifmhaaZOptT
import Derived.Test.YtnkcnfkonifmhaaZFlgE
import Derived.StillTailTactics
namespace Go.Proofs.Ytnkcnfkonifmhaa
open Go.RowKit
set_option linter.unusedVariables false

theorem piece_any (g off L c lo hi n : Nat) (zs : List Int) (w : World) (h : LsK .u8 w g (some ⟨g, off, none⟩) zs) (h1 : lo ≤ hi) (h2 : hi ≤ c) (hc : c ≤ 9223372036854775807) (hn : hi - lo = n) :
    Calls Try.prog 31 #[.slice (some ⟨g, off, none⟩) L c, .int .i64 lo, .int .i64 hi] w fun e w' => (∃ o, e = .returned (.slice (some ⟨g, o, none⟩) n n) ∧ LsK .u8 w g (some ⟨g, o, none⟩) ((zs.drop lo).take n)) ∧ w = w' := by
  have k1 : (lo : Int) ≤ (hi : Int) := by omega
  have k2 : (hi : Int) ≤ (c : Int) := by omega
  have k3 : (0 : Int) ≤ (lo : Int) := by omega
  have k4 : (0 : Int) ≤ (hi : Int) := by omega
  subst hn
  have HP := Lib.hid (part_ls h lo (hi - lo))
  clear h
  by_cases he : hi = lo
  · subst he
    go_enter Try.func31, Try.ntmps31
    go_wp2_with fail
    go_ret
    refine ⟨⟨off, by rw [Nat.sub_self]; rfl, ?_⟩, rfl⟩
    rw [Nat.sub_self, List.take_zero]
    exact .inl rfl
  · go_enter Try.func31, Try.ntmps31
    go_wp2_with fail
    go_ret
    exact ⟨⟨off + lo, rfl, HP.out⟩, rfl⟩

/-- Twelve cells of a block, stored. -/
theorem blk12 {w : World} {g : Nat} {t : TypeId} {u0 u1 u2 u3 u4 u5 u6 u7 u8 u9 u10 u11 : Value} (h : Blk w g [u0, u1, u2, u3, u4, u5, u6, u7, u8, u9, u10, u11] t) (v0 v1 v2 v3 v4 v5 v6 v7 v8 v9 v10 v11 : Value) : Blk ((((((((((((w.setCell ⟨g, 0, none⟩ v0).setCell ⟨g, 1, none⟩ v1).setCell ⟨g, 2, none⟩ v2).setCell ⟨g, 3, none⟩ v3).setCell ⟨g, 4, none⟩ v4).setCell ⟨g, 5, none⟩ v5).setCell ⟨g, 6, none⟩ v6).setCell ⟨g, 7, none⟩ v7).setCell ⟨g, 8, none⟩ v8).setCell ⟨g, 9, none⟩ v9).setCell ⟨g, 10, none⟩ v10).setCell ⟨g, 11, none⟩ v11) g [v0, v1, v2, v3, v4, v5, v6, v7, v8, v9, v10, v11] t :=
  ((((((((((((h.set 0 v0).set 1 v1).set 2 v2).set 3 v3).set 4 v4).set 5 v5).set 6 v6).set 7 v7).set 8 v8).set 9 v9).set 10 v10).set 11 v11)
theorem low12 {B : Nat} {a w : World} {g : Nat} (h : Below B a w) (hg : B ≤ g) (v0 v1 v2 v3 v4 v5 v6 v7 v8 v9 v10 v11 : Value) : Below B a ((((((((((((w.setCell ⟨g, 0, none⟩ v0).setCell ⟨g, 1, none⟩ v1).setCell ⟨g, 2, none⟩ v2).setCell ⟨g, 3, none⟩ v3).setCell ⟨g, 4, none⟩ v4).setCell ⟨g, 5, none⟩ v5).setCell ⟨g, 6, none⟩ v6).setCell ⟨g, 7, none⟩ v7).setCell ⟨g, 8, none⟩ v8).setCell ⟨g, 9, none⟩ v9).setCell ⟨g, 10, none⟩ v10).setCell ⟨g, 11, none⟩ v11) :=
  ((((((((((((h.setCell hg v0).setCell hg v1).setCell hg v2).setCell hg v3).setCell hg v4).setCell hg v5).setCell hg v6).setCell hg v7).setCell hg v8).setCell hg v9).setCell hg v10).setCell hg v11)
theorem out12 {w : World} {g : Nat} (v0 v1 v2 v3 v4 v5 v6 v7 v8 v9 v10 v11 : Value) : Out (fun k => k = g) w ((((((((((((w.setCell ⟨g, 0, none⟩ v0).setCell ⟨g, 1, none⟩ v1).setCell ⟨g, 2, none⟩ v2).setCell ⟨g, 3, none⟩ v3).setCell ⟨g, 4, none⟩ v4).setCell ⟨g, 5, none⟩ v5).setCell ⟨g, 6, none⟩ v6).setCell ⟨g, 7, none⟩ v7).setCell ⟨g, 8, none⟩ v8).setCell ⟨g, 9, none⟩ v9).setCell ⟨g, 10, none⟩ v10).setCell ⟨g, 11, none⟩ v11) :=
  (((((((((((((Out.refl (fun k => k = g) w).set (.inl rfl) v0).set (.inl rfl) v1).set (.inl rfl) v2).set (.inl rfl) v3).set (.inl rfl) v4).set (.inl rfl) v5).set (.inl rfl) v6).set (.inl rfl) v7).set (.inl rfl) v8).set (.inl rfl) v9).set (.inl rfl) v10).set (.inl rfl) v11)

theorem ty_far {w : World} {g p : Nat} {t t' : TypeId} {cur : List Value} (h : TyAt w g t) (b : Blk w p cur t') (hn : t ≠ t') : ¬ g = p := fun e => hn (ty_one h ⟨cur, e ▸ b⟩)
theorem sb_of {zs : List Int} (h : bytS zs) : sb (strOfNums zs) = zs := by
  unfold sb strOfNums
  simp only [List.map_map]
  conv => rhs; rw [← List.map_id zs]
  apply List.map_congr_left
  intro x hx
  have := h x hx
  simp only [Function.comp, id]
  have e : (UInt8.ofNat x.toNat).toNat = x.toNat := by rw [UInt8.toNat_ofNat']; exact Nat.mod_eq_of_lt (by omega)
  rw [e]
  omega
/-- What Decode tells. -/
def DecS (w : World) (T : (Hd × List Opt × List Int) × Int) (e : Ending) (w' : World) : Prop :=
  ∃ (A : Option Addr) (n c : Nat) (xs : List OC), e = .returned (.tuple #[.agg #[.int .u16 T.1.1.src, .int .u16 T.1.1.dst, .int .u32 T.1.1.seq, .int .u32 T.1.1.ack, .int .u8 T.1.1.off, .int .u8 T.1.1.ace, .int .u8 T.1.1.fl, .int .u16 T.1.1.win, .int .u16 T.1.1.sum, .int .u16 T.1.1.urg, .slice A n c, .string (strOfNums T.1.2.2)], .int .i64 T.2]) ∧ OptsAt w' A n xs ∧ xs.map OC.o = T.1.2.1 ∧ n ≤ 40 ∧ n ≤ c ∧ Below w.heap.size w w'
theorem decS_err {w w' : World} {T : (Hd × List Opt × List Int) × Int} {q : Int} (h : T = ((zeroH, [], []), q)) (B : Below w.heap.size w w') : DecS w T (.returned (.tuple #[.agg #[.int .u16 0, .int .u16 0, .int .u32 0, .int .u32 0, .int .u8 0, .int .u8 0, .int .u8 0, .int .u16 0, .int .u16 0, .int .u16 0, .slice none 0 0, .string ⟨#[]⟩], .int .i64 q])) w' := by
  subst h
  exact ⟨none, 0, 0, [], rfl, opts_none _ _, rfl, by decide, Nat.le_refl _, B⟩

set_option maxRecDepth 100000 in
set_option maxHeartbeats 4000000 in
theorem decS_short (x : Ad) (A : Option Addr) (L c : Nat) (w : World) (hL : L < 20) :
    Calls Try.prog 13 #[.agg #[.int .u8 x.a, .int .u8 x.b, .int .u8 x.c, .int .u8 x.d], .agg #[.int .u8 x.e, .int .u8 x.f, .int .u8 x.g, .int .u8 x.h], .slice A L c] w (DecS w ((zeroH, [], []), 3)) := by
  have HL := Lib.hid hL
  clear hL
  have A0 := ((At.new w [.int .u8 x.a, .int .u8 x.b, .int .u8 x.c, .int .u8 x.d] 22).alloc (.cells #[.int .u8 x.e, .int .u8 x.f, .int .u8 x.g, .int .u8 x.h] 22)).alloc (.cells #[.int .u16 0, .int .u16 0, .int .u32 0, .int .u32 0, .int .u8 0, .int .u8 0, .int .u8 0, .int .u16 0, .int .u16 0, .int .u16 0, .slice none 0 0, .string ⟨#[]⟩] 30)
  have A1 := (At.newAt (alloc_size w (.cells #[.int .u8 x.a, .int .u8 x.b, .int .u8 x.c, .int .u8 x.d] 22)) [.int .u8 x.e, .int .u8 x.f, .int .u8 x.g, .int .u8 x.h] 22).alloc (.cells #[.int .u16 0, .int .u16 0, .int .u32 0, .int .u32 0, .int .u8 0, .int .u8 0, .int .u8 0, .int .u16 0, .int .u16 0, .int .u16 0, .slice none 0 0, .string ⟨#[]⟩] 30)
  have hs2 : ((w.alloc (.cells #[.int .u8 x.a, .int .u8 x.b, .int .u8 x.c, .int .u8 x.d] 22)).alloc (.cells #[.int .u8 x.e, .int .u8 x.f, .int .u8 x.g, .int .u8 x.h] 22)).heap.size = w.heap.size + 1 + 1 := by rw [alloc_size, alloc_size]
  have BR := Blk.newAt hs2 [.int .u16 0, .int .u16 0, .int .u32 0, .int .u32 0, .int .u8 0, .int .u8 0, .int .u8 0, .int .u16 0, .int .u16 0, .int .u16 0, .slice none 0 0, .string ⟨#[]⟩] 30
  have L0 := new_alloc (new_alloc (new_alloc (new_refl w) (.cells #[.int .u8 x.a, .int .u8 x.b, .int .u8 x.c, .int .u8 x.d] 22)) (.cells #[.int .u8 x.e, .int .u8 x.f, .int .u8 x.g, .int .u8 x.h] 22)) (.cells #[.int .u16 0, .int .u16 0, .int .u32 0, .int .u32 0, .int .u8 0, .int .u8 0, .int .u8 0, .int .u16 0, .int .u16 0, .int .u16 0, .slice none 0 0, .string ⟨#[]⟩] 30)
  clear hs2
  have hbl := Lib.hid BR
  go_enter Try.func13, Try.ntmps13
  go_upto_region 1 with (fail)
  generalize ((w.alloc (.cells #[.int .u8 x.a, .int .u8 x.b, .int .u8 x.c, .int .u8 x.d] 22)).alloc (.cells #[.int .u8 x.e, .int .u8 x.f, .int .u8 x.g, .int .u8 x.h] 22)).alloc (.cells #[.int .u16 0, .int .u16 0, .int .u32 0, .int .u32 0, .int .u8 0, .int .u8 0, .int .u8 0, .int .u16 0, .int .u16 0, .int .u16 0, .slice none 0 0, .string ⟨#[]⟩] 30) = W at A0 A1 BR hbl L0 ⊢

  go_upto_region 2 with (first
    | (go_at_call 28; refine (decode_short A L c _ HL.out).mono ?_; rintro e w2 ⟨rfl, B2⟩; replace BR := BR.kept B2))
  have R2 := new_then L0 B2
  have R3 := new_alloc R2 (.cells #[.int .u16 zeroH.src, .int .u16 zeroH.dst, .int .u32 zeroH.seq, .int .u32 zeroH.ack, .int .u8 zeroH.off, .int .u8 zeroH.ace, .int .u8 zeroH.fl, .int .u16 zeroH.win, .int .u16 zeroH.sum, .int .u16 zeroH.urg] 27)
  replace BR := BR.alloc (.cells #[.int .u16 zeroH.src, .int .u16 zeroH.dst, .int .u32 zeroH.seq, .int .u32 zeroH.ack, .int .u8 zeroH.off, .int .u8 zeroH.ace, .int .u8 zeroH.fl, .int .u16 zeroH.win, .int .u16 zeroH.sum, .int .u16 zeroH.urg] 27)
  generalize w2.alloc (.cells #[.int .u16 zeroH.src, .int .u16 zeroH.dst, .int .u32 zeroH.seq, .int .u32 zeroH.ack, .int .u8 zeroH.off, .int .u8 zeroH.ace, .int .u8 zeroH.fl, .int .u16 zeroH.win, .int .u16 zeroH.sum, .int .u16 zeroH.urg] 27) = W3 at BR R3 ⊢
  have r0 := BR.cell 0 rfl
  have r1 := BR.cell 1 rfl
  have r2 := BR.cell 2 rfl
  have r3 := BR.cell 3 rfl
  have r4 := BR.cell 4 rfl
  have r5 := BR.cell 5 rfl
  have r6 := BR.cell 6 rfl
  have r7 := BR.cell 7 rfl
  have r8 := BR.cell 8 rfl
  have r9 := BR.cell 9 rfl
  have r10 := BR.cell 10 rfl
  have r11 := BR.cell 11 rfl
  have rf := fun i => BR.frozen i

  go_wp2_with fail
  clear r0 r1 r2 r3 r4 r5 r6 r7 r8 r9 r10 r11 rf
  have BZ := blk12 BR (.int .u16 0) (.int .u16 0) (.int .u32 0) (.int .u32 0) (.int .u8 0) (.int .u8 0) (.int .u8 0) (.int .u16 0) (.int .u16 0) (.int .u16 0) (.slice none 0 0) (.string ⟨#[]⟩)
  have LZ := low12 (R3) (show w.heap.size ≤ w.heap.size + 1 + 1 by omega) (.int .u16 0) (.int .u16 0) (.int .u32 0) (.int .u32 0) (.int .u8 0) (.int .u8 0) (.int .u8 0) (.int .u16 0) (.int .u16 0) (.int .u16 0) (.slice none 0 0) (.string ⟨#[]⟩)
  generalize ((((((((((((W3.setCell ⟨w.heap.size + 1 + 1, 0, none⟩ (.int .u16 0)).setCell ⟨w.heap.size + 1 + 1, 1, none⟩ (.int .u16 0)).setCell ⟨w.heap.size + 1 + 1, 2, none⟩ (.int .u32 0)).setCell ⟨w.heap.size + 1 + 1, 3, none⟩ (.int .u32 0)).setCell ⟨w.heap.size + 1 + 1, 4, none⟩ (.int .u8 0)).setCell ⟨w.heap.size + 1 + 1, 5, none⟩ (.int .u8 0)).setCell ⟨w.heap.size + 1 + 1, 6, none⟩ (.int .u8 0)).setCell ⟨w.heap.size + 1 + 1, 7, none⟩ (.int .u16 0)).setCell ⟨w.heap.size + 1 + 1, 8, none⟩ (.int .u16 0)).setCell ⟨w.heap.size + 1 + 1, 9, none⟩ (.int .u16 0)).setCell ⟨w.heap.size + 1 + 1, 10, none⟩ (.slice none 0 0)).setCell ⟨w.heap.size + 1 + 1, 11, none⟩ (.string ⟨#[]⟩)) = WZ at BZ LZ ⊢
  have r0 := BZ.cell 0 rfl
  have r1 := BZ.cell 1 rfl
  have r2 := BZ.cell 2 rfl
  have r3 := BZ.cell 3 rfl
  have r4 := BZ.cell 4 rfl
  have r5 := BZ.cell 5 rfl
  have r6 := BZ.cell 6 rfl
  have r7 := BZ.cell 7 rfl
  have r8 := BZ.cell 8 rfl
  have r9 := BZ.cell 9 rfl
  have r10 := BZ.cell 10 rfl
  have r11 := BZ.cell 11 rfl
  exact bodyPost_ret (v := .tuple #[.agg #[.int .u16 0, .int .u16 0, .int .u32 0, .int .u32 0, .int .u8 0, .int .u8 0, .int .u8 0, .int .u16 0, .int .u16 0, .int .u16 0, .slice none 0 0, .string ⟨#[]⟩], .int .i64 3]) (by simp [results, Try.results13, go_sem, r0, r1, r2, r3, r4, r5, r6, r7, r8, r9, r10, r11]) rfl (decS_err rfl LZ)

set_option maxRecDepth 100000 in
set_option maxHeartbeats 4000000 in
theorem decS_not (x : Ad) (g off L c : Nat) (bs : List Int) (w : World) (h : LsK .u8 w g (some ⟨g, off, none⟩) bs) (hL : bs.length = L) (hb : bytS bs) (hL1 : 20 ≤ L) (hL2 : L ≤ 1000) (hn : ¬ isF bs) :
    Calls Try.prog 13 #[.agg #[.int .u8 x.a, .int .u8 x.b, .int .u8 x.c, .int .u8 x.d], .agg #[.int .u8 x.e, .int .u8 x.f, .int .u8 x.g, .int .u8 x.h], .slice (some ⟨g, off, none⟩) L c] w (DecS w ((zeroH, [], []), 5)) := by
  have HD := Lib.hid (fun w' (B : Below w.heap.size w w') => decode_not g off L c bs w' (h.kept B) hL hb hL1 (by omega) hn)
  clear hL h hb hL1 hL2 hn
  have A0 := ((At.new w [.int .u8 x.a, .int .u8 x.b, .int .u8 x.c, .int .u8 x.d] 22).alloc (.cells #[.int .u8 x.e, .int .u8 x.f, .int .u8 x.g, .int .u8 x.h] 22)).alloc (.cells #[.int .u16 0, .int .u16 0, .int .u32 0, .int .u32 0, .int .u8 0, .int .u8 0, .int .u8 0, .int .u16 0, .int .u16 0, .int .u16 0, .slice none 0 0, .string ⟨#[]⟩] 30)
  have A1 := (At.newAt (alloc_size w (.cells #[.int .u8 x.a, .int .u8 x.b, .int .u8 x.c, .int .u8 x.d] 22)) [.int .u8 x.e, .int .u8 x.f, .int .u8 x.g, .int .u8 x.h] 22).alloc (.cells #[.int .u16 0, .int .u16 0, .int .u32 0, .int .u32 0, .int .u8 0, .int .u8 0, .int .u8 0, .int .u16 0, .int .u16 0, .int .u16 0, .slice none 0 0, .string ⟨#[]⟩] 30)
  have hs2 : ((w.alloc (.cells #[.int .u8 x.a, .int .u8 x.b, .int .u8 x.c, .int .u8 x.d] 22)).alloc (.cells #[.int .u8 x.e, .int .u8 x.f, .int .u8 x.g, .int .u8 x.h] 22)).heap.size = w.heap.size + 1 + 1 := by rw [alloc_size, alloc_size]
  have BR := Blk.newAt hs2 [.int .u16 0, .int .u16 0, .int .u32 0, .int .u32 0, .int .u8 0, .int .u8 0, .int .u8 0, .int .u16 0, .int .u16 0, .int .u16 0, .slice none 0 0, .string ⟨#[]⟩] 30
  have L0 := new_alloc (new_alloc (new_alloc (new_refl w) (.cells #[.int .u8 x.a, .int .u8 x.b, .int .u8 x.c, .int .u8 x.d] 22)) (.cells #[.int .u8 x.e, .int .u8 x.f, .int .u8 x.g, .int .u8 x.h] 22)) (.cells #[.int .u16 0, .int .u16 0, .int .u32 0, .int .u32 0, .int .u8 0, .int .u8 0, .int .u8 0, .int .u16 0, .int .u16 0, .int .u16 0, .slice none 0 0, .string ⟨#[]⟩] 30)
  clear hs2
  have hbl := Lib.hid BR
  go_enter Try.func13, Try.ntmps13
  go_upto_region 1 with (fail)
  generalize ((w.alloc (.cells #[.int .u8 x.a, .int .u8 x.b, .int .u8 x.c, .int .u8 x.d] 22)).alloc (.cells #[.int .u8 x.e, .int .u8 x.f, .int .u8 x.g, .int .u8 x.h] 22)).alloc (.cells #[.int .u16 0, .int .u16 0, .int .u32 0, .int .u32 0, .int .u8 0, .int .u8 0, .int .u8 0, .int .u16 0, .int .u16 0, .int .u16 0, .slice none 0 0, .string ⟨#[]⟩] 30) = W at A0 A1 BR hbl L0 ⊢

  go_upto_region 2 with (first
    | (go_at_call 28; refine (HD.out _ L0).mono ?_; rintro e w2 ⟨rfl, B2⟩; replace BR := BR.kept B2))
  have R2 := new_then L0 B2
  have R3 := new_alloc R2 (.cells #[.int .u16 zeroH.src, .int .u16 zeroH.dst, .int .u32 zeroH.seq, .int .u32 zeroH.ack, .int .u8 zeroH.off, .int .u8 zeroH.ace, .int .u8 zeroH.fl, .int .u16 zeroH.win, .int .u16 zeroH.sum, .int .u16 zeroH.urg] 27)
  replace BR := BR.alloc (.cells #[.int .u16 zeroH.src, .int .u16 zeroH.dst, .int .u32 zeroH.seq, .int .u32 zeroH.ack, .int .u8 zeroH.off, .int .u8 zeroH.ace, .int .u8 zeroH.fl, .int .u16 zeroH.win, .int .u16 zeroH.sum, .int .u16 zeroH.urg] 27)
  generalize w2.alloc (.cells #[.int .u16 zeroH.src, .int .u16 zeroH.dst, .int .u32 zeroH.seq, .int .u32 zeroH.ack, .int .u8 zeroH.off, .int .u8 zeroH.ace, .int .u8 zeroH.fl, .int .u16 zeroH.win, .int .u16 zeroH.sum, .int .u16 zeroH.urg] 27) = W3 at BR R3 ⊢
  have r0 := BR.cell 0 rfl
  have r1 := BR.cell 1 rfl
  have r2 := BR.cell 2 rfl
  have r3 := BR.cell 3 rfl
  have r4 := BR.cell 4 rfl
  have r5 := BR.cell 5 rfl
  have r6 := BR.cell 6 rfl
  have r7 := BR.cell 7 rfl
  have r8 := BR.cell 8 rfl
  have r9 := BR.cell 9 rfl
  have r10 := BR.cell 10 rfl
  have r11 := BR.cell 11 rfl
  have rf := fun i => BR.frozen i

  go_wp2_with fail
  clear r0 r1 r2 r3 r4 r5 r6 r7 r8 r9 r10 r11 rf
  have BZ := blk12 BR (.int .u16 0) (.int .u16 0) (.int .u32 0) (.int .u32 0) (.int .u8 0) (.int .u8 0) (.int .u8 0) (.int .u16 0) (.int .u16 0) (.int .u16 0) (.slice none 0 0) (.string ⟨#[]⟩)
  have LZ := low12 (R3) (show w.heap.size ≤ w.heap.size + 1 + 1 by omega) (.int .u16 0) (.int .u16 0) (.int .u32 0) (.int .u32 0) (.int .u8 0) (.int .u8 0) (.int .u8 0) (.int .u16 0) (.int .u16 0) (.int .u16 0) (.slice none 0 0) (.string ⟨#[]⟩)
  generalize ((((((((((((W3.setCell ⟨w.heap.size + 1 + 1, 0, none⟩ (.int .u16 0)).setCell ⟨w.heap.size + 1 + 1, 1, none⟩ (.int .u16 0)).setCell ⟨w.heap.size + 1 + 1, 2, none⟩ (.int .u32 0)).setCell ⟨w.heap.size + 1 + 1, 3, none⟩ (.int .u32 0)).setCell ⟨w.heap.size + 1 + 1, 4, none⟩ (.int .u8 0)).setCell ⟨w.heap.size + 1 + 1, 5, none⟩ (.int .u8 0)).setCell ⟨w.heap.size + 1 + 1, 6, none⟩ (.int .u8 0)).setCell ⟨w.heap.size + 1 + 1, 7, none⟩ (.int .u16 0)).setCell ⟨w.heap.size + 1 + 1, 8, none⟩ (.int .u16 0)).setCell ⟨w.heap.size + 1 + 1, 9, none⟩ (.int .u16 0)).setCell ⟨w.heap.size + 1 + 1, 10, none⟩ (.slice none 0 0)).setCell ⟨w.heap.size + 1 + 1, 11, none⟩ (.string ⟨#[]⟩)) = WZ at BZ LZ ⊢
  have r0 := BZ.cell 0 rfl
  have r1 := BZ.cell 1 rfl
  have r2 := BZ.cell 2 rfl
  have r3 := BZ.cell 3 rfl
  have r4 := BZ.cell 4 rfl
  have r5 := BZ.cell 5 rfl
  have r6 := BZ.cell 6 rfl
  have r7 := BZ.cell 7 rfl
  have r8 := BZ.cell 8 rfl
  have r9 := BZ.cell 9 rfl
  have r10 := BZ.cell 10 rfl
  have r11 := BZ.cell 11 rfl
  exact bodyPost_ret (v := .tuple #[.agg #[.int .u16 0, .int .u16 0, .int .u32 0, .int .u32 0, .int .u8 0, .int .u8 0, .int .u8 0, .int .u16 0, .int .u16 0, .int .u16 0, .slice none 0 0, .string ⟨#[]⟩], .int .i64 5]) (by simp [results, Try.results13, go_sem, r0, r1, r2, r3, r4, r5, r6, r7, r8, r9, r10, r11]) rfl (decS_err rfl LZ)

/-- .. with the place that is told. -/
theorem piece_at (g off L c lo hi n o1 : Nat) (w : World) (h1 : lo ≤ hi) (h2 : hi ≤ c) (hc : c ≤ 9223372036854775807) (hn : hi - lo = n) (ho : (if hi = lo then off else off + lo) = o1) :
    Calls Try.prog 31 #[.slice (some ⟨g, off, none⟩) L c, .int .i64 lo, .int .i64 hi] w fun e w' => e = .returned (.slice (some ⟨g, o1, none⟩) n n) ∧ w' = w := by
  have k1 : (lo : Int) ≤ (hi : Int) := by omega
  have k2 : (hi : Int) ≤ (c : Int) := by omega
  have k3 : (0 : Int) ≤ (lo : Int) := by omega
  have k4 : (0 : Int) ≤ (hi : Int) := by omega
  subst hn ho
  by_cases he : hi = lo
  · subst he
    go_enter Try.func31, Try.ntmps31
    go_wp2_with fail
    go_ret
    exact ⟨rfl, rfl⟩
  · go_enter Try.func31, Try.ntmps31
    go_wp2_with fail
    go_ret
    exact ⟨rfl, rfl⟩
theorem piece_ls {w : World} {g off lo hi n o1 : Nat} {zs : List Int} (h : LsK .u8 w g (some ⟨g, off, none⟩) zs) (hn : hi - lo = n) (ho : (if hi = lo then off else off + lo) = o1) : LsK .u8 w g (some ⟨g, o1, none⟩) ((zs.drop lo).take n) := by
  subst hn ho
  by_cases he : hi = lo
  · subst he
    rw [Nat.sub_self, List.take_zero]
    exact .inl rfl
  · rw [if_neg he]
    exact part_ls h lo (hi - lo)

set_option maxRecDepth 100000 in
set_option maxHeartbeats 8000000 in
theorem decS_yes (x : Ad) (hx : x.ok) (g off L c : Nat) (bs : List Int) (w : World) (h : LsK .u8 w g (some ⟨g, off, none⟩) bs) (hL : bs.length = L) (hb : bytS bs) (hL1 : 20 ≤ L) (hL2 : L ≤ 1000) (hc : L ≤ c) (hc2 : c ≤ 9223372036854775807) (hn : isF bs) :
    Calls Try.prog 13 #[.agg #[.int .u8 x.a, .int .u8 x.b, .int .u8 x.c, .int .u8 x.d], .agg #[.int .u8 x.e, .int .u8 x.f, .int .u8 x.g, .int .u8 x.h], .slice (some ⟨g, off, none⟩) L c] w (DecS w (decG x bs)) := by
  obtain ⟨hd, hhd⟩ : ∃ hd, decF bs = hd := ⟨_, rfl⟩
  have hoff : hd.off = bF bs 12 / 16 := by rw [← hhd]; rfl
  have hob := bF_bd hb hL (i := 12) (by omega)
  obtain ⟨kb, hkb⟩ : ∃ kb : Nat, 4 * (bF bs 12 / 16) = (kb : Int) := ⟨(4 * (bF bs 12 / 16)).toNat, by omega⟩
  have hn1 := hn.1
  have o0 : 0 ≤ hd.off := by omega
  have o1 : hd.off ≤ 15 := by omega
  have e1 : 4 * hd.off = (kb : Int) := by rw [hoff]; exact hkb
  have hk1 : 20 ≤ kb := by omega
  have hk2 : kb ≤ 60 := by omega
  have hDY : ∀ w' (B : Below w.heap.size w w'), Calls Try.prog 28 #[.slice (some ⟨g, off, none⟩) L c] w' (DecTo w' hd 0) := fun w' B => by rw [← hhd]; exact decode_yes g off L c bs w' (h.kept B) hL hb hL1 (by omega) hn
  have HD := Lib.hid hDY
  have HE : Hid (decG x bs = if (L : Int) < (kb : Int) then ((zeroH, [], []), 3) else if ckS (pseG x L ++ bs) ≠ 0 then ((zeroH, [], []), 6) else if (parA ((bs.drop 20).take (kb - 20))).2 ≠ 0 then ((zeroH, [], []), (parA ((bs.drop 20).take (kb - 20))).2) else ((hd, (parA ((bs.drop 20).take (kb - 20))).1, bs.drop kb), 0)) := Lib.hid (by
    unfold decG
    rw [if_neg (by omega), if_neg (by have := hn.2; omega), hkb, hL, if_neg (show ¬ 65535 < L by omega), hhd, show ((kb : Int)).toNat = kb by omega])
  have HLS := Lib.hid h
  have HB := Lib.hid hb
  have HL := Lib.hid hL
  have HL2 := Lib.hid hL2
  have HC := Lib.hid hc
  have HC2 := Lib.hid hc2
  have HX := Lib.hid hx
  have l2 : ¬ (65535 : Int) < (L : Int) := by omega
  clear hhd hoff hob hkb hn1 hDY h hb hL hc hc2 hx hn hL1 hL2
  have A0 := ((At.new w [.int .u8 x.a, .int .u8 x.b, .int .u8 x.c, .int .u8 x.d] 22).alloc (.cells #[.int .u8 x.e, .int .u8 x.f, .int .u8 x.g, .int .u8 x.h] 22)).alloc (.cells #[.int .u16 0, .int .u16 0, .int .u32 0, .int .u32 0, .int .u8 0, .int .u8 0, .int .u8 0, .int .u16 0, .int .u16 0, .int .u16 0, .slice none 0 0, .string ⟨#[]⟩] 30)
  have A1 := (At.newAt (alloc_size w (.cells #[.int .u8 x.a, .int .u8 x.b, .int .u8 x.c, .int .u8 x.d] 22)) [.int .u8 x.e, .int .u8 x.f, .int .u8 x.g, .int .u8 x.h] 22).alloc (.cells #[.int .u16 0, .int .u16 0, .int .u32 0, .int .u32 0, .int .u8 0, .int .u8 0, .int .u8 0, .int .u16 0, .int .u16 0, .int .u16 0, .slice none 0 0, .string ⟨#[]⟩] 30)
  have hs2 : ((w.alloc (.cells #[.int .u8 x.a, .int .u8 x.b, .int .u8 x.c, .int .u8 x.d] 22)).alloc (.cells #[.int .u8 x.e, .int .u8 x.f, .int .u8 x.g, .int .u8 x.h] 22)).heap.size = w.heap.size + 1 + 1 := by rw [alloc_size, alloc_size]
  have BR := Blk.newAt hs2 [.int .u16 0, .int .u16 0, .int .u32 0, .int .u32 0, .int .u8 0, .int .u8 0, .int .u8 0, .int .u16 0, .int .u16 0, .int .u16 0, .slice none 0 0, .string ⟨#[]⟩] 30
  have L0 := new_alloc (new_alloc (new_alloc (new_refl w) (.cells #[.int .u8 x.a, .int .u8 x.b, .int .u8 x.c, .int .u8 x.d] 22)) (.cells #[.int .u8 x.e, .int .u8 x.f, .int .u8 x.g, .int .u8 x.h] 22)) (.cells #[.int .u16 0, .int .u16 0, .int .u32 0, .int .u32 0, .int .u8 0, .int .u8 0, .int .u8 0, .int .u16 0, .int .u16 0, .int .u16 0, .slice none 0 0, .string ⟨#[]⟩] 30)
  clear hs2
  have hbl := Lib.hid BR
  go_enter Try.func13, Try.ntmps13
  go_upto_region 1 with (fail)
  generalize ((w.alloc (.cells #[.int .u8 x.a, .int .u8 x.b, .int .u8 x.c, .int .u8 x.d] 22)).alloc (.cells #[.int .u8 x.e, .int .u8 x.f, .int .u8 x.g, .int .u8 x.h] 22)).alloc (.cells #[.int .u16 0, .int .u16 0, .int .u32 0, .int .u32 0, .int .u8 0, .int .u8 0, .int .u8 0, .int .u16 0, .int .u16 0, .int .u16 0, .slice none 0 0, .string ⟨#[]⟩] 30) = W at A0 A1 BR hbl L0 ⊢

  go_upto_region 2 with (first
    | (go_at_call 28; refine (HD.out _ L0).mono ?_; rintro e w2 ⟨rfl, B2⟩; replace BR := BR.kept B2))
  have R2 := new_then L0 B2
  have R3 := new_alloc R2 (.cells #[.int .u16 hd.src, .int .u16 hd.dst, .int .u32 hd.seq, .int .u32 hd.ack, .int .u8 hd.off, .int .u8 hd.ace, .int .u8 hd.fl, .int .u16 hd.win, .int .u16 hd.sum, .int .u16 hd.urg] 27)
  replace BR := BR.alloc (.cells #[.int .u16 hd.src, .int .u16 hd.dst, .int .u32 hd.seq, .int .u32 hd.ack, .int .u8 hd.off, .int .u8 hd.ace, .int .u8 hd.fl, .int .u16 hd.win, .int .u16 hd.sum, .int .u16 hd.urg] 27)
  replace A0 := (A0.kept B2).alloc (.cells #[.int .u16 hd.src, .int .u16 hd.dst, .int .u32 hd.seq, .int .u32 hd.ack, .int .u8 hd.off, .int .u8 hd.ace, .int .u8 hd.fl, .int .u16 hd.win, .int .u16 hd.sum, .int .u16 hd.urg] 27)
  replace A1 := (A1.kept B2).alloc (.cells #[.int .u16 hd.src, .int .u16 hd.dst, .int .u32 hd.seq, .int .u32 hd.ack, .int .u8 hd.off, .int .u8 hd.ace, .int .u8 hd.fl, .int .u16 hd.win, .int .u16 hd.sum, .int .u16 hd.urg] 27)
  have BH := Blk.new w2 [.int .u16 hd.src, .int .u16 hd.dst, .int .u32 hd.seq, .int .u32 hd.ack, .int .u8 hd.off, .int .u8 hd.ace, .int .u8 hd.fl, .int .u16 hd.win, .int .u16 hd.sum, .int .u16 hd.urg] 27
  have hbr : Hid (¬ w.heap.size + 1 + 1 = w2.heap.size) := Lib.hid (by have := (hbl.out.kept B2).lt; omega)
  generalize w2.alloc (.cells #[.int .u16 hd.src, .int .u16 hd.dst, .int .u32 hd.seq, .int .u32 hd.ack, .int .u8 hd.off, .int .u8 hd.ace, .int .u8 hd.fl, .int .u16 hd.win, .int .u16 hd.sum, .int .u16 hd.urg] 27) = W3 at BR R3 A0 A1 BH ⊢
  clear B2 R2 hbl L0
  have b4 := BH.cell 4 rfl
  by_cases hs : (L : Int) < (kb : Int)
  · have HQ : Hid (decG x bs = ((zeroH, [], []), 3)) := Lib.hid (by rw [HE.out, if_pos hs])
    have r0 := BR.cell 0 rfl
    have r1 := BR.cell 1 rfl
    have r2 := BR.cell 2 rfl
    have r3 := BR.cell 3 rfl
    have r4 := BR.cell 4 rfl
    have r5 := BR.cell 5 rfl
    have r6 := BR.cell 6 rfl
    have r7 := BR.cell 7 rfl
    have r8 := BR.cell 8 rfl
    have r9 := BR.cell 9 rfl
    have r10 := BR.cell 10 rfl
    have r11 := BR.cell 11 rfl
    have rf := fun i => BR.frozen i
  
    go_wp2_with fail
    clear b4
    clear r0 r1 r2 r3 r4 r5 r6 r7 r8 r9 r10 r11 rf
    have BZ := blk12 BR (.int .u16 0) (.int .u16 0) (.int .u32 0) (.int .u32 0) (.int .u8 0) (.int .u8 0) (.int .u8 0) (.int .u16 0) (.int .u16 0) (.int .u16 0) (.slice none 0 0) (.string ⟨#[]⟩)
    have LZ := low12 (R3) (show w.heap.size ≤ w.heap.size + 1 + 1 by omega) (.int .u16 0) (.int .u16 0) (.int .u32 0) (.int .u32 0) (.int .u8 0) (.int .u8 0) (.int .u8 0) (.int .u16 0) (.int .u16 0) (.int .u16 0) (.slice none 0 0) (.string ⟨#[]⟩)
    generalize ((((((((((((W3.setCell ⟨w.heap.size + 1 + 1, 0, none⟩ (.int .u16 0)).setCell ⟨w.heap.size + 1 + 1, 1, none⟩ (.int .u16 0)).setCell ⟨w.heap.size + 1 + 1, 2, none⟩ (.int .u32 0)).setCell ⟨w.heap.size + 1 + 1, 3, none⟩ (.int .u32 0)).setCell ⟨w.heap.size + 1 + 1, 4, none⟩ (.int .u8 0)).setCell ⟨w.heap.size + 1 + 1, 5, none⟩ (.int .u8 0)).setCell ⟨w.heap.size + 1 + 1, 6, none⟩ (.int .u8 0)).setCell ⟨w.heap.size + 1 + 1, 7, none⟩ (.int .u16 0)).setCell ⟨w.heap.size + 1 + 1, 8, none⟩ (.int .u16 0)).setCell ⟨w.heap.size + 1 + 1, 9, none⟩ (.int .u16 0)).setCell ⟨w.heap.size + 1 + 1, 10, none⟩ (.slice none 0 0)).setCell ⟨w.heap.size + 1 + 1, 11, none⟩ (.string ⟨#[]⟩)) = WZ at BZ LZ ⊢
    have r0 := BZ.cell 0 rfl
    have r1 := BZ.cell 1 rfl
    have r2 := BZ.cell 2 rfl
    have r3 := BZ.cell 3 rfl
    have r4 := BZ.cell 4 rfl
    have r5 := BZ.cell 5 rfl
    have r6 := BZ.cell 6 rfl
    have r7 := BZ.cell 7 rfl
    have r8 := BZ.cell 8 rfl
    have r9 := BZ.cell 9 rfl
    have r10 := BZ.cell 10 rfl
    have r11 := BZ.cell 11 rfl
    exact bodyPost_ret (v := .tuple #[.agg #[.int .u16 0, .int .u16 0, .int .u32 0, .int .u32 0, .int .u8 0, .int .u8 0, .int .u8 0, .int .u16 0, .int .u16 0, .int .u16 0, .slice none 0 0, .string ⟨#[]⟩], .int .i64 3]) (by simp [results, Try.results13, go_sem, r0, r1, r2, r3, r4, r5, r6, r7, r8, r9, r10, r11]) rfl (decS_err HQ.out LZ)
  · have a0 := A0.cell 0 rfl
    have a1 := A0.cell 1 rfl
    have a2 := A0.cell 2 rfl
    have a3 := A0.cell 3 rfl
    have a4 := A1.cell 0 rfl
    have a5 := A1.cell 1 rfl
    have a6 := A1.cell 2 rfl
    have a7 := A1.cell 3 rfl
    obtain ⟨np, hnp⟩ : ∃ np, kb - 20 = np := ⟨_, rfl⟩
    obtain ⟨nd, hnd⟩ : ∃ nd, L - kb = nd := ⟨_, rfl⟩
    rw [hnp] at HE
    have hkL : kb ≤ L := by omega
    have HT1 := Lib.hid hk1
    have HT2 := Lib.hid hk2
    have HT3 := Lib.hid hkL
    have HNP := Lib.hid hnp
    have HND := Lib.hid hnd
    have H6 : Hid (L ≤ 1000000) := Lib.hid (by have := HL2.out; omega)
    have H5 : Hid (L ≤ 100000) := Lib.hid (by have := HL2.out; omega)
    by_cases hv : ckS (pseG x L ++ bs) = 0
    · have hvd : decide (ckS (pseG x L ++ bs) = 0) = true := by simp [hv]
      have hE2 := HE.out
      rw [if_neg hs, if_neg (by simp [hv])] at hE2
      have HE2 := Lib.hid hE2
      have HVD := Lib.hid hvd
      clear hE2 hv hvd hnp hnd hkL
      go_upto_region 11 with (first
        | (go_at_call 22; refine (ahead_any x (some ⟨g, off, none⟩) L c _ H6.out).mono ?_; rintro e w5 ⟨g5, q5, rfl, O5, B5⟩; have S5 := new_then R3 B5)
        | (go_at_call 29; refine (ver_seg x L c q5 g g5 (some ⟨g, off, none⟩) bs w5 _ _ rfl (HLS.out.kept S5) HL.out HB.out (own_ls O5) HX.out H5.out).mono ?_; rw [HVD.out]; rintro e w6 ⟨rfl, rfl⟩))
      clear a0 a1 a2 a3 a4 a5 a6 a7 b4 e1 o0 o1
      have R5 := new_alloc S5 (.cells #[.slice (some ⟨g5, 0, none⟩) 12 q5, .slice (some ⟨g, off, none⟩) L c] 32)
      replace BR := (BR.kept B5).alloc (.cells #[.slice (some ⟨g5, 0, none⟩) 12 q5, .slice (some ⟨g, off, none⟩) L c] 32)
      replace BH := (BH.kept B5).alloc (.cells #[.slice (some ⟨g5, 0, none⟩) 12 q5, .slice (some ⟨g, off, none⟩) L c] 32)
      generalize w5.alloc (.cells #[.slice (some ⟨g5, 0, none⟩) 12 q5, .slice (some ⟨g, off, none⟩) L c] 32) = W5 at R5 BR BH ⊢
      clear O5 B5 S5 A0 A1 R3
      obtain ⟨oP, hoP⟩ : ∃ oP, (if kb = 20 then off else off + 20) = oP := ⟨_, rfl⟩
      obtain ⟨oD, hoD⟩ : ∃ oD, (if L = kb then off else off + kb) = oD := ⟨_, rfl⟩
      have PL := Lib.hid (piece_ls (HLS.out.kept R5) HNP.out hoP)
      have DL := Lib.hid (piece_ls (HLS.out.kept R5) HND.out hoD)
      have PA := Lib.hid (piece_at g off L c 20 kb np oP W5 HT1.out (Nat.le_trans HT3.out HC.out) HC2.out HNP.out hoP)
      have DA : Hid (∀ w', Calls Try.prog 31 #[.slice (some ⟨g, off, none⟩) L c, .int .i64 kb, .int .i64 L] w' fun e w'' => e = .returned (.slice (some ⟨g, oD, none⟩) nd nd) ∧ w'' = w') := Lib.hid (fun w' => piece_at g off L c kb L nd oD w' HT3.out HC.out HC2.out HND.out hoD)
      have hpl : ((bs.drop 20).take np).length = np := by rw [List.length_take, List.length_drop, HL.out]; have := HT3.out; have := HNP.out; omega
      have hdl : ((bs.drop kb).take nd).length = nd := by rw [List.length_take, List.length_drop, HL.out]; have := HND.out; omega
      have hde : (bs.drop kb).take nd = bs.drop kb := List.take_of_length_le (by rw [List.length_drop, HL.out]; have := HND.out; omega)
      have HPP := Lib.hid (parse12_far (some ⟨g, oP, none⟩) g np np _ W5 PL.out hpl (byt_take (byt_drop HB.out 20) np) (Nat.le_refl _) (by have := HNP.out; have := HT2.out; omega))
      have HDL := Lib.hid hdl
      have HDE := Lib.hid hde
      clear hpl hdl hde hoP hoD hs
      generalize parA ((bs.drop 20).take np) = T at HPP HE2
      obtain ⟨ms, q⟩ := T
      by_cases hq : q = 0
      · subst hq
        have hE3 := HE2.out
        rw [if_neg (by simp)] at hE3
        have HE3 := Lib.hid hE3
        clear hE3
        go_upto_region 14 with (first
          | (go_at_call 31; refine PA.out.mono ?_; rintro e w6 ⟨rfl, rfl⟩)
          | (go_at_call 30; refine HPP.out.mono ?_; rintro e w6 ⟨A6, n6, c6, ys, rfl, X6, m6, l6, d6, B6, rw6, f6⟩))
        have R6 := new_then R5 B6
        replace BR := BR.kept B6
        have HTX := text_ls (w := w6.drew) (c := nd) (show LsK .u8 w6.drew g (some ⟨g, oD, none⟩) ((bs.drop kb).take nd) from (DL.out.kept B6).draw 1) HDL.out
        rw [HDE.out] at HTX
        have b0 := (BH.kept B6).cell 0 rfl
        have b1 := (BH.kept B6).cell 1 rfl
        have b2 := (BH.kept B6).cell 2 rfl
        have b3 := (BH.kept B6).cell 3 rfl
        have b4 := (BH.kept B6).cell 4 rfl
        have b5 := (BH.kept B6).cell 5 rfl
        have b6 := (BH.kept B6).cell 6 rfl
        have b7 := (BH.kept B6).cell 7 rfl
        have b8 := (BH.kept B6).cell 8 rfl
        have b9 := (BH.kept B6).cell 9 rfl
        go_still_tail 9, (by kernel_rfl)
        still_call (DA.out _)
        repeat still_step
        refine wpStill_nil ?_
        clear b0 b1 b2 b3 b4 b5 b6 b7 b8 b9 HTX
        change wpList _ _ _ _ _ w6.drew
        have BD := BR.drew
        have RD := new_drew R6
        have XD := X6.drew 1
        have rD : RowFar w6.drew A6 ys := rw6
        have fD : ∀ y ∈ ys, FarO w6.drew y := f6
        change OptsAt w6.drew A6 n6 ys at XD
        clear BR BH R6 X6 rw6 f6 B6 R5
        generalize w6.drew = W3 at BD RD XD rD fD ⊢
        have r0 := BD.cell 0 rfl
        have r1 := BD.cell 1 rfl
        have r2 := BD.cell 2 rfl
        have r3 := BD.cell 3 rfl
        have r4 := BD.cell 4 rfl
        have r5 := BD.cell 5 rfl
        have r6 := BD.cell 6 rfl
        have r7 := BD.cell 7 rfl
        have r8 := BD.cell 8 rfl
        have r9 := BD.cell 9 rfl
        have r10 := BD.cell 10 rfl
        have r11 := BD.cell 11 rfl
        have rf := fun i => BD.frozen i
      
        go_wp2_with fail
        clear r0 r1 r2 r3 r4 r5 r6 r7 r8 r9 r10 r11 rf
        have BZ := blk12 BD (.int .u16 hd.src) (.int .u16 hd.dst) (.int .u32 hd.seq) (.int .u32 hd.ack) (.int .u8 hd.off) (.int .u8 hd.ace) (.int .u8 hd.fl) (.int .u16 hd.win) (.int .u16 hd.sum) (.int .u16 hd.urg) (.slice A6 n6 c6) (.string (strOfNums (bs.drop kb)))
        have LZ := low12 RD (show w.heap.size ≤ w.heap.size + 1 + 1 by omega) (.int .u16 hd.src) (.int .u16 hd.dst) (.int .u32 hd.seq) (.int .u32 hd.ack) (.int .u8 hd.off) (.int .u8 hd.ace) (.int .u8 hd.fl) (.int .u16 hd.win) (.int .u16 hd.sum) (.int .u16 hd.urg) (.slice A6 n6 c6) (.string (strOfNums (bs.drop kb)))
        have XZ := XD.out rD fD (out12 (g := w.heap.size + 1 + 1) (.int .u16 hd.src) (.int .u16 hd.dst) (.int .u32 hd.seq) (.int .u32 hd.ack) (.int .u8 hd.off) (.int .u8 hd.ace) (.int .u8 hd.fl) (.int .u16 hd.win) (.int .u16 hd.sum) (.int .u16 hd.urg) (.slice A6 n6 c6) (.string (strOfNums (bs.drop kb)))) (fun j t => ty_far t BD (by decide)) (fun j t => ty_far t BD (by decide))
        generalize ((((((((((((W3.setCell ⟨w.heap.size + 1 + 1, 0, none⟩ (.int .u16 hd.src)).setCell ⟨w.heap.size + 1 + 1, 1, none⟩ (.int .u16 hd.dst)).setCell ⟨w.heap.size + 1 + 1, 2, none⟩ (.int .u32 hd.seq)).setCell ⟨w.heap.size + 1 + 1, 3, none⟩ (.int .u32 hd.ack)).setCell ⟨w.heap.size + 1 + 1, 4, none⟩ (.int .u8 hd.off)).setCell ⟨w.heap.size + 1 + 1, 5, none⟩ (.int .u8 hd.ace)).setCell ⟨w.heap.size + 1 + 1, 6, none⟩ (.int .u8 hd.fl)).setCell ⟨w.heap.size + 1 + 1, 7, none⟩ (.int .u16 hd.win)).setCell ⟨w.heap.size + 1 + 1, 8, none⟩ (.int .u16 hd.sum)).setCell ⟨w.heap.size + 1 + 1, 9, none⟩ (.int .u16 hd.urg)).setCell ⟨w.heap.size + 1 + 1, 10, none⟩ (.slice A6 n6 c6)).setCell ⟨w.heap.size + 1 + 1, 11, none⟩ (.string (strOfNums (bs.drop kb)))) = WZ at BZ LZ XZ ⊢
        have r0 := BZ.cell 0 rfl
        have r1 := BZ.cell 1 rfl
        have r2 := BZ.cell 2 rfl
        have r3 := BZ.cell 3 rfl
        have r4 := BZ.cell 4 rfl
        have r5 := BZ.cell 5 rfl
        have r6 := BZ.cell 6 rfl
        have r7 := BZ.cell 7 rfl
        have r8 := BZ.cell 8 rfl
        have r9 := BZ.cell 9 rfl
        have r10 := BZ.cell 10 rfl
        have r11 := BZ.cell 11 rfl
        exact bodyPost_ret (v := .tuple #[.agg #[.int .u16 hd.src, .int .u16 hd.dst, .int .u32 hd.seq, .int .u32 hd.ack, .int .u8 hd.off, .int .u8 hd.ace, .int .u8 hd.fl, .int .u16 hd.win, .int .u16 hd.sum, .int .u16 hd.urg, .slice A6 n6 c6, .string (strOfNums (bs.drop kb))], .int .i64 0]) (by simp [results, Try.results13, go_sem, r0, r1, r2, r3, r4, r5, r6, r7, r8, r9, r10, r11]) rfl (by rw [HE3.out]; exact ⟨A6, n6, c6, ys, rfl, XZ, m6, l6, d6, LZ⟩)
      · go_upto_region 13 with (first
          | (go_at_call 31; refine PA.out.mono ?_; rintro e w6 ⟨rfl, rfl⟩)
          | (go_at_call 30; refine HPP.out.mono ?_; rintro e W3 ⟨A6, n6, c6, ys, rfl, X6, m6, l6, d6, B6, rw6, f6⟩))
        have R6 := new_then R5 B6
        have hE3 := HE2.out
        rw [if_pos (by simpa using hq)] at hE3
        have HE3 := Lib.hid hE3
        clear hE3
        replace BR := BR.kept B6
        have r0 := BR.cell 0 rfl
        have r1 := BR.cell 1 rfl
        have r2 := BR.cell 2 rfl
        have r3 := BR.cell 3 rfl
        have r4 := BR.cell 4 rfl
        have r5 := BR.cell 5 rfl
        have r6 := BR.cell 6 rfl
        have r7 := BR.cell 7 rfl
        have r8 := BR.cell 8 rfl
        have r9 := BR.cell 9 rfl
        have r10 := BR.cell 10 rfl
        have r11 := BR.cell 11 rfl
        have rf := fun i => BR.frozen i
      
        go_wp2_with fail
        clear r0 r1 r2 r3 r4 r5 r6 r7 r8 r9 r10 r11 rf
        have BZ := blk12 BR (.int .u16 0) (.int .u16 0) (.int .u32 0) (.int .u32 0) (.int .u8 0) (.int .u8 0) (.int .u8 0) (.int .u16 0) (.int .u16 0) (.int .u16 0) (.slice none 0 0) (.string ⟨#[]⟩)
        have LZ := low12 (R6) (show w.heap.size ≤ w.heap.size + 1 + 1 by omega) (.int .u16 0) (.int .u16 0) (.int .u32 0) (.int .u32 0) (.int .u8 0) (.int .u8 0) (.int .u8 0) (.int .u16 0) (.int .u16 0) (.int .u16 0) (.slice none 0 0) (.string ⟨#[]⟩)
        generalize ((((((((((((W3.setCell ⟨w.heap.size + 1 + 1, 0, none⟩ (.int .u16 0)).setCell ⟨w.heap.size + 1 + 1, 1, none⟩ (.int .u16 0)).setCell ⟨w.heap.size + 1 + 1, 2, none⟩ (.int .u32 0)).setCell ⟨w.heap.size + 1 + 1, 3, none⟩ (.int .u32 0)).setCell ⟨w.heap.size + 1 + 1, 4, none⟩ (.int .u8 0)).setCell ⟨w.heap.size + 1 + 1, 5, none⟩ (.int .u8 0)).setCell ⟨w.heap.size + 1 + 1, 6, none⟩ (.int .u8 0)).setCell ⟨w.heap.size + 1 + 1, 7, none⟩ (.int .u16 0)).setCell ⟨w.heap.size + 1 + 1, 8, none⟩ (.int .u16 0)).setCell ⟨w.heap.size + 1 + 1, 9, none⟩ (.int .u16 0)).setCell ⟨w.heap.size + 1 + 1, 10, none⟩ (.slice none 0 0)).setCell ⟨w.heap.size + 1 + 1, 11, none⟩ (.string ⟨#[]⟩)) = WZ at BZ LZ ⊢
        have r0 := BZ.cell 0 rfl
        have r1 := BZ.cell 1 rfl
        have r2 := BZ.cell 2 rfl
        have r3 := BZ.cell 3 rfl
        have r4 := BZ.cell 4 rfl
        have r5 := BZ.cell 5 rfl
        have r6 := BZ.cell 6 rfl
        have r7 := BZ.cell 7 rfl
        have r8 := BZ.cell 8 rfl
        have r9 := BZ.cell 9 rfl
        have r10 := BZ.cell 10 rfl
        have r11 := BZ.cell 11 rfl
        exact bodyPost_ret (v := .tuple #[.agg #[.int .u16 0, .int .u16 0, .int .u32 0, .int .u32 0, .int .u8 0, .int .u8 0, .int .u8 0, .int .u16 0, .int .u16 0, .int .u16 0, .slice none 0 0, .string ⟨#[]⟩], .int .i64 q]) (by simp [results, Try.results13, go_sem, r0, r1, r2, r3, r4, r5, r6, r7, r8, r9, r10, r11]) rfl (decS_err HE3.out LZ)
    · have hvd : decide (ckS (pseG x L ++ bs) = 0) = false := by simp [hv]
      have HQ : Hid (decG x bs = ((zeroH, [], []), 6)) := Lib.hid (by rw [HE.out, if_neg hs, if_pos hv])
      have HVD := Lib.hid hvd
      clear hv hvd hnp hnd hkL
      go_upto_region 10 with (first
        | (go_at_call 22; refine (ahead_any x (some ⟨g, off, none⟩) L c _ H6.out).mono ?_; rintro e w5 ⟨g5, q5, rfl, O5, B5⟩; have S5 := new_then R3 B5)
        | (go_at_call 29; refine (ver_seg x L c q5 g g5 (some ⟨g, off, none⟩) bs w5 _ _ rfl (HLS.out.kept S5) HL.out HB.out (own_ls O5) HX.out H5.out).mono ?_; rw [HVD.out]; rintro e w6 ⟨rfl, rfl⟩))
      clear a0 a1 a2 a3 a4 a5 a6 a7 b4 e1 o0 o1
      have R5 := new_alloc S5 (.cells #[.slice (some ⟨g5, 0, none⟩) 12 q5, .slice (some ⟨g, off, none⟩) L c] 32)
      replace BR := (BR.kept B5).alloc (.cells #[.slice (some ⟨g5, 0, none⟩) 12 q5, .slice (some ⟨g, off, none⟩) L c] 32)
      clear BH A0 A1 R3
      generalize w5.alloc (.cells #[.slice (some ⟨g5, 0, none⟩) 12 q5, .slice (some ⟨g, off, none⟩) L c] 32) = W3 at R5 BR ⊢
      have r0 := BR.cell 0 rfl
      have r1 := BR.cell 1 rfl
      have r2 := BR.cell 2 rfl
      have r3 := BR.cell 3 rfl
      have r4 := BR.cell 4 rfl
      have r5 := BR.cell 5 rfl
      have r6 := BR.cell 6 rfl
      have r7 := BR.cell 7 rfl
      have r8 := BR.cell 8 rfl
      have r9 := BR.cell 9 rfl
      have r10 := BR.cell 10 rfl
      have r11 := BR.cell 11 rfl
      have rf := fun i => BR.frozen i
    
      go_wp2_with fail
      clear r0 r1 r2 r3 r4 r5 r6 r7 r8 r9 r10 r11 rf
      have BZ := blk12 BR (.int .u16 0) (.int .u16 0) (.int .u32 0) (.int .u32 0) (.int .u8 0) (.int .u8 0) (.int .u8 0) (.int .u16 0) (.int .u16 0) (.int .u16 0) (.slice none 0 0) (.string ⟨#[]⟩)
      have LZ := low12 (R5) (show w.heap.size ≤ w.heap.size + 1 + 1 by omega) (.int .u16 0) (.int .u16 0) (.int .u32 0) (.int .u32 0) (.int .u8 0) (.int .u8 0) (.int .u8 0) (.int .u16 0) (.int .u16 0) (.int .u16 0) (.slice none 0 0) (.string ⟨#[]⟩)
      generalize ((((((((((((W3.setCell ⟨w.heap.size + 1 + 1, 0, none⟩ (.int .u16 0)).setCell ⟨w.heap.size + 1 + 1, 1, none⟩ (.int .u16 0)).setCell ⟨w.heap.size + 1 + 1, 2, none⟩ (.int .u32 0)).setCell ⟨w.heap.size + 1 + 1, 3, none⟩ (.int .u32 0)).setCell ⟨w.heap.size + 1 + 1, 4, none⟩ (.int .u8 0)).setCell ⟨w.heap.size + 1 + 1, 5, none⟩ (.int .u8 0)).setCell ⟨w.heap.size + 1 + 1, 6, none⟩ (.int .u8 0)).setCell ⟨w.heap.size + 1 + 1, 7, none⟩ (.int .u16 0)).setCell ⟨w.heap.size + 1 + 1, 8, none⟩ (.int .u16 0)).setCell ⟨w.heap.size + 1 + 1, 9, none⟩ (.int .u16 0)).setCell ⟨w.heap.size + 1 + 1, 10, none⟩ (.slice none 0 0)).setCell ⟨w.heap.size + 1 + 1, 11, none⟩ (.string ⟨#[]⟩)) = WZ at BZ LZ ⊢
      have r0 := BZ.cell 0 rfl
      have r1 := BZ.cell 1 rfl
      have r2 := BZ.cell 2 rfl
      have r3 := BZ.cell 3 rfl
      have r4 := BZ.cell 4 rfl
      have r5 := BZ.cell 5 rfl
      have r6 := BZ.cell 6 rfl
      have r7 := BZ.cell 7 rfl
      have r8 := BZ.cell 8 rfl
      have r9 := BZ.cell 9 rfl
      have r10 := BZ.cell 10 rfl
      have r11 := BZ.cell 11 rfl
      exact bodyPost_ret (v := .tuple #[.agg #[.int .u16 0, .int .u16 0, .int .u32 0, .int .u32 0, .int .u8 0, .int .u8 0, .int .u8 0, .int .u16 0, .int .u16 0, .int .u16 0, .slice none 0 0, .string ⟨#[]⟩], .int .i64 6]) (by simp [results, Try.results13, go_sem, r0, r1, r2, r3, r4, r5, r6, r7, r8, r9, r10, r11]) rfl (decS_err HQ.out LZ)

theorem decS_any (x : Ad) (hx : x.ok) (A : Option Addr) (g L c : Nat) (bs : List Int) (w : World) (h : LsK .u8 w g A bs) (hL : bs.length = L) (hb : bytS bs) (hL2 : L ≤ 1000) (hc : L ≤ c) (hc2 : c ≤ 9223372036854775807) :
    Calls Try.prog 13 #[.agg #[.int .u8 x.a, .int .u8 x.b, .int .u8 x.c, .int .u8 x.d], .agg #[.int .u8 x.e, .int .u8 x.f, .int .u8 x.g, .int .u8 x.h], .slice A L c] w (DecS w (decG x bs)) := by
  by_cases hl : L < 20
  · have e : decG x bs = ((zeroH, [], []), 3) := by unfold decG; rw [if_pos (by omega)]
    rw [e]
    exact decS_short x A L c w hl
  · rcases h with rfl | ⟨off, rfl, h⟩
    · simp at hL; omega
    · have h' : LsK .u8 w g (some ⟨g, off, none⟩) bs := .inr ⟨off, rfl, h⟩
      by_cases hn : isF bs
      · exact decS_yes x hx g off L c bs w h' hL hb (by omega) hL2 hc hc2 hn
      · have e : decG x bs = ((zeroH, [], []), 5) := by unfold decG; rw [if_neg (by omega), if_pos (by exact hn)]
        rw [e]
        exact decS_not x g off L c bs w h' hL hb (by omega) hL2 hn
end Go.Proofs.Ytnkcnfkonifmhaa
